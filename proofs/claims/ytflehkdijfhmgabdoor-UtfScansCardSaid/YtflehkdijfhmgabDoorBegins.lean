/- The contract of the document's begins: whether some bytes are a beginning of a sequence, and not the whole. -/
import Derived.Test.YtflehkdijfhmgabDoorBegMath
import Derived.Deep.QuietTactic
import Derived.BigQuiet
import Derived.WalkSmall
namespace Go.Proofs.YtflehkdijfhmgabDoor
open Go.RowKit

theorem app_list (a b : List UInt8) : (⟨a.toArray⟩ : ByteArray) ++ ⟨b.toArray⟩ = ⟨(a ++ b).toArray⟩ := by
  apply ByteArray.ext
  simp
def strLen : Value → Nat | .string s => s.size | _ => 0
theorem rep_succ (l : List UInt8) (j : Nat) (c : UInt8) : l ++ List.replicate j c ++ [c] = l ++ List.replicate (j + 1) c := by
  rw [List.append_assoc, ← List.replicate_succ']

theorem conv_list (w : World) (l : List UInt8) (zs : Array Value) (n : Nat) (hn : l.length = n) (hz : zs.toList = l.map (fun b => Value.int .u8 (b.toNat : Int))) :
    (convert 30 9 (.slice (some ⟨w.heap.size, 0, none⟩) n n)).run Tryd.prog (w.alloc (.cells zs 5)).drew = .ok (.string ⟨l.toArray⟩) (w.alloc (.cells zs 5)).drew := by
  subst hn
  refine run_convert_bytes_back _ 30 9 5 ⟨w.heap.size, 0, none⟩ l.length l Tryd.underlying30 Tryd.underlying5 Tryd.underlying9 (fun j hj => ?_)
  rw [show (⟨w.heap.size, 0, none⟩ : Addr).add j = ⟨w.heap.size, j, none⟩ by unfold Addr.add; split <;> simp_all]
  rw [cell_of_row _ w.heap.size j zs 5 (0, 0) (show (w.heap.push (.cells zs 5))[w.heap.size]? = _ by simp)]
  have : zs[j]? = (l.map (fun b => Value.int .u8 (b.toNat : Int)))[j]? := by rw [← hz]; simp
  rw [this]; simp [hj]
theorem tl_one (l : List UInt8) (n t u : Nat) (h : l.length = 1) : tl l n t u = l ++ [UInt8.ofNat (128 + t)] ++ List.replicate (n - 2) (fill u) := if_pos h
theorem tl_more (l : List UInt8) (n t u : Nat) (h : ¬ l.length = 1) : tl l n t u = l ++ List.replicate (n - l.length) (fill u) := if_neg h
theorem tl_len (l : List UInt8) (n t u : Nat) (h : l.length < n) : (tl l n t u).length = n := by
  unfold tl
  split <;> simp <;> omega

theorem one_str (l a : List UInt8) (bb : UInt8) (n t j : Nat) (v : UInt8) (h : l.length = 1) (hj : 1 + j = n) (hb : (bb.toNat : Int) = 128 + t) (ha : a = l ++ List.replicate (n - l.length) v) :
    (⟨l.toArray⟩ : ByteArray) ++ ⟨[bb].toArray⟩ ++ (⟨a.toArray⟩ : ByteArray).extract 2 (l.length + j) = ⟨(l ++ [UInt8.ofNat (128 + t)] ++ List.replicate (n - 2) v).toArray⟩ := by
  have e1 : UInt8.ofNat (128 + t) = bb := by
    have h0 : 128 + t = bb.toNat := by omega
    rw [h0]; simp
  have e2 : a.length = l.length + j := by rw [ha]; simp; omega
  have e3 : a.drop 2 = List.replicate (n - 2) v := by
    rw [ha, List.drop_append, h, List.drop_of_length_le (by omega), List.nil_append, List.drop_replicate]
    congr 1
  rw [app_list, ← e2, ext_drop a 2, app_list, e1, e3]

set_option maxHeartbeats 1000000 in
theorem begins_any (l : List UInt8) (w : World) (h : l ≠ []) (hl : l.length ≤ 1000000000000) :
    Calls Tryd.prog 28 #[.string ⟨l.toArray⟩] w fun e w' => e = .returned (.bool (frst (ib l)).isNone) ∧ Below w.heap.size w w' := by
  have h1 : 1 ≤ l.length := by cases l with | nil => exact absurd rfl h | cons => simp
  have hsz : 0 < (⟨l.toArray⟩ : ByteArray).size := by show 0 < l.toArray.size; simp; omega
  obtain ⟨b0, b1⟩ := byt_bd l 0
  have he := byt_eq l 0 hsz
  obtain ⟨c, hc⟩ : ∃ c, c = byt l 0 := ⟨_, rfl⟩
  rw [← hc] at he b0 b1
  have hn4 : 0 ≤ rlN c ∧ rlN c ≤ 4 := by unfold rlN; omega
  obtain ⟨n, hn⟩ : ∃ n : Nat, rlN c = n := ⟨(rlN c).toNat, by omega⟩
  have HY := hid (fun h0 => beg_yes l n h h0 (by rw [← hc]; exact hn))
  clear hc
  by_cases hs : n ≤ l.length
  · have HR := hid (show (frst (ib l)).isNone = false by
      cases e : frst (ib l) with
      | none => have := (HY.out e).1; omega
      | some x => rfl)
    go_enter Tryd.func28, Tryd.ntmps28
    go_wp2_with (go_at_call 37; refine (rlead_any _ _ b0 b1).mono ?_; rintro e w' ⟨rfl, rfl⟩)
    go_ret
    exact ⟨by rw [HR.out]; rfl, Below.refl _ _⟩
  · have hln : l.length < n := by omega
    have HNO := hid (fun (x : Nat × Int × Bool) (e : frst (ib l) = some x) (i k : Nat) => beg_no l n i k x e hln)
    go_enter Tryd.func28, Tryd.ntmps28
    go_wp2_with (go_at_call 37; refine (rlead_any _ _ b0 b1).mono ?_; rintro e w' ⟨rfl, hw'⟩; obtain rfl := hw'.symm; clear hw')
    go_loopw [5, 6] (fun lo hi wr => ∃ (j : Nat) (a b : List UInt8), l.length + j ≤ n ∧ lo = .string ⟨a.toArray⟩ ∧ hi = .string ⟨b.toArray⟩ ∧ Hid (a = l ++ List.replicate j 128) ∧ Hid (b = l ++ List.replicate j 191) ∧ a.length = l.length + j ∧ b.length = l.length + j ∧ wr = w) (fun lo _ _ => n - strLen lo)
    case atStart => exact ⟨0, l, l, by omega, rfl, rfl, by show l = _; simp, by show l = _; simp, by omega, by omega, rfl⟩
    case round =>
      obtain ⟨j, a, b, hj, rfl, rfl, HA, HB, hal, hbl, hwr⟩ := hrel
      obtain rfl := hwr.symm
      clear hwr
      by_cases hlt : l.length + j < n
      · go_wp2
        go_roundw
        case rel => exact ⟨j + 1, a ++ [128], b ++ [191], by omega, congrArg Value.string (app_list a [128]), congrArg Value.string (app_list b [191]), by show _ = _; rw [HA.out]; exact rep_succ _ _ _, by show _ = _; rw [HB.out]; exact rep_succ _ _ _, by simp; omega, by simp; omega, by first | rfl | trivial⟩
        case measure =>
          simp only [strLen, ByteArray.size_append]
          show n - (a.toArray.size + 1) < n - a.toArray.size
          simp
          omega
      · have hje : j = n - l.length := by omega
        have HA1 := hid (show a = l ++ List.replicate (n - l.length) 128 by rw [← hje]; exact HA.out)
        have HB1 := hid (show b = l ++ List.replicate (n - l.length) 191 by rw [← hje]; exact HB.out)
        clear hje HA HB
        go_wp2
        go_loopw [7] (fun i wq => ∃ t : Nat, t ≤ 64 ∧ i = .int .i64 t ∧ Hid (∀ i' k', i' < t → k' < 2 → (dec (tl l n i' k')).2 ≠ n) ∧ Below w.heap.size w wq) (fun i _ => 64 - (intOf i).toNat)
        case atStart => exact ⟨0, by omega, rfl, fun i' _ h' => absurd h' (Nat.not_lt_zero _), Below.refl _ _⟩
        case round =>
          obtain ⟨t, ht, rfl, HNT, hBt⟩ := hrel
          by_cases ht64 : t < 64
          · go_wp2
            rw [show decide ((t : Int) < 64) = true from decide_eq_true (by omega)]
            go_loopw [8] (fun k wi => ∃ u : Nat, u ≤ 2 ∧ k = .int .i64 u ∧ Hid (∀ k', k' < u → (dec (tl l n t k')).2 ≠ n) ∧ Below w.heap.size w wi) (fun k _ => 2 - (intOf k).toNat)
            case atStart => exact ⟨0, by omega, rfl, fun _ h' => absurd h' (Nat.not_lt_zero _), hBt⟩
            case round =>
              obtain ⟨u, hu, rfl, HNU, hBu⟩ := hrel
              by_cases hu2 : u < 2
              · by_cases hone : l.length = 1
                · have hone' : ((l.length : Int) == 1) = true := beq_iff_eq.2 (by omega)
                  have HONE := hid hone
                  clear hone
                  obtain ⟨bb, hbb⟩ : ∃ bb : UInt8, (bb.toNat : Int) = 128 + t := ⟨UInt8.ofNat (128 + t), by rw [of128 t ht64]; omega⟩
                  by_cases hu0 : u = 0
                  · have hu0' : ((u : Int) == 1) = false := beq_eq_false_iff_ne.2 (by omega)
                    have HF := hid (show fill u = 128 by rw [hu0]; rfl)
                    clear hu0
                    have hcv := conv_list wr [bb] #[.int .u8 (128 + t)] 1 rfl (by simp [hbb])
                    have HBB := hid hbb
                    have HBQ := hid (show Below w.heap.size w (wr.alloc (.cells #[.int .u8 (128 + t)] 5)).drew from (hBu.alloc hBu.size _).drew)
                    clear hbb
                    go_wp2_with fail
                    go_region
                    clear hcv
                    obtain ⟨W, hW⟩ : ∃ W, W = (wr.alloc (.cells #[.int .u8 (128 + t)] 5)).drew := ⟨_, rfl⟩
                    rw [← hW] at HBQ ⊢
                    clear hW
                    go_wp2_with fail
                    refine (rdec_eq _ (tl l n t u) _ (by rw [tl_one l n t u HONE.out, HF.out]; exact one_str l a bb n t j 128 HONE.out (by have := HONE.out; omega) HBB.out HA1.out) (by rw [tl_len l n t u hln]; omega)).mono ?_
                    rintro e w2 ⟨rfl, hw2⟩
                    obtain rfl := hw2.symm
                    clear hw2
                    obtain ⟨r1, hr1⟩ : ∃ r1, r1 = (dec (tl l n t u)).1 := ⟨_, rfl⟩
                    obtain ⟨n1, hn1⟩ : ∃ n1, n1 = (dec (tl l n t u)).2 := ⟨_, rfl⟩
                    rw [← hr1, ← hn1]
                    have HN1 := hid hn1
                    clear hr1 hn1
                    by_cases hw : n1 = n
                    · have hw' : ((n1 : Int) == n) = true := beq_iff_eq.2 (by omega)
                      have HR := hid (show (frst (ib l)).isNone = true by
                        cases e : frst (ib l) with
                        | none => rfl
                        | some x => exact absurd (HN1.out.symm.trans hw) (HNO.out x e t u))
                      clear hw
                      go_wp2
                      go_ret
                      exact ⟨by rw [HR.out]; rfl, HBQ.out⟩
                    · have hw' : ((n1 : Int) == n) = false := beq_eq_false_iff_ne.2 (by omega)
                      have HN2 := hid (show ∀ k', k' < u + 1 → (dec (tl l n t k')).2 ≠ n from fun k' h' => by
                        by_cases e : k' < u
                        · exact HNU.out k' e
                        · obtain rfl : k' = u := by omega
                          rw [← HN1.out]; exact hw)
                      clear hw
                      go_wp2
                      go_roundw
                      case rel => exact ⟨u + 1, by omega, by go_num, HN2, HBQ.out⟩
                      case measure => simp [intOf]; omega
                  · have hu0' : ((u : Int) == 1) = true := beq_iff_eq.2 (by omega)
                    have HF := hid (show fill u = 191 by rw [show u = 1 by omega]; rfl)
                    clear hu0
                    have hcv := conv_list wr [bb] #[.int .u8 (128 + t)] 1 rfl (by simp [hbb])
                    have HBB := hid hbb
                    have HBQ := hid (show Below w.heap.size w (wr.alloc (.cells #[.int .u8 (128 + t)] 5)).drew from (hBu.alloc hBu.size _).drew)
                    clear hbb
                    go_wp2_with fail
                    go_region
                    clear hcv
                    obtain ⟨W, hW⟩ : ∃ W, W = (wr.alloc (.cells #[.int .u8 (128 + t)] 5)).drew := ⟨_, rfl⟩
                    rw [← hW] at HBQ ⊢
                    clear hW
                    go_wp2_with fail
                    refine (rdec_eq _ (tl l n t u) _ (by rw [tl_one l n t u HONE.out, HF.out]; exact one_str l b bb n t j 191 HONE.out (by have := HONE.out; omega) HBB.out HB1.out) (by rw [tl_len l n t u hln]; omega)).mono ?_
                    rintro e w2 ⟨rfl, hw2⟩
                    obtain rfl := hw2.symm
                    clear hw2
                    obtain ⟨r1, hr1⟩ : ∃ r1, r1 = (dec (tl l n t u)).1 := ⟨_, rfl⟩
                    obtain ⟨n1, hn1⟩ : ∃ n1, n1 = (dec (tl l n t u)).2 := ⟨_, rfl⟩
                    rw [← hr1, ← hn1]
                    have HN1 := hid hn1
                    clear hr1 hn1
                    by_cases hw : n1 = n
                    · have hw' : ((n1 : Int) == n) = true := beq_iff_eq.2 (by omega)
                      have HR := hid (show (frst (ib l)).isNone = true by
                        cases e : frst (ib l) with
                        | none => rfl
                        | some x => exact absurd (HN1.out.symm.trans hw) (HNO.out x e t u))
                      clear hw
                      go_wp2
                      go_ret
                      exact ⟨by rw [HR.out]; rfl, HBQ.out⟩
                    · have hw' : ((n1 : Int) == n) = false := beq_eq_false_iff_ne.2 (by omega)
                      have HN2 := hid (show ∀ k', k' < u + 1 → (dec (tl l n t k')).2 ≠ n from fun k' h' => by
                        by_cases e : k' < u
                        · exact HNU.out k' e
                        · obtain rfl : k' = u := by omega
                          rw [← HN1.out]; exact hw)
                      clear hw
                      go_wp2
                      go_roundw
                      case rel => exact ⟨u + 1, by omega, by go_num, HN2, HBQ.out⟩
                      case measure => simp [intOf]; omega
                · have hone' : ((l.length : Int) == 1) = false := beq_eq_false_iff_ne.2 (by omega)
                  by_cases hu0 : u = 0
                  · have hu0' : ((u : Int) == 1) = false := beq_eq_false_iff_ne.2 (by omega)
                    have HF := hid (show fill u = 128 by rw [hu0]; rfl)
                    clear hu0
                    go_wp2_with fail
                    refine (rdec_eq _ (tl l n t u) _ (by rw [tl_more l n t u hone, HF.out]; exact congrArg (fun x : List UInt8 => (⟨x.toArray⟩ : ByteArray)) HA1.out) (by rw [tl_len l n t u hln]; omega)).mono ?_
                    rintro e w2 ⟨rfl, hw2⟩
                    obtain rfl := hw2.symm
                    clear hw2
                    obtain ⟨r1, hr1⟩ : ∃ r1, r1 = (dec (tl l n t u)).1 := ⟨_, rfl⟩
                    obtain ⟨n1, hn1⟩ : ∃ n1, n1 = (dec (tl l n t u)).2 := ⟨_, rfl⟩
                    rw [← hr1, ← hn1]
                    have HN1 := hid hn1
                    clear hr1 hn1
                    by_cases hw : n1 = n
                    · have hw' : ((n1 : Int) == n) = true := beq_iff_eq.2 (by omega)
                      have HR := hid (show (frst (ib l)).isNone = true by
                        cases e : frst (ib l) with
                        | none => rfl
                        | some x => exact absurd (HN1.out.symm.trans hw) (HNO.out x e t u))
                      clear hw
                      go_wp2
                      go_ret
                      exact ⟨by rw [HR.out]; rfl, hBu⟩
                    · have hw' : ((n1 : Int) == n) = false := beq_eq_false_iff_ne.2 (by omega)
                      have HN2 := hid (show ∀ k', k' < u + 1 → (dec (tl l n t k')).2 ≠ n from fun k' h' => by
                        by_cases e : k' < u
                        · exact HNU.out k' e
                        · obtain rfl : k' = u := by omega
                          rw [← HN1.out]; exact hw)
                      clear hw
                      go_wp2
                      go_roundw
                      case rel => exact ⟨u + 1, by omega, by go_num, HN2, hBu⟩
                      case measure => simp [intOf]; omega
                  · have hu0' : ((u : Int) == 1) = true := beq_iff_eq.2 (by omega)
                    have HF := hid (show fill u = 191 by rw [show u = 1 by omega]; rfl)
                    clear hu0
                    go_wp2_with fail
                    refine (rdec_eq _ (tl l n t u) _ (by rw [tl_more l n t u hone, HF.out]; exact congrArg (fun x : List UInt8 => (⟨x.toArray⟩ : ByteArray)) HB1.out) (by rw [tl_len l n t u hln]; omega)).mono ?_
                    rintro e w2 ⟨rfl, hw2⟩
                    obtain rfl := hw2.symm
                    clear hw2
                    obtain ⟨r1, hr1⟩ : ∃ r1, r1 = (dec (tl l n t u)).1 := ⟨_, rfl⟩
                    obtain ⟨n1, hn1⟩ : ∃ n1, n1 = (dec (tl l n t u)).2 := ⟨_, rfl⟩
                    rw [← hr1, ← hn1]
                    have HN1 := hid hn1
                    clear hr1 hn1
                    by_cases hw : n1 = n
                    · have hw' : ((n1 : Int) == n) = true := beq_iff_eq.2 (by omega)
                      have HR := hid (show (frst (ib l)).isNone = true by
                        cases e : frst (ib l) with
                        | none => rfl
                        | some x => exact absurd (HN1.out.symm.trans hw) (HNO.out x e t u))
                      clear hw
                      go_wp2
                      go_ret
                      exact ⟨by rw [HR.out]; rfl, hBu⟩
                    · have hw' : ((n1 : Int) == n) = false := beq_eq_false_iff_ne.2 (by omega)
                      have HN2 := hid (show ∀ k', k' < u + 1 → (dec (tl l n t k')).2 ≠ n from fun k' h' => by
                        by_cases e : k' < u
                        · exact HNU.out k' e
                        · obtain rfl : k' = u := by omega
                          rw [← HN1.out]; exact hw)
                      clear hw
                      go_wp2
                      go_roundw
                      case rel => exact ⟨u + 1, by omega, by go_num, HN2, hBu⟩
                      case measure => simp [intOf]; omega
              · have HN2 := hid (show ∀ i' k', i' < t + 1 → k' < 2 → (dec (tl l n i' k')).2 ≠ n from fun i' k' h1 h2 => by
                  by_cases e : i' < t
                  · exact HNT.out i' k' e h2
                  · obtain rfl : i' = t := by omega
                    exact HNU.out k' (by omega))
                go_wp2
                go_roundw
                case rel => exact ⟨t + 1, by omega, by go_num, HN2, hBu⟩
                case measure => simp [intOf]; omega
          · have HR := hid (show (frst (ib l)).isNone = false by
              cases e : frst (ib l) with
              | none => obtain ⟨_, i, hi, h0⟩ := HY.out e; exact absurd h0 (HNT.out i 0 (by omega) (by omega))
              | some x => rfl)
            go_wp2
            go_ret
            exact ⟨by rw [HR.out]; rfl, hBt⟩
end Go.Proofs.YtflehkdijfhmgabDoor
