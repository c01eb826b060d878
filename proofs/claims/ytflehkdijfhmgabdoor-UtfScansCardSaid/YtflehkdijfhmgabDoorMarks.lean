/- The contract of the document's Marks: the runes of a text, each with its place, its width, itself and whether it is a fault. -/
import Derived.Test.YtflehkdijfhmgabDoorRef
import Derived.Test.YtflehkdijfhmgabDoorScan
import Derived.Lib.MapLaws
namespace Go.Proofs.YtflehkdijfhmgabDoor
open Go.RowKit

theorem dec_eqL (l : List UInt8) (h : l ≠ []) : dec l = Lib.decodeL l := by
  unfold dec
  rw [if_neg h]
  unfold Lib.decodeGo
  have hs : (⟨l.toArray⟩ : ByteArray).size = l.length := by show l.toArray.size = _; simp
  rw [if_neg (by rw [hs]; exact fun e => h (List.length_eq_zero_iff.1 e))]
  rfl
theorem dec_ge (l : List UInt8) (h : l ≠ []) : 1 ≤ (dec l).2 := by rw [dec_eqL l h]; exact Lib.decodeL_width l
theorem dec_le (l : List UInt8) (h : l ≠ []) : (dec l).2 ≤ l.length := by rw [dec_eqL l h]; exact Lib.decodeL_le l h
theorem dec_rune (l : List UInt8) (h : l ≠ []) : (dec l).1 ≤ 1114111 := by rw [dec_eqL l h]; exact Lib.decodeL_rune l

/-- The mark of the first rune. -/
def mk1 (p : Nat) (l : List UInt8) : Mk := ⟨p, (dec l).2, (dec l).1, decide ((dec l).2 = 1) && decide ((dec l).1 = 65533)⟩

def mksF : Nat → Nat → List UInt8 → List Mk
  | 0, _, _ => []
  | k + 1, p, l => if l = [] then [] else mk1 p l :: mksF k (p + (dec l).2) (l.drop (dec l).2)

theorem mksF_any : ∀ (k k' p : Nat) (l : List UInt8), l.length ≤ k → l.length ≤ k' → mksF k p l = mksF k' p l
  | 0, 0, _, _, _, _ => rfl
  | 0, k' + 1, p, l, h, _ => by
    have : l = [] := List.length_eq_zero_iff.1 (by omega)
    subst this; simp [mksF]
  | k + 1, 0, p, l, _, h => by
    have : l = [] := List.length_eq_zero_iff.1 (by omega)
    subst this; simp [mksF]
  | k + 1, k' + 1, p, l, h, h' => by
    unfold mksF
    by_cases e : l = []
    · simp [e]
    · rw [if_neg e, if_neg e]
      have := dec_ge l e
      rw [mksF_any k k' (p + (dec l).2) (l.drop (dec l).2) (by simp; omega) (by simp; omega)]

/-- The marks of a text that begins at a place. -/
def mks (p : Nat) (l : List UInt8) : List Mk := mksF l.length p l
theorem mks_nil (p : Nat) : mks p [] = [] := rfl
theorem mks_cons (p : Nat) (l : List UInt8) (h : l ≠ []) : mks p l = mk1 p l :: mks (p + (dec l).2) (l.drop (dec l).2) := by
  have h1 := dec_ge l h
  have h2 := dec_le l h
  unfold mks
  rw [mksF_any l.length (l.length - 1 + 1) p l (by omega) (by omega)]
  conv => lhs; unfold mksF
  rw [if_neg h, mksF_any (l.length - 1) (l.drop (dec l).2).length _ _ (by simp; omega) (by omega)]

/-- What was found so far and what is to come make the whole. -/
def PartM (l : List UInt8) (ms : List Mk) (t : Nat) : Prop := t ≤ l.length ∧ ms ++ mks t (l.drop t) = mks 0 l ∧ ms.length ≤ t
theorem PartM.start (l : List UInt8) : PartM l [] 0 := by simp [PartM]
theorem PartM.step {l : List UInt8} {ms : List Mk} {t : Nat} (h : PartM l ms t) (ht : t < l.length) : PartM l (ms ++ [mk1 t (l.drop t)]) (t + (dec (l.drop t)).2) := by
  obtain ⟨h1, h2, h3⟩ := h
  have hne : l.drop t ≠ [] := fun e => by have := congrArg List.length e; simp at this; omega
  have g1 := dec_ge _ hne
  have g2 := dec_le _ hne
  simp only [List.length_drop] at g2
  refine ⟨by omega, ?_, by simp; omega⟩
  rw [← h2, mks_cons t (l.drop t) hne]
  simp [List.drop_drop]
theorem PartM.done {l : List UInt8} {ms : List Mk} {t : Nat} (h : PartM l ms t) (ht : ¬ t < l.length) : ms = mks 0 l := by
  have h2 := h.2.1
  rw [List.drop_of_length_le (by omega), mks_nil] at h2
  simpa using h2

theorem rdec_eq (s : ByteArray) (l : List UInt8) (w : World) (hs : s = ⟨l.toArray⟩) (hl : l.length ≤ 1000000000000) :
    Calls Tryd.prog 29 #[.string s] w fun e w' => e = .returned (.tuple #[.int .i32 (dec l).1, .int .i64 (dec l).2]) ∧ w' = w := by
  subst hs
  exact rdec_any l w hl

set_option maxHeartbeats 1000000 in
theorem marks_any (l : List UInt8) (w : World) (hl : l.length ≤ 1000000000000) :
    Calls Tryd.prog 18 #[.string ⟨l.toArray⟩] w fun e w' => ∃ v, e = .returned v ∧ w'.ownsRow w.heap.size 50 4 v (mks 0 l).length (mkcs (mks 0 l)) ∧ Below w.heap.size w w' := by
  obtain ⟨i0, hi, hz0, hz1, hz2⟩ := info_parts Tryd.info50
  go_enter Tryd.func18, Tryd.ntmps18
  go_wp2
  go_loopw [3, 4] (fun v i wr => ∃ (t : Nat) (q : Int) (ms : List Mk), i = .int .i64 q ∧ q = t ∧ Hid (PartM l ms t) ∧ wr.ownsRow w.heap.size 50 4 v ms.length (mkcs ms) ∧ Below w.heap.size w wr) (fun _ i _ => l.length - (intOf i).toNat)
  case atStart => exact ⟨0, 0, [], rfl, rfl, PartM.start l, World.ownsRow_nil _ _ _ _, Below.refl _ _⟩
  case round =>
    obtain ⟨t, q, ms, rfl, rfl, HP, hown, hB⟩ := hrel
    have htl : t ≤ l.length := HP.out.1
    have hml : ms.length ≤ t := HP.out.2.2
    by_cases hlt : t < l.length
    · have hne : l.drop t ≠ [] := fun e => by have := congrArg List.length e; simp at this; omega
      have g1 := dec_ge _ hne
      have g2 := dec_le _ hne
      have g3 := dec_rune _ hne
      simp only [List.length_drop] at g2
      have HS := hid (HP.out.step hlt)
      have HK := hid (show mk1 t (l.drop t) = ⟨t, (dec (l.drop t)).2, (dec (l.drop t)).1, decide ((dec (l.drop t)).2 = 1) && decide ((dec (l.drop t)).1 = 65533)⟩ from rfl)
      clear hne
      go_wp2_with fail
      refine (rdec_eq _ (l.drop t) _ (ext_drop l t) (by simp; omega)).mono ?_
      rintro e w1 ⟨rfl, rfl⟩
      generalize (dec (l.drop t)).1 = rr at *
      generalize (dec (l.drop t)).2 = nn at *
      rw [HK.out] at HS
      clear HK HP
      by_cases hn1 : nn = 1
      · by_cases hr1 : rr = 65533
        · have e : (decide (nn = 1) && decide (rr = 65533)) = true := by simp [hn1, hr1]
          rw [e] at HS
          have t1 : (((nn : Int)) == 1) = true := beq_iff_eq.2 (by omega)
          have t2 : (((rr : Int)) == 65533) = true := beq_iff_eq.2 (by omega)
          clear hn1 hr1 e
          have hB1s := hB.size
          go_wp2_with (at_builtin; refine wpList_append_own _ rfl _ _ 38 rfl w.heap.size 50 i0 (.agg #[.int .i64 0, .int .i64 0, .int .i32 0, .bool false]) 4 24 Tryd.underlying38 hi hz0 hz1 hz2 rfl (by decide) _ _ _ rfl (hown.alloc _) ⟨w1.heap.size, 0, none⟩ 1 1 (mkc ⟨t, nn, rr, true⟩) rfl rfl (news_one w1 #[.int .i64 t, .int .i64 nn, .int .i32 rr, .bool true] 50) (mkc_one _) (by unfold maxLen; omega) (by omega) (by simp; omega) ?_)
          intro v' w2 hown' hgrow _
          have hB2 : Below w.heap.size w w2 := (hB.alloc hB.size _).grown hgrow (by simp; omega) (fun k hk => (hown.lt k hk).1)
          have hown2 : w2.ownsRow w.heap.size 50 4 v' (ms ++ [Mk.mk t nn rr true]).length (mkcs (ms ++ [Mk.mk t nn rr true])) := by rw [mkcs_snoc, List.length_append]; exact hown'
          clear hown' hgrow hown hB
          go_wp2
          go_roundw
          case rel => exact ⟨t + nn, _, _, rfl, by omega, HS, hown2, hB2⟩
          case measure => simp [intOf]; omega
        · have e : (decide (nn = 1) && decide (rr = 65533)) = false := by simp [hr1]
          rw [e] at HS
          have t1 : (((nn : Int)) == 1) = true := beq_iff_eq.2 (by omega)
          have t2 : (((rr : Int)) == 65533) = false := beq_eq_false_iff_ne.2 (by omega)
          clear hn1 hr1 e
          have hB1s := hB.size
          go_wp2_with (at_builtin; refine wpList_append_own _ rfl _ _ 38 rfl w.heap.size 50 i0 (.agg #[.int .i64 0, .int .i64 0, .int .i32 0, .bool false]) 4 24 Tryd.underlying38 hi hz0 hz1 hz2 rfl (by decide) _ _ _ rfl (hown.alloc _) ⟨w1.heap.size, 0, none⟩ 1 1 (mkc ⟨t, nn, rr, false⟩) rfl rfl (news_one w1 #[.int .i64 t, .int .i64 nn, .int .i32 rr, .bool false] 50) (mkc_one _) (by unfold maxLen; omega) (by omega) (by simp; omega) ?_)
          intro v' w2 hown' hgrow _
          have hB2 : Below w.heap.size w w2 := (hB.alloc hB.size _).grown hgrow (by simp; omega) (fun k hk => (hown.lt k hk).1)
          have hown2 : w2.ownsRow w.heap.size 50 4 v' (ms ++ [Mk.mk t nn rr false]).length (mkcs (ms ++ [Mk.mk t nn rr false])) := by rw [mkcs_snoc, List.length_append]; exact hown'
          clear hown' hgrow hown hB
          go_wp2
          go_roundw
          case rel => exact ⟨t + nn, _, _, rfl, by omega, HS, hown2, hB2⟩
          case measure => simp [intOf]; omega
      · have e : (decide (nn = 1) && decide (rr = 65533)) = false := by simp [hn1]
        rw [e] at HS
        have t1 : (((nn : Int)) == 1) = false := beq_eq_false_iff_ne.2 (by omega)
        clear hn1 e
        have hB1s := hB.size
        go_wp2_with (at_builtin; refine wpList_append_own _ rfl _ _ 38 rfl w.heap.size 50 i0 (.agg #[.int .i64 0, .int .i64 0, .int .i32 0, .bool false]) 4 24 Tryd.underlying38 hi hz0 hz1 hz2 rfl (by decide) _ _ _ rfl (hown.alloc _) ⟨w1.heap.size, 0, none⟩ 1 1 (mkc ⟨t, nn, rr, false⟩) rfl rfl (news_one w1 #[.int .i64 t, .int .i64 nn, .int .i32 rr, .bool false] 50) (mkc_one _) (by unfold maxLen; omega) (by omega) (by simp; omega) ?_)
        intro v' w2 hown' hgrow _
        have hB2 : Below w.heap.size w w2 := (hB.alloc hB.size _).grown hgrow (by simp; omega) (fun k hk => (hown.lt k hk).1)
        have hown2 : w2.ownsRow w.heap.size 50 4 v' (ms ++ [Mk.mk t nn rr false]).length (mkcs (ms ++ [Mk.mk t nn rr false])) := by rw [mkcs_snoc, List.length_append]; exact hown'
        clear hown' hgrow hown hB
        go_wp2
        go_roundw
        case rel => exact ⟨t + nn, _, _, rfl, by omega, HS, hown2, hB2⟩
        case measure => simp [intOf]; omega
    · have HD := hid (HP.out.done hlt)
      go_wp2
      go_ret
      exact ⟨_, rfl, by rw [← HD.out]; exact hown, hB⟩
end Go.Proofs.YtflehkdijfhmgabDoor
