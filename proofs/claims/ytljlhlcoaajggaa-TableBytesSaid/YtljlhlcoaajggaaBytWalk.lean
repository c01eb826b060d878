/- The walk of TableBytes. -/
import Derived.Laws.IdiomStrings
import Derived.Laws.AppendOwnNone
import Derived.Test.YtljlhlcoaajggaaRTakeAll
import Derived.Test.YtljlhlcoaajggaaRLoad
import Derived.Test.YtljlhlcoaajggaaMixAll
namespace Go.Proofs.Ytljlhlcoaajggaa
open Go.RowKit

theorem row_e5 (w : World) : (w.alloc (.cells #[] 5)).ownsRow w.heap.size 5 1 (.slice (some ⟨w.heap.size, 0, none⟩) 0 0) 0 [] :=
  ⟨by simp, .inr ⟨w.heap.size, 0, #[], rfl, Nat.le_refl _, heap_alloc_new w _, Nat.le_refl _, by simp [maxLen], by simp, by simp⟩⟩
theorem u8n_ones (b : List Nat) : ∀ u ∈ u8n b, u.oneCell' = true := by
  intro u hu
  obtain ⟨c, _, rfl⟩ := List.mem_map.1 hu
  rfl
/-- append of bytes that came in, nil or not. -/
theorem wpList_append_nat {w : World} {ops : Array Oper} {rest : List Oper} {o : Oper} {a : Act} {Q : Exit → Act → World → Prop} (hgd : o.guard = none) (s x : Operand)
    (ho : o.op = .call { callee := .builtin .append, args := #[s, x], argTypes := #[58, 58] }) (base : Nat) (v : Value) (n : Nat) (xs : List Value) (hs : a.eval s = v) (hown : w.ownsRow base 5 1 v n xs)
    (ao : Option Addr) (cap m : Nat) (b : List Nat) (hm : b.length = m) (hx : a.eval x = .slice ao m cap) (hcap : ao = none → cap = 0) (hE : RdU w ao b)
    (h63 : n + m ≤ maxLen) (hbytes : (n + m) * 1 ≤ 140737488355328) (hbase : base ≤ w.heap.size)
    (h : ∀ v' w', w'.ownsRow base 5 1 v' (n + m) (xs ++ u8n b) → w.grownBy w' v.ownBlock → wpList Try.prog ops Q rest (a.put o.dst v') w') : wpList Try.prog ops Q (o :: rest) a w := by
  obtain ⟨i0, hi, hz0, hz1, hz2⟩ := info_parts Try.info5
  subst hm
  cases ao with
  | none =>
    have hn : b = [] := by
      cases b with
      | nil => rfl
      | cons y ys => obtain ⟨a', h', _⟩ := hE 0 y rfl; cases h'
    subst hn
    rw [hcap rfl] at hx
    exact wpList_append_own_none hgd s x 58 ho base 5 i0 1 Try.underlying58 hi v n xs hs hown hx (h v w (by simpa [u8n] using hown) (World.grownBy.refl _ _))
  | some ad =>
    refine wpList_append_own w hgd s x 58 ho base 5 i0 (.int .u8 0) 1 1 Try.underlying58 hi hz0 hz1 hz2 rfl (by decide) v n xs hs hown ad b.length cap (u8n b) hx (by rw [u8n_len]; simp) (fun j u hj => ?_) (u8n_ones b) h63 hbytes hbase (fun v' w' a b _ => h v' w' a b)
    unfold u8n at hj
    rw [List.getElem?_map] at hj
    cases hk : b[j]? with
    | none => rw [hk] at hj; cases hj
    | some z =>
      rw [hk] at hj
      obtain ⟨a', h', _, h2⟩ := hE j z hk
      cases h'; cases hj
      exact h2
/-- Bytes as a text. -/
def by8 (b : List Nat) : List UInt8 := b.map UInt8.ofNat
theorem conv_nil (w : World) : (convert 58 9 (.slice none 0 0)).run Try.prog w = .ok (.string ⟨(by8 []).toArray⟩) w := by kernel_rfl
theorem conv_u8 {w : World} {ao : Option Addr} {b : List Nat} (cap m : Nat) (hm : b.length = m) (h : RdU w ao b) (h8 : ∀ c ∈ b, c < 256) (hn : ao = none → cap = 0) : (convert 58 9 (.slice ao m cap)).run Try.prog w = .ok (.string ⟨(by8 b).toArray⟩) w := by
  subst hm
  cases ao with
  | none =>
    have hB : b = [] := by
      cases b with
      | nil => rfl
      | cons y ys => obtain ⟨a, h1, _⟩ := h 0 y rfl; cases h1
    subst hB
    rw [hn rfl]
    exact conv_nil w
  | some a =>
    have hl : (by8 b).length = b.length := by simp [by8]
    rw [← hl]
    refine run_convert_bytes_back _ 58 9 5 a cap (by8 b) Try.underlying58 Try.underlying5 Try.underlying9 (fun j hj => ?_)
    have hj' : j < b.length := by rw [← hl]; exact hj
    obtain ⟨a', h1, _, h3⟩ := h j b[j] (List.getElem?_eq_getElem hj')
    cases h1
    rw [h3]
    have h256 := h8 b[j] (List.getElem_mem hj')
    have e : (by8 b)[j] = UInt8.ofNat b[j] := by simp [by8]
    rw [e]
    have e2 : (UInt8.ofNat b[j]).toNat = b[j] := by simp; omega
    rw [e2]
theorem Sx.trans {X : Nat} {w w1 w2 : World} (h : Sx X w w1) (k : Sx X w1 w2) : Sx X w w2 :=
  ⟨k.os.trans h.os, k.tape.trans h.tape, k.output.trans h.output, k.size.trans h.size, fun i hi => (k.block i hi).trans (h.block i hi)⟩
theorem sx_setCell (w : World) (X k : Nat) (v : Value) : Sx X w (w.setCell ⟨X, k, none⟩ v) := by
  have hb := (Below.refl X w).setCell (p := ⟨X, k, none⟩) (Nat.le_refl X) v
  exact ⟨hb.os, hb.tape, hb.output, World.size_setCell _ _ _, fun i hi => Below.heap_setCell w _ _ _ (by show i ≠ X; exact hi)⟩
theorem Sx.below_of {X N : Nat} {w0 w w' : World} (h : Sx X w w') (hb : Below N w0 w) (hN : N ≤ X) : Below N w0 w' :=
  ⟨h.os.trans hb.os, h.tape.trans hb.tape, h.output.trans hb.output, by rw [h.size]; exact hb.size, fun k hk => (h.block k (by omega)).trans (hb.block k hk)⟩
theorem Twin.sx {B T P r X : Nat} {F : List (List Nat)} {L : List Tr} {w w' : World} (h : Twin B T P r F L w) (hs : Sx X w w') (hX : X < B) (hT : B ≤ T) (hP : B ≤ P) : Twin B T P r F L w' := by
  obtain ⟨g, cap, h1, h2, h3, h4, h5⟩ := h.t
  obtain ⟨v, k1, k2⟩ := h.p
  exact ⟨⟨g, cap, (hs.block T (by omega)).trans h1, hs.own h2 hX, h3, h4, h5⟩, ⟨v, (hs.block P (by omega)).trans k1, hs.own k2 hX⟩, h.f, h.lt, h.ris, h.nrm⟩
theorem own_cap5 {B g n cap : Nat} {xs : List Value} {w : World} (h : w.ownsRow B 5 1 (.slice (some ⟨g, 0, none⟩) n cap) n xs) : n ≤ cap := by
  rcases h.2 with ⟨h', _⟩ | ⟨g', cap', cur, h', hb, hg, hnc, hcm, hcs, ht⟩
  · simp at h'
  · simp only [Value.slice.injEq, Option.some.injEq, Addr.mk.injEq, and_true, true_and] at h'
    obtain ⟨rfl, rfl⟩ := h'
    exact hnc
theorem own_nilcap {B n cap : Nat} {ao : Option Addr} {xs : List Value} {w : World} (h : w.ownsRow B 5 1 (.slice ao n cap) n xs) : (ao = none → cap = 0) ∧ n ≤ cap := by
  rcases h.2 with ⟨h', h0⟩ | ⟨g', cap', cur, h', hb, hg, hnc, hcm, hcs, ht⟩
  · injection h' with e1 e2 e3
    exact ⟨fun _ => e3, by rw [e3, h0]; exact Nat.le_refl _⟩
  · injection h' with e1 e2 e3
    exact ⟨fun e => (by rw [e1] at e; cases e), (by rw [e3]; exact hnc)⟩
theorem enL_len : ∀ (L : List Tr) (b : Nat), Ris b L → (enL b L).length ≤ 7 * L.length
  | [], _, _ => Nat.le_refl _
  | g :: L, b, h => by
    obtain ⟨h1, h2, h3, h4, h5⟩ := h
    have ih := enL_len L (g.2.1 + 1) h5
    have v1 := vn3 (g.1 - b) (by omega)
    have v2 := vn3 (g.2.1 - g.1) (by omega)
    show (vn (g.1 - b) ++ (vn (g.2.1 - g.1) ++ (g.2.2 :: enL (g.2.1 + 1) L))).length ≤ _
    rw [List.length_append, List.length_append, List.length_cons, List.length_cons]
    omega
theorem rl_enb (r : Nat) (M : List Tr) (r1 : Ris 0 M) (r2 : Nr r none 0 M) : rl (enb r M) = some M := by
  have hlen := ris_len M 0 (by omega) r1
  show (match tk (vn M.length ++ enL 0 M) with | none => none | some (n, c1) => rdL r n 0 none c1) = _
  have t1 : tk (vn M.length ++ enL 0 M) = some (M.length, enL 0 M) := tkq_vn 3 _ _ (show _ < 268435456 by omega)
  rw [t1]
  exact rdL_enL r M 0 none r1 r2
theorem lds_ldR {b : List Nat} {L : List Tr} (h : lds b = some L) : ldR b = some L := by
  unfold lds at h
  cases hl : ldR b with
  | none => rw [hl] at h; cases h
  | some M =>
    rw [hl] at h
    dsimp only at h
    split at h
    · exact h
    · cases h
theorem nr_of_rgs {r : Nat} {L : List Tr} (hr : r < 256) (h : Ris 0 L) (hn : rgs r (clA r L) = L) : Nr r none 0 L := by
  have h5 := rgs_nr r hr (clA r L) (clA_len r L h) (clA_256 r L hr h)
  rw [hn] at h5
  exact h5

set_option maxHeartbeats 12000000 in
set_option maxRecDepth 100000 in
theorem bytes_walk (ao bo' : Option Addr) (ac bc : Nat) (l : List Rk) (r : Int) (b : List Nat) (w : World) (ha : RdK w ao l) (hna : ao = none → ac = 0) (hl0 : l.length ≤ 9223372036854775807) (hb : RdU w bo' b) (h8 : ∀ c ∈ b, c < 256) (hnb : bo' = none → bc = 0) (hb0 : b.length ≤ 9223372036854775807) :
    Calls Try.prog 7 #[.slice ao l.length ac, .int .i64 r, .slice bo' b.length bc] w fun e w' => e = .returned (.bool true) ∧ Below w.heap.size w w' := by
  obtain ⟨i0, hi, hz0, hz1, hz2⟩ := info_parts Try.info5
  have HA := hid ha
  have HRB := hid hb
  have H8 := hid h8
  obtain ⟨n, hn⟩ : ∃ n, n = l.length := ⟨_, rfl⟩
  obtain ⟨m, hm⟩ : ∃ m, m = b.length := ⟨_, rfl⟩
  have HN := hid hn
  have HM := hid hm
  rw [← hn] at hl0 ⊢
  rw [← hm] at hb0 ⊢
  clear ha hb h8
  by_cases c1 : 300 < n
  · have c1' : (300 : Int) < (n : Int) := by omega
    clear hn hm
    go_enter Try.func7, Try.ntmps7
    go_wp2_with fail
    refine (live_any _).mono ?_
    rintro e w1 ⟨rfl, b1⟩
    have HB1 := hid b1
    clear b1
    go_wp2
    go_ret
    exact ⟨rfl, HB1.out⟩
  by_cases c2 : 2000 < m
  · have c1' : ¬ (300 : Int) < (n : Int) := by omega
    have c2' : (2000 : Int) < (m : Int) := by omega
    clear hn hm
    go_enter Try.func7, Try.ntmps7
    go_wp2_with fail
    refine (live_any _).mono ?_
    rintro e w1 ⟨rfl, b1⟩
    have HB1 := hid b1
    clear b1
    go_wp2
    go_ret
    exact ⟨rfl, HB1.out⟩
  have c1' : ¬ (300 : Int) < (n : Int) := by omega
  have c2' : ¬ (2000 : Int) < (m : Int) := by omega
  have hn3 : n ≤ 300 := by omega
  have hm3 : m ≤ 2000 := by omega
  have HBT := hid (show ∀ W, Below w.heap.size w W → Calls Try.prog 20 #[.slice ao n ac, .int .i64 r] W fun e w' => Below W.heap.size W w' ∧ ((bo l r ≠ none ∧ e = .returned (.tuple #[.pointer none, .pointer none, .bool false, .bool true])) ∨ (bo l r = none ∧ ∃ T P F L, e = .returned (.tuple #[.pointer (some ⟨T, 0, none⟩), .pointer (some ⟨P, 0, none⟩), .bool true, .bool true]) ∧ Twin W.heap.size T P r.toNat F L w')) from fun W hW => by
    have h5 := both_any ao ac l r W (HA.out.below hW) hna (by omega)
    rw [← hn] at h5
    exact h5)
  have HRL := hid (show ∀ W, Below w.heap.size w W → Calls Try.prog 29 #[.slice bo' m bc] W fun e w' => Below W.heap.size W w' ∧ ((rl b = none ∧ e = .returned (.tuple #[.pointer none, .int .i64 31])) ∨ (∃ P L, rl b = some L ∧ e = .returned (.tuple #[.pointer (some ⟨P, 0, none⟩), .int .i64 0]) ∧ W.heap.size ≤ P ∧ RtAt W.heap.size P L (ldr b) w')) from fun W hW => by
    have h5 := rload_any bo' bc b W (HRB.out.below hW) H8.out (by omega)
    rw [← hm] at h5
    exact h5)
  have HCV := hid (show ∀ W, Below w.heap.size w W → (convert 58 9 (.slice bo' m bc)).run Try.prog W = .ok (.string ⟨(by8 b).toArray⟩) W from fun W hW => conv_u8 bc m hm.symm (HRB.out.below hW) H8.out hnb)
  have o0 := row_e5 w
  have hb0' := (Below.refl w.heap.size w).alloc (Nat.le_refl _) (.cells #[] 5)
  have HB0 := hid hb0'
  have HE0 := hid (HRB.out.below hb0')
  have HO0 := hid o0
  have HMS := hid hm.symm
  clear hn hm hb0' o0
  go_enter Try.func7, Try.ntmps7
  go_wp2_with (at_builtin; refine wpList_append_nat rfl _ _ rfl w.heap.size (.slice (some ⟨w.heap.size, 0, none⟩) 0 0) 0 [] rfl HO0.out bo' bc m b HMS.out rfl hnb HE0.out (by unfold maxLen; omega) (by omega) (by simp) ?_)
  intro v1 w1 o1 gr1
  have HB1 := hid (HB0.out.grown gr1 (by simp) (fun k hk => (HO0.out.lt k hk).1))
  have hs1 := HB1.out.size
  have HO1 := hid o1
  clear o1 gr1
  go_wp2_with (at_builtin; refine wpList_append_own _ rfl _ _ 58 rfl w.heap.size 5 i0 (.int .u8 0) 1 1 Try.underlying58 hi hz0 hz1 hz2 rfl (by decide) _ _ _ rfl (HO1.out.alloc _) ⟨w1.heap.size, 0, none⟩ 1 1 [.int .u8 9] rfl rfl (cell_one_new _ _ _) (by simp [Value.oneCell']) (by unfold maxLen; omega) (by omega) (by simp; omega) ?_)
  intro v2 w2 o2 gr2 _
  have HB2 := hid ((HB1.out.alloc hs1 (.cells #[.int .u8 9] 5)).grown gr2 (by simp; omega) (fun k hk => (HO1.out.lt k hk).1))
  have hs2 := HB2.out.size
  obtain ⟨M, hM⟩ : ∃ M, M = m + 1 := ⟨_, rfl⟩
  have hM1 : m < M := by omega
  have hM2 : M ≤ 2001 := by omega
  have ho2 : w2.ownsRow w.heap.size 5 1 v2 M (u8n (b ++ [9])) := by rw [hM, u8n_app]; exact o2
  obtain ⟨g, cap2, hve, hgB, hgw⟩ := ho2.form (by omega)
  subst hve
  have hcap := own_cap5 ho2
  have HRG := hid (show RdU w2 (some ⟨g, 0, none⟩) b from fun k c hk => rdu_own ho2 k c (by rw [List.getElem?_append_left (List.getElem?_eq_some_iff.1 hk).1]; exact hk))
  have c9 : w2.cell? ⟨g, m, none⟩ = some (.int .u8 9) := by
    rw [ho2.cellAt m (by omega)]
    unfold u8n
    rw [List.getElem?_map, List.getElem?_append_right (by have h5 := HMS.out; omega)]
    have h5 := HMS.out
    simp [h5]
  have HO2 := hid ho2
  have HLD := hid (load_any (some ⟨g, 0, none⟩) cap2 b w2 HRG.out H8.out (by have h5 := HMS.out; omega) (by have h5 := HMS.out; omega) (fun e => by cases e))
  rw [HMS.out] at HLD
  have k1 : (m : Int) ≤ (cap2 : Int) := by omega
  have k0 : (0 : Int) ≤ (m : Int) := by omega
  clear o2 gr2 ho2 hM HB0 HE0 HO0
  go_wp2_with fail
  refine HLD.out.mono ?_
  rintro e w3 ⟨b3, hc⟩
  have HB3 := hid (HB2.out.trans (b3.mono hs2))
  have hs3 := b3.size
  have hs03 : w.heap.size ≤ w3.heap.size := by omega
  have HG3 := hid (b3.block g hgw)
  have c93 : w3.cell? ⟨g, m, none⟩ = some (.int .u8 9) := (b3.cell (p := ⟨g, m, none⟩) hgw).trans c9
  have HB23 := hid b3
  clear b3 HLD c9
  have hlr8 : ldr b < 256 := headD_256 b H8.out
  rcases hc with ⟨hnl, rfl⟩ | ⟨T, F, L, hls, rfl, hTs, hF, hRi, hTb⟩
  · have HNL := hid hnl
    clear hnl
    go_wp2_with fail
    refine (HRL.out w3 HB3.out).mono ?_
    rintro e w4 ⟨b4, hd⟩
    have HB4 := hid (HB3.out.trans (b4.mono hs03))
    have HB34 := hid b4
    have hs4 := b4.size
    have c94 : w4.cell? ⟨g, m, none⟩ = some (.int .u8 9) := (b4.cell (p := ⟨g, m, none⟩) (by show g < _; omega)).trans c93
    clear b4
    rcases hd with ⟨hrl, rfl⟩ | ⟨P, L, hrl, rfl, hPs, hPt⟩
    · clear hrl
      go_wp2_with (first | (go_at_call 9; refine (num_any _ _).mono ?_; rintro e w9 ⟨rfl, h9⟩; obtain rfl := h9.symm) | fail)
      have HO4 := hid (show w4.ownsRow w.heap.size 5 1 (.slice (some ⟨g, 0, none⟩) M cap2) M (u8n (b ++ [9])) from own_keep (own_keep HO2.out HB23.out) HB34.out)
      have HS0 := hid (Sx.refl g w4)
      go_loopw [12] (fun x wr => ∃ (j : Nat) (U : List Value), x = .int .i64 (j : Int) ∧ j ≤ M ∧ Hid (wr.ownsRow w.heap.size 5 1 (.slice (some ⟨g, 0, none⟩) M cap2) M U) ∧ Hid (Sx g w4 wr)) (fun x _ => M - (intOf x).toNat)
      case atStart => exact ⟨0, _, rfl, by omega, HO4, HS0⟩
      case round =>
        obtain ⟨j, U, rfl, hj, HOJ, HSJ⟩ := hrel
        by_cases hlt3 : j < M
        · have hU : U.length = M := by have h5 := HOJ.out.1; omega
          obtain ⟨u0, f0⟩ : ∃ u, wr.cell? ⟨g, j, none⟩ = some u := by rw [HOJ.out.cellAt _ (by omega)]; exact ⟨_, List.getElem?_eq_getElem (by omega)⟩
          have z0 : wr.frozen? ⟨g, j, none⟩ = false := HOJ.out.frozenAt _
          have j3 : (j : Int) < (M : Int) := by omega
          have j0 : (0 : Int) ≤ (j : Int) := by omega
          have HOK := hid (HOJ.out.stored j (.int .u8 238)).1
          have HSK := hid (HSJ.out.trans (sx_setCell wr g j (.int .u8 238)))
          go_wp2
          go_roundw
          case rel => exact ⟨j + 1, _, by go_num, by omega, HOK, HSK⟩
          case measure => simp [intOf]; omega
        · have j3 : ¬ (j : Int) < (M : Int) := by omega
          have HBJ := hid (HSJ.out.below_of HB4.out hgB)
          have hsj := HBJ.out.size
          clear HOJ HO4 HS0
          go_wp2_with fail
          refine wp_region_noPanic ?_
          refine wp_region_holdG 16 (fun _ => True) (fun _ => false) (by kernel_rfl) (by kernel_rfl) (by decide) (fun j hj => by cases hj) (by kernel_rfl) (fun _ _ _ _ _ h => h) trivial ?_
          dsimp only [List.take, List.drop]
          iterate 3 (refine wpHold_step ?_ rfl (fun w' hS => ?_) ?_; (rotate_left; (go_simp; with_reducible rfl); rotate_left))
          simp only [Act.put, List.setIfInBounds_toArray, List.set_cons_zero, List.set_cons_succ]
          iterate 12 (refine holdG_no (by kernel_rfl) ?_)
          simp only [Act.put, List.setIfInBounds_toArray, List.set_cons_zero, List.set_cons_succ]
          iterate 1 (refine wpHold_step ?_ rfl (fun w' hS => ?_) ?_; (rotate_left; (go_simp; with_reducible rfl); rotate_left))
          simp only [Act.put, List.setIfInBounds_toArray, List.set_cons_zero, List.set_cons_succ]
          show wpTailG _ _ _ _ _ _ _ _ _
          refine tailG_nil (NoPanic.normal ?_)
          have HB6 := hid (HBJ.out.trans (show Below w.heap.size wr wr.drew from ⟨rfl, rfl, rfl, Nat.le_refl _, fun _ _ => rfl⟩))
          obtain ⟨W6, hW6⟩ : ∃ W6, W6 = wr.drew := ⟨_, rfl⟩
          try rw [← hW6]
          rw [← hW6] at HB6
          have hs6 := HB6.out.size
          clear hW6

          go_wp2_with fail
          refine (HBT.out W6 HB6.out).mono ?_
          rintro e w7 ⟨b7, hd⟩
          have HB7 := hid (HB6.out.trans (b7.mono hs6))
          have hs7 := HB7.out.size
          clear b7
          rcases hd with ⟨_, rfl⟩ | ⟨hbo, T2, P2, F2, L2, rfl, tw⟩
          · go_wp2_with fail
            refine (live_any _).mono ?_
            rintro e w8 ⟨rfl, b8⟩
            have HB8 := hid (HB7.out.trans (b8.mono hs7))
            clear b8
            go_wp2
            go_ret
            exact ⟨rfl, HB8.out⟩
          · have HTW := hid tw
            obtain ⟨r2, hr2⟩ : ∃ r2, r2 = r.toNat := ⟨_, rfl⟩
            rw [← hr2] at HTW
            have HBY := hid (bytes_any W6.heap.size T2 r2 F2 w7 HTW.out.t HTW.out.lt)
            rw [HTW.out.f, HTW.out.nrm] at HBY
            have HNR := hid (nr_of_rgs HTW.out.lt HTW.out.ris HTW.out.nrm)
            have HRE := hid (rl_enb r2 L2 HTW.out.ris HNR.out)
            have H8E := hid (enb_256 r2 L2 HTW.out.lt HTW.out.ris)
            have HDS := hid (rl_some (enb r2 L2) H8E.out L2 HRE.out)
            have HEL := hid (show (enb r2 L2).length ≤ 8000000 by
              have h5 := ris_len L2 0 (by omega) HTW.out.ris
              have h6 := enL_len L2 0 HTW.out.ris
              have h7 := vn3 L2.length (by omega)
              unfold enb
              rw [List.length_cons, List.length_append]; omega)
            have HR2 := hid (show ldr (enb r2 L2) = r2 from rfl)
            obtain ⟨eb, heb⟩ : ∃ eb, eb = enb r2 L2 := ⟨_, rfl⟩
            obtain ⟨k8, hk8⟩ : ∃ k8, k8 = eb.length := ⟨_, rfl⟩
            rw [← heb] at HBY HRE H8E HDS HEL HR2
            rw [← hk8] at HBY HEL
            have HKE := hid hk8.symm
            have HEB := hid heb
            clear tw hbo hr2 hk8 heb
            go_wp2_with fail
            refine HBY.out.mono ?_
            rintro e w8 ⟨v8, rfl, o8, b8⟩
            obtain ⟨vo8, vc8, rfl⟩ := own_form o8
            obtain ⟨hn8, hc8⟩ := own_nilcap o8
            have HB8 := hid (HB7.out.trans (b8.mono hs7))
            have hs8 := HB8.out.size
            have HTW8 := hid (HTW.out.below b8)
            have HRU := hid (rdu_own o8)
            have HBD8 := hid (show Below w8.heap.size w8 w8.drew from ⟨rfl, rfl, rfl, Nat.le_refl _, fun _ _ => rfl⟩)
            have HC8 := hid (show ∀ W, Below w8.heap.size w8 W → (convert 58 9 (.slice vo8 k8 vc8)).run Try.prog W = .ok (.string ⟨(by8 eb).toArray⟩) W from fun W hW => conv_u8 vc8 k8 HKE.out (HRU.out.below hW) H8E.out hn8)
            have j8 := HC8.out w8.drew HBD8.out
            have HRY := hid (rbytes_any W6.heap.size P2 L2 r2 w8.drew (HTW8.out.p.below HBD8.out) HTW8.out.lt HTW8.out.ris)
            rw [← HEB.out, HKE.out] at HRY
            clear o8 b8 HBY
            go_wp2_with fail
            refine wp_region_mix [(0, true), (1, true), (2, true), (3, false), (4, false), (5, true)] (fun w' => (convert 58 9 (.slice vo8 k8 vc8)).run Try.prog w' = .ok (.string ⟨(by8 eb).toArray⟩) w') (fun _ => false) (by kernel_rfl) (by kernel_rfl) (fun j hj => by cases hj) rfl (by kernel_rfl) j8 ?_
            iterate 3 (refine mix_free ?_ rfl (by kernel_rfl) (fun w' hS => ?_) ?_; (rotate_left; (go_simp; with_reducible rfl); rotate_left))
            simp only [Act.put, List.setIfInBounds_toArray]
            refine mix_go rfl (by kernel_rfl) fun KK hKK => ?_
            go_simp
            refine HRY.out.mono ?_
            rintro e w9 ⟨v9, rfl, o9, b9⟩
            have HB89 := hid (HBD8.out.trans b9)
            have HS9 := hid (HC8.out w9 HB89.out)
            obtain ⟨vo9, vc9, rfl⟩ := own_form o9
            obtain ⟨hn9, hc9⟩ := own_nilcap o9
            have j9 : (convert 58 9 (.slice vo9 k8 vc9)).run Try.prog w9 = .ok (.string ⟨(by8 eb).toArray⟩) w9 := conv_u8 vc9 k8 HKE.out (rdu_own o9) H8E.out hn9
            refine hKK _ _ (fun _ => HS9.out) ?_
            clear hKK KK
            refine mix_go rfl (by kernel_rfl) fun KK hKK => ?_
            go_simp
            refine hKK _ _ (fun _ => HS9.out) ?_
            clear hKK KK
            iterate 1 (refine mix_free ?_ rfl (by kernel_rfl) (fun w' hS => ?_) ?_; (rotate_left; (go_simp; with_reducible rfl); rotate_left))
            simp only [Act.put, List.setIfInBounds_toArray]
            refine mix_end (NoPanic.normal ?_)
            have HB9 := hid (HB8.out.trans (HB89.out.mono hs8))
            have hs9 := HB9.out.size
            have HL9 := hid (load_any vo8 vc8 eb w9 (HRU.out.below HB89.out) H8E.out (by rw [HKE.out]; exact hc8) (by rw [HKE.out]; have h5 := HEL.out; omega) hn8)
            rw [HKE.out] at HL9
            have HT9 := hid (HTW8.out.t.below HB89.out)
            have HF2 := hid HTW8.out.f
            clear o9 b9 HRY j8 j9
            go_wp2_with fail
            refine HL9.out.mono ?_
            rintro e wa ⟨ba, hc⟩
            have HBa := hid (HB9.out.trans (ba.mono hs9))
            have hsa := HBa.out.size
            have HTa := hid (HT9.out.below ba)
            clear ba HL9
            rcases hc with ⟨hna', _⟩ | ⟨T3, F3, L3, hL3, rfl, hT3, hF3, hR3, hTb3⟩
            · rw [HDS.out.1] at hna'
              cases hna'
            · rw [HDS.out.1] at hL3
              cases hL3
              rw [HR2.out] at hF3 hTb3
              have hFF : F3 = F2 := by
                obtain ⟨_, _, _, _, q1, _, _⟩ := hTb3
                obtain ⟨_, _, _, _, q2, _, _⟩ := HTa.out
                exact flat_one q1 q2 (hF3.trans HF2.out.symm)
              have HEQ := hid (equal_any _ _ T3 T2 r2 r2 F3 F2 wa hTb3 HTa.out)
              rw [show (decide (r2 = r2 ∧ F3 = F2)) = true by simp [hFF]] at HEQ
              clear hF3 hR3 hTb3 hFF hT3
              go_wp2_with (first | (go_at_call 9; refine (num_any _ _).mono ?_; rintro e w9 ⟨rfl, h9⟩; obtain rfl := h9.symm) | fail)
              refine HEQ.out.mono ?_
              rintro e wb ⟨rfl, bb⟩
              have HBb := hid (HBa.out.trans (bb.mono hsa))
              have hsb := HBb.out.size
              clear bb
              go_wp2_with fail
              refine (live_any _).mono ?_
              rintro e wc ⟨rfl, bc'⟩
              have HBc := hid (HBb.out.trans (bc'.mono hsb))
              clear bc'
              go_wp2
              go_ret
              exact ⟨rfl, HBc.out⟩

    · have h5 := (rl_some b H8.out L hrl).1
      rw [HNL.out] at h5
      cases h5
  · have HLS := hid hls
    clear hls
    go_wp2_with fail
    refine (HRL.out w3 HB3.out).mono ?_
    rintro e w4 ⟨b4, hd⟩
    have HB4 := hid (HB3.out.trans (b4.mono hs03))
    have HB34 := hid b4
    have hs4 := b4.size
    have c94 : w4.cell? ⟨g, m, none⟩ = some (.int .u8 9) := (b4.cell (p := ⟨g, m, none⟩) (by show g < _; omega)).trans c93
    rcases hd with ⟨hrl, rfl⟩ | ⟨P, L', hrl, rfl, hPs, hPt⟩
    · have h5 := rl_none b H8.out (fun L' h' => by rw [lds_ldR HLS.out] at h'; cases h'; exact hRi) hrl
      rw [HLS.out] at h5
      cases h5
    · obtain ⟨q1, q2, q3, q4, q5⟩ := rl_some b H8.out L' hrl
      rw [HLS.out] at q1
      cases q1
      have HT4 := hid (show Twin w2.heap.size T P (ldr b) F L w4 from ⟨hTb.below b4, hPt.mono hs3, hF, hlr8, q2, q5⟩)
      have hTs2 : w2.heap.size ≤ T := hTs
      have hPs2 : w2.heap.size ≤ P := by omega
      have hgw2 : g < w2.heap.size := hgw
      have HBE := hid q4
      clear b4 hrl q2 q3 q4 q5 hTb hPt hF hRi
      go_wp2_with (first | (go_at_call 9; refine (num_any _ _).mono ?_; rintro e w9 ⟨rfl, h9⟩; obtain rfl := h9.symm) | fail)
      have HO4 := hid (show w4.ownsRow w.heap.size 5 1 (.slice (some ⟨g, 0, none⟩) M cap2) M (u8n (b ++ [9])) from own_keep (own_keep HO2.out HB23.out) HB34.out)
      have HS0 := hid (Sx.refl g w4)
      go_loopw [12] (fun x wr => ∃ (j : Nat) (U : List Value), x = .int .i64 (j : Int) ∧ j ≤ M ∧ Hid (wr.ownsRow w.heap.size 5 1 (.slice (some ⟨g, 0, none⟩) M cap2) M U) ∧ Hid (Sx g w4 wr)) (fun x _ => M - (intOf x).toNat)
      case atStart => exact ⟨0, _, rfl, by omega, HO4, HS0⟩
      case round =>
        obtain ⟨j, U, rfl, hj, HOJ, HSJ⟩ := hrel
        by_cases hlt3 : j < M
        · have hU : U.length = M := by have h5 := HOJ.out.1; omega
          obtain ⟨u0, f0⟩ : ∃ u, wr.cell? ⟨g, j, none⟩ = some u := by rw [HOJ.out.cellAt _ (by omega)]; exact ⟨_, List.getElem?_eq_getElem (by omega)⟩
          have z0 : wr.frozen? ⟨g, j, none⟩ = false := HOJ.out.frozenAt _
          have j3 : (j : Int) < (M : Int) := by omega
          have j0 : (0 : Int) ≤ (j : Int) := by omega
          have HOK := hid (HOJ.out.stored j (.int .u8 238)).1
          have HSK := hid (HSJ.out.trans (sx_setCell wr g j (.int .u8 238)))
          go_wp2
          go_roundw
          case rel => exact ⟨j + 1, _, by go_num, by omega, HOK, HSK⟩
          case measure => simp [intOf]; omega
        · have j3 : ¬ (j : Int) < (M : Int) := by omega
          have HBJ := hid (HSJ.out.below_of HB4.out hgB)
          have hsj := HBJ.out.size
          clear HOJ HO4 HS0
          have HTJ := hid (HT4.out.sx HSJ.out hgw2 hTs2 hPs2)
          have HBD := hid (show Below wr.heap.size wr wr.drew from ⟨rfl, rfl, rfl, Nat.le_refl _, fun _ _ => rfl⟩)
          have HB5 := hid (HBJ.out.trans (HBD.out.mono hsj))
          have j5 := HCV.out wr.drew HB5.out
          have HTD := hid (HTJ.out.below HBD.out)
          have HASK := hid (asks_any w2.heap.size T (ldr b) w2.heap.size P F L none 0 [] [97] wr.drew HTD.out.t HTD.out.f HTD.out.lt HTD.out.ris HTD.out.nrm HTD.out.p (RdZ.nil _ _) (by simp) (by simp))
          have hs5 := HB5.out.size
          clear HTJ
          go_wp2_with fail
          refine wp_region_mix [(0, true), (1, true), (2, true), (3, true), (4, true), (5, false), (6, true), (7, true), (8, true), (11, true), (12, true), (9, false), (10, false), (13, true), (14, true), (15, true)] (fun w' => (convert 58 9 (.slice bo' m bc)).run Try.prog w' = .ok (.string ⟨(by8 b).toArray⟩) w') (fun _ => false) (by kernel_rfl) (by kernel_rfl) (fun j hj => by cases hj) rfl (by kernel_rfl) j5 ?_
          iterate 5 (refine mix_free ?_ rfl (by kernel_rfl) (fun w' hS => ?_) ?_; (rotate_left; (go_simp; with_reducible rfl); rotate_left))
          simp only [Act.put, List.setIfInBounds_toArray]
          refine mix_go rfl (by kernel_rfl) fun KK hKK => ?_
          go_simp
          refine HASK.out.mono ?_
          rintro e w6 ⟨rfl, b6⟩
          have HB6a := hid (HB5.out.trans (b6.mono hs5))
          have HS6 := hid (HCV.out w6 HB6a.out)
          have HT6 := hid (HTD.out.below b6)
          have hs6a := HB6a.out.size
          refine hKK _ _ (fun _ => HS6.out) ?_
          clear hKK KK
          iterate 5 (refine mix_free ?_ rfl (by kernel_rfl) (fun w' hS => ?_) ?_; (rotate_left; (go_simp; with_reducible rfl); rotate_left))
          simp only [Act.put, List.setIfInBounds_toArray]
          refine mix_go rfl (by kernel_rfl) fun KK hKK => ?_
          go_simp
          refine (bytes_any w2.heap.size T (ldr b) F w6 HT6.out.t HT6.out.lt).mono ?_
          rintro e W6 ⟨v7, rfl, o7, b7⟩
          rw [HT6.out.f, HT6.out.nrm, ← HBE.out] at o7
          have HB6 := hid (HB6a.out.trans (b7.mono hs6a))
          have HS7 := hid (HCV.out W6 HB6.out)
          obtain ⟨vo7, vc7, rfl⟩ := own_form o7
          obtain ⟨hn7, hc7⟩ := own_nilcap o7
          have j7 : (convert 58 9 (.slice vo7 b.length vc7)).run Try.prog W6 = .ok (.string ⟨(by8 b).toArray⟩) W6 := conv_u8 vc7 b.length rfl (rdu_own o7) H8.out hn7
          refine hKK _ _ (fun _ => HS7.out) ?_
          clear hKK KK
          refine mix_go rfl (by kernel_rfl) fun KK hKK => ?_
          go_simp
          refine hKK _ _ (fun _ => HS7.out) ?_
          clear hKK KK
          iterate 3 (refine mix_free ?_ rfl (by kernel_rfl) (fun w' hS => ?_) ?_; (rotate_left; (go_simp; with_reducible rfl); rotate_left))
          simp only [Act.put, List.setIfInBounds_toArray]
          refine mix_end (NoPanic.normal ?_)
          have hs6 := HB6.out.size
          clear o7 b7 b6 j5 j7

          go_wp2_with fail
          refine (HBT.out W6 HB6.out).mono ?_
          rintro e w7 ⟨b7, hd⟩
          have HB7 := hid (HB6.out.trans (b7.mono hs6))
          have hs7 := HB7.out.size
          clear b7
          rcases hd with ⟨_, rfl⟩ | ⟨hbo, T2, P2, F2, L2, rfl, tw⟩
          · go_wp2_with fail
            refine (live_any _).mono ?_
            rintro e w8 ⟨rfl, b8⟩
            have HB8 := hid (HB7.out.trans (b8.mono hs7))
            clear b8
            go_wp2
            go_ret
            exact ⟨rfl, HB8.out⟩
          · have HTW := hid tw
            obtain ⟨r2, hr2⟩ : ∃ r2, r2 = r.toNat := ⟨_, rfl⟩
            rw [← hr2] at HTW
            have HBY := hid (bytes_any W6.heap.size T2 r2 F2 w7 HTW.out.t HTW.out.lt)
            rw [HTW.out.f, HTW.out.nrm] at HBY
            have HNR := hid (nr_of_rgs HTW.out.lt HTW.out.ris HTW.out.nrm)
            have HRE := hid (rl_enb r2 L2 HTW.out.ris HNR.out)
            have H8E := hid (enb_256 r2 L2 HTW.out.lt HTW.out.ris)
            have HDS := hid (rl_some (enb r2 L2) H8E.out L2 HRE.out)
            have HEL := hid (show (enb r2 L2).length ≤ 8000000 by
              have h5 := ris_len L2 0 (by omega) HTW.out.ris
              have h6 := enL_len L2 0 HTW.out.ris
              have h7 := vn3 L2.length (by omega)
              unfold enb
              rw [List.length_cons, List.length_append]; omega)
            have HR2 := hid (show ldr (enb r2 L2) = r2 from rfl)
            obtain ⟨eb, heb⟩ : ∃ eb, eb = enb r2 L2 := ⟨_, rfl⟩
            obtain ⟨k8, hk8⟩ : ∃ k8, k8 = eb.length := ⟨_, rfl⟩
            rw [← heb] at HBY HRE H8E HDS HEL HR2
            rw [← hk8] at HBY HEL
            have HKE := hid hk8.symm
            have HEB := hid heb
            clear tw hbo hr2 hk8 heb
            go_wp2_with fail
            refine HBY.out.mono ?_
            rintro e w8 ⟨v8, rfl, o8, b8⟩
            obtain ⟨vo8, vc8, rfl⟩ := own_form o8
            obtain ⟨hn8, hc8⟩ := own_nilcap o8
            have HB8 := hid (HB7.out.trans (b8.mono hs7))
            have hs8 := HB8.out.size
            have HTW8 := hid (HTW.out.below b8)
            have HRU := hid (rdu_own o8)
            have HBD8 := hid (show Below w8.heap.size w8 w8.drew from ⟨rfl, rfl, rfl, Nat.le_refl _, fun _ _ => rfl⟩)
            have HC8 := hid (show ∀ W, Below w8.heap.size w8 W → (convert 58 9 (.slice vo8 k8 vc8)).run Try.prog W = .ok (.string ⟨(by8 eb).toArray⟩) W from fun W hW => conv_u8 vc8 k8 HKE.out (HRU.out.below hW) H8E.out hn8)
            have j8 := HC8.out w8.drew HBD8.out
            have HRY := hid (rbytes_any W6.heap.size P2 L2 r2 w8.drew (HTW8.out.p.below HBD8.out) HTW8.out.lt HTW8.out.ris)
            rw [← HEB.out, HKE.out] at HRY
            clear o8 b8 HBY
            go_wp2_with fail
            refine wp_region_mix [(0, true), (1, true), (2, true), (3, false), (4, false), (5, true)] (fun w' => (convert 58 9 (.slice vo8 k8 vc8)).run Try.prog w' = .ok (.string ⟨(by8 eb).toArray⟩) w') (fun _ => false) (by kernel_rfl) (by kernel_rfl) (fun j hj => by cases hj) rfl (by kernel_rfl) j8 ?_
            iterate 3 (refine mix_free ?_ rfl (by kernel_rfl) (fun w' hS => ?_) ?_; (rotate_left; (go_simp; with_reducible rfl); rotate_left))
            simp only [Act.put, List.setIfInBounds_toArray]
            refine mix_go rfl (by kernel_rfl) fun KK hKK => ?_
            go_simp
            refine HRY.out.mono ?_
            rintro e w9 ⟨v9, rfl, o9, b9⟩
            have HB89 := hid (HBD8.out.trans b9)
            have HS9 := hid (HC8.out w9 HB89.out)
            obtain ⟨vo9, vc9, rfl⟩ := own_form o9
            obtain ⟨hn9, hc9⟩ := own_nilcap o9
            have j9 : (convert 58 9 (.slice vo9 k8 vc9)).run Try.prog w9 = .ok (.string ⟨(by8 eb).toArray⟩) w9 := conv_u8 vc9 k8 HKE.out (rdu_own o9) H8E.out hn9
            refine hKK _ _ (fun _ => HS9.out) ?_
            clear hKK KK
            refine mix_go rfl (by kernel_rfl) fun KK hKK => ?_
            go_simp
            refine hKK _ _ (fun _ => HS9.out) ?_
            clear hKK KK
            iterate 1 (refine mix_free ?_ rfl (by kernel_rfl) (fun w' hS => ?_) ?_; (rotate_left; (go_simp; with_reducible rfl); rotate_left))
            simp only [Act.put, List.setIfInBounds_toArray]
            refine mix_end (NoPanic.normal ?_)
            have HB9 := hid (HB8.out.trans (HB89.out.mono hs8))
            have hs9 := HB9.out.size
            have HL9 := hid (load_any vo8 vc8 eb w9 (HRU.out.below HB89.out) H8E.out (by rw [HKE.out]; exact hc8) (by rw [HKE.out]; have h5 := HEL.out; omega) hn8)
            rw [HKE.out] at HL9
            have HT9 := hid (HTW8.out.t.below HB89.out)
            have HF2 := hid HTW8.out.f
            clear o9 b9 HRY j8 j9
            go_wp2_with fail
            refine HL9.out.mono ?_
            rintro e wa ⟨ba, hc⟩
            have HBa := hid (HB9.out.trans (ba.mono hs9))
            have hsa := HBa.out.size
            have HTa := hid (HT9.out.below ba)
            clear ba HL9
            rcases hc with ⟨hna', _⟩ | ⟨T3, F3, L3, hL3, rfl, hT3, hF3, hR3, hTb3⟩
            · rw [HDS.out.1] at hna'
              cases hna'
            · rw [HDS.out.1] at hL3
              cases hL3
              rw [HR2.out] at hF3 hTb3
              have hFF : F3 = F2 := by
                obtain ⟨_, _, _, _, q1, _, _⟩ := hTb3
                obtain ⟨_, _, _, _, q2, _, _⟩ := HTa.out
                exact flat_one q1 q2 (hF3.trans HF2.out.symm)
              have HEQ := hid (equal_any _ _ T3 T2 r2 r2 F3 F2 wa hTb3 HTa.out)
              rw [show (decide (r2 = r2 ∧ F3 = F2)) = true by simp [hFF]] at HEQ
              clear hF3 hR3 hTb3 hFF hT3
              go_wp2_with (first | (go_at_call 9; refine (num_any _ _).mono ?_; rintro e w9 ⟨rfl, h9⟩; obtain rfl := h9.symm) | fail)
              refine HEQ.out.mono ?_
              rintro e wb ⟨rfl, bb⟩
              have HBb := hid (HBa.out.trans (bb.mono hsa))
              have hsb := HBb.out.size
              clear bb
              go_wp2_with fail
              refine (live_any _).mono ?_
              rintro e wc ⟨rfl, bc'⟩
              have HBc := hid (HBb.out.trans (bc'.mono hsb))
              clear bc'
              go_wp2
              go_ret
              exact ⟨rfl, HBc.out⟩
end Go.Proofs.Ytljlhlcoaajggaa
