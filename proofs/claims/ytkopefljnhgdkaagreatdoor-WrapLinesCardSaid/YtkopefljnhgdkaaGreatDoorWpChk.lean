/- The contracts of areCells and Check (package wrap). -/
import Derived.Test.YtkopefljnhgdkaaGreatDoorWpFun
namespace Go.Proofs.YtkopefljnhgdkaaGreatDoor
open Go.RowKit

/-- A number of cells. -/
def isC (z : Int) : Bool := decide (0 ≤ z) && decide (z ≤ 100000)
theorem isC_is (z : Int) : isC z = true ↔ 0 ≤ z ∧ z ≤ 100000 := by simp [isC]
/-- A box that may be so. -/
def bxOk (x : Bx) : Bool := isC x.w && (isC x.b && isC x.h)
/-- The number of the first box that may not be so. -/
def badB : List Bx → Nat → Option Nat
  | [], _ => none
  | x :: t, i => if bxOk x = true then badB t (i + 1) else some i
def wrOk (W : Wr) : Bool := decide (1 ≤ W.wd) && (isC W.wd && (isC W.fi && isC W.re))
def hoOk (W : Wr) : Bool := decide (W.ho = 0) || decide (W.ho = 1)
/-- Check's error and place. -/
def chk (W : Wr) (L : List Bx) : Int × Nat :=
  if wrOk W = true then if hoOk W = true then if L.length ≤ 4096 then (match badB L 0 with
    | none => (0, 0)
    | some i => (160, i)) else (6, 0) else (161, 0) else (161, 0)
theorem badB_none : ∀ {L : List Bx} {i : Nat}, badB L i = none → ∀ x ∈ L, bxOk x = true
  | [], _, _, x, hx => by cases hx
  | y :: t, i, h, x, hx => by
    unfold badB at h
    split at h
    · rename_i h1
      rcases List.mem_cons.1 hx with rfl | h2
      · exact h1
      · exact badB_none h x h2
    · cases h
theorem chk_ok {W : Wr} {L : List Bx} (h : (chk W L).1 = 0) : Okb W L := by
  unfold chk at h
  split at h
  · rename_i h1
    split at h
    · rename_i h2
      split at h
      · rename_i h3
        split at h
        · rename_i h4
          have hb : ∀ i, bxOk (bx L i) = true := fun i => by
            unfold bx
            cases hi : L[i]? with
            | none => rfl
            | some x => exact badB_none h4 x (List.mem_of_getElem? hi)
          simp only [wrOk, Bool.and_eq_true, isC_is, decide_eq_true_eq] at h1
          simp only [hoOk, Bool.or_eq_true, decide_eq_true_eq] at h2
          simp only [bxOk, Bool.and_eq_true, isC_is] at hb
          exact ⟨⟨h1.1, h1.2.1.2⟩, h1.2.2.1, h1.2.2.2, h2, h3, fun i => (hb i).1, fun i => (hb i).2.1, fun i => (hb i).2.2⟩
        · cases h
      · cases h
    · cases h
  · cases h
theorem chk_of {W : Wr} {L : List Bx} (h : Okb W L) : chk W L = (0, 0) := by
  have h1 : wrOk W = true := by simp only [wrOk, Bool.and_eq_true, isC_is, decide_eq_true_eq]; exact ⟨h.wd.1, ⟨by have := h.wd; omega, h.wd.2⟩, h.fi, h.re⟩
  have h2 : hoOk W = true := by simp only [hoOk, Bool.or_eq_true, decide_eq_true_eq]; exact h.ho
  have hb : ∀ (T : List Bx) (i : Nat), (∀ x ∈ T, bxOk x = true) → badB T i = none := by
    intro T
    induction T with
    | nil => intro _ _; rfl
    | cons y T ih => intro i hy; unfold badB; rw [if_pos (hy y (.head _))]; exact ih _ (fun x hx => hy x (.tail _ hx))
  unfold chk
  rw [if_pos h1, if_pos h2, if_pos h.len, hb L 0 (fun x hx => by
    obtain ⟨k, hk⟩ := List.mem_iff_getElem?.1 hx
    have e : bx L k = x := by unfold bx; rw [hk]; rfl
    simp only [bxOk, Bool.and_eq_true, isC_is]
    rw [← e]
    exact ⟨h.w k, h.b k, h.h k⟩)]
/-- A slice of numbers, nil or not, reads as a list. -/
def RdI (w : World) (ao : Option Addr) (l : List Int) : Prop :=
  ∀ (k : Nat) (z : Int), l[k]? = some z → ∃ a : Addr, ao = some a ∧ a.block < w.heap.size ∧ w.cell? (a.add k) = some (.int .i64 z)
theorem RdI.below {w w' : World} {ao : Option Addr} {l : List Int} (h : RdI w ao l) (hb : Below w.heap.size w w') : RdI w' ao l := fun k z hk => by
  obtain ⟨a, h1, h2, h3⟩ := h k z hk
  exact ⟨a, h1, Nat.lt_of_lt_of_le h2 hb.size, (hb.cell (p := a.add k) (by rw [add_blk]; exact h2)).trans h3⟩
/-- Three numbers in a row of their own. -/
theorem rd3 (w : World) (x y z : Int) : RdI (w.alloc (.cells #[.int .i64 x, .int .i64 y, .int .i64 z] 3)) (some ⟨w.heap.size, 0, none⟩) [x, y, z] := fun k v hk => by
  refine ⟨_, rfl, by simp, ?_⟩
  match k, hk with
  | 0, hk => cases hk; simp [Addr.add, go_sem]
  | 1, hk => cases hk; simp [Addr.add, go_sem]
  | 2, hk => cases hk; simp [Addr.add, go_sem]
set_option maxHeartbeats 1000000 in
theorem cells_any (a : Addr) (x y z : Int) (n c : Nat) (w : World) (hn : n = 3) (hr : RdI w (some a) [x, y, z]) :
    Calls Tryz.prog 17 #[.slice (some a) n c] w fun e w' => e = .returned (.bool (isC x && (isC y && isC z))) ∧ w' = w := by
  have HR := hid hr
  have HN := hid hn
  have hnl : n ≤ 3 := by omega
  obtain ⟨T, hT⟩ : ∃ T, T = [x, y, z] := ⟨_, rfl⟩
  have HTL := hid (show n = T.length by rw [hT, hn]; rfl)
  rw [← hT] at HR
  have HV2 := hid (show (isC x && (isC y && isC z)) = T.all isC by rw [hT]; simp)
  clear hr hn hT HN
  go_enter Tryz.func17, Tryz.ntmps17
  go_wp2
  go_loop [7] (fun v => ∃ k : Nat, v = .int .i64 k ∧ k ≤ n ∧ Hid (T.all isC = (T.drop k).all isC)) (fun v => n - (intOf v).toNat)
  case atStart => exact ⟨0, rfl, Nat.zero_le _, rfl⟩
  case round =>
    obtain ⟨k, rfl, hk, HA⟩ := hrel
    by_cases hlt : k < n
    · have hkl : k < T.length := by have := HTL.out; omega
      obtain ⟨b, hb, _, a0⟩ := HR.out k T[k] (List.getElem?_eq_getElem hkl)
      cases hb
      have HD := hid (show T.drop k = T[k] :: T.drop (k + 1) from List.drop_eq_getElem_cons hkl)
      rw [HD.out] at HA
      obtain ⟨v, hv⟩ : ∃ v, v = T[k] := ⟨_, rfl⟩
      rw [← hv] at a0 HA
      have i0 : (0 : Int) ≤ (k : Int) := by omega
      have i1 : (k : Int) < (n : Int) := by omega
      clear hv HD hkl
      by_cases h1 : v < 0
      · have HF := hid (show T.all isC = false by rw [HA.out]; simp [isC]; omega)
        go_wp2
        go_ret
        exact ⟨by rw [HV2.out, HF.out]; rfl, rfl⟩
      · by_cases h2 : 100000 < v
        · have HF := hid (show T.all isC = false by rw [HA.out]; simp [isC]; omega)
          go_wp2
          go_ret
          exact ⟨by rw [HV2.out, HF.out]; rfl, rfl⟩
        · have HF := hid (show T.all isC = (T.drop (k + 1)).all isC by
            rw [HA.out]
            have : isC v = true := by rw [isC_is]; omega
            simp [this])
          go_wp2
          go_round
          case rel => exact ⟨k + 1, by go_num, by omega, HF⟩
          case measure => simp [intOf]; omega
    · have i1 : ¬ (k : Int) < (n : Int) := by omega
      have HF := hid (show T.all isC = true by rw [HA.out, List.drop_of_length_le (by have := HTL.out; omega)]; rfl)
      go_wp2
      go_ret
      exact ⟨by rw [HV2.out, HF.out]; rfl, rfl⟩
/-- A struct of four numbers that was boxed. -/
def Wrs (W : World) (B : Nat) (wd fi re ho : Int) : Prop := W.heap[B]? = some (.cells #[.int .i64 wd, .int .i64 fi, .int .i64 re, .int .i64 ho] 24 (0, 0))
theorem Wrs.cell {W : World} {B : Nat} {wd fi re ho : Int} (h : Wrs W B wd fi re ho) : W.cell? ⟨B, 0, none⟩ = some (.int .i64 wd) ∧ W.cell? ⟨B, 1, none⟩ = some (.int .i64 fi) ∧ W.cell? ⟨B, 2, none⟩ = some (.int .i64 re) ∧ W.cell? ⟨B, 3, none⟩ = some (.int .i64 ho) := by
  unfold Wrs at h
  refine ⟨?_, ?_, ?_, ?_⟩ <;> simp [World.cell?, h]
theorem Wrs.new (w : World) (wd fi re ho : Int) : Wrs (w.alloc (.cells #[.int .i64 wd, .int .i64 fi, .int .i64 re, .int .i64 ho] 24)) w.heap.size wd fi re ho := World.alloc_heap_new w _
theorem Wrs.lt {W : World} {B : Nat} {wd fi re ho : Int} (h : Wrs W B wd fi re ho) : B < W.heap.size := (Array.getElem?_eq_some_iff.1 h).1
theorem Wrs.kept {W W' : World} {B : Nat} {wd fi re ho : Int} (h : Wrs W B wd fi re ho) (hb : Below W.heap.size W W') : Wrs W' B wd fi re ho := (hb.block _ h.lt).trans h
theorem drop_at {α : Type} {l : List α} {k : Nat} (h : k < l.length) : l.drop k = l[k] :: l.drop (k + 1) := List.drop_eq_getElem_cons h
theorem bx_at {L : List Bx} {i : Nat} (h : i < L.length) : bx L i = L[i] := by
  unfold bx
  rw [List.getElem?_eq_getElem h]
  rfl
set_option maxHeartbeats 2000000 in
theorem check_any (lo : Option Addr) (n c : Nat) (wd fi re ho : Int) (L : List Bx) (w : World) (hn : n = L.length) (hr : RdB w lo L) :
    Calls Tryz.prog 6 #[.slice lo n c, .agg #[.int .i64 wd, .int .i64 fi, .int .i64 re, .int .i64 ho]] w fun e w' => e = .returned (.tuple #[.int .i64 (chk ⟨wd, fi, re, ho⟩ L).1, .int .i64 ((chk ⟨wd, fi, re, ho⟩ L).2 : Nat)]) ∧ Below w.heap.size w w' := by
  have HS := hid (Wrs.new w wd fi re ho)
  have HB := hid (below_box (w := w) (o := .cells #[.int .i64 wd, .int .i64 fi, .int .i64 re, .int .i64 ho] 24))
  have HR := hid (hr.below HB.out)
  have HN := hid hn
  clear hr hn
  by_cases h1 : wd < 1
  · have HV := hid (show chk ⟨wd, fi, re, ho⟩ L = (161, 0) by
      unfold chk; rw [if_neg]; simp only [wrOk, Bool.and_eq_true, decide_eq_true_eq]; omega)
    go_enter Tryz.func6, Tryz.ntmps6
    go_wp2
    go_ret2
    exact ⟨by rw [HV.out]; rfl, HB.out⟩
  have HW1 := hid (show decide (1 ≤ wd) = true by simp; omega)
  have H3 := rd3 (w.alloc (.cells #[.int .i64 wd, .int .i64 fi, .int .i64 re, .int .i64 ho] 24)) wd fi re
  rw [World.size_alloc] at H3
  replace H3 := hid H3
  have HB3 := hid (HB.out.alloc (by simp) (.cells #[.int .i64 wd, .int .i64 fi, .int .i64 re] 3))
  have HS3 := hid (HS.out.kept (below_box (o := .cells #[.int .i64 wd, .int .i64 fi, .int .i64 re] 3)))
  have HR3 := hid (HR.out.below (below_box (o := .cells #[.int .i64 wd, .int .i64 fi, .int .i64 re] 3)))
  cases h2 : (isC wd && (isC fi && isC re)) with
  | false =>
    have HV := hid (show chk ⟨wd, fi, re, ho⟩ L = (161, 0) by
      unfold chk; rw [if_neg]; rw [wrOk, h2]; simp)
    go_enter Tryz.func6, Tryz.ntmps6
    go_wp2_with fail
    refine (cells_any _ wd fi re _ _ _ rfl H3.out).mono ?_
    rintro e w1 ⟨rfl, rfl⟩
    rw [h2]
    go_wp2
    go_ret2
    exact ⟨by rw [HV.out]; rfl, HB3.out⟩
  | true =>
    obtain ⟨_, _, _, q3⟩ := HS3.out.cell
    have HWO := hid (show wrOk ⟨wd, fi, re, ho⟩ = true by rw [wrOk, h2, HW1.out]; rfl)
    by_cases h3 : ho = 0 ∨ ho = 1
    · have HHO := hid (show hoOk ⟨wd, fi, re, ho⟩ = true by simpa [hoOk] using h3)
      by_cases h4 : 4096 < n
      · have HV := hid (show chk ⟨wd, fi, re, ho⟩ L = (6, 0) by
          unfold chk; rw [if_pos HWO.out, if_pos HHO.out, if_neg (by have := HN.out; omega)])
        have i4 : (4096 : Int) < (n : Int) := by omega
        rcases h3 with rfl | rfl
        all_goals
          go_enter Tryz.func6, Tryz.ntmps6
          go_wp2_with fail
          refine (cells_any _ wd fi re _ _ _ rfl H3.out).mono ?_
          rintro e w1 ⟨rfl, rfl⟩
          rw [h2]
          go_wp2
          go_ret2
          exact ⟨by rw [HV.out]; rfl, HB3.out⟩
      · have i4 : ¬ (4096 : Int) < (n : Int) := by omega
        have HV := hid (show chk ⟨wd, fi, re, ho⟩ L = (match badB L 0 with
            | none => (0, 0)
            | some i => (160, i)) by
          unfold chk; rw [if_pos HWO.out, if_pos HHO.out, if_pos (by have := HN.out; omega)])
        rcases h3 with rfl | rfl
        all_goals
          go_enter Tryz.func6, Tryz.ntmps6
          go_wp2_with fail
          refine (cells_any _ wd fi re _ _ _ rfl H3.out).mono ?_
          rintro e w1 ⟨rfl, rfl⟩
          rw [h2]
          go_wp2
          go_loopw [38] (fun v wr => ∃ k : Nat, v = .int .i64 k ∧ k ≤ n ∧ Hid (badB L 0 = badB (L.drop k) k) ∧ Hid (Below w.heap.size w wr) ∧ Hid (RdB wr lo L)) (fun v _ => n - (intOf v).toNat)
          case atStart => exact ⟨0, rfl, Nat.zero_le _, rfl, HB3, HR3⟩
          case round =>
            obtain ⟨k, rfl, hk, HBD, HBr, HRr⟩ := hrel
            by_cases hlt : k < n
            · have hkl : k < L.length := by have := HN.out; omega
              obtain ⟨a, rfl, ha, a0, a1, a2, a3⟩ := HRr.out.at hkl
              have HBD2 := hid (show badB L 0 = if bxOk (bx L k) = true then badB (L.drop (k + 1)) (k + 1) else some k by rw [HBD.out, drop_at hkl, ← bx_at hkl]; rfl)
              obtain ⟨x, hx⟩ : ∃ x, x = bx L k := ⟨_, rfl⟩
              rw [← hx] at a0 a1 a2 a3 HBD2
              have i0 : (0 : Int) ≤ (k : Int) := by omega
              have i1 : (k : Int) < (n : Int) := by omega
              clear hx hkl HBD
              obtain ⟨xw, xb, xh, xm⟩ := x
              dsimp only at a0 a1 a2 a3
              have bA := below_box (w := wr) (o := .cells #[.int .i64 xw, .int .i64 xb, .int .i64 xh, .bool xm] 53)
              have HC := rd3 (wr.alloc (.cells #[.int .i64 xw, .int .i64 xb, .int .i64 xh, .bool xm] 53)) xw xb xh
              rw [World.size_alloc] at HC
              replace HC := hid HC
              have HBC := hid ((HBr.out.trans (bA.mono HBr.out.size)).alloc (by have := HBr.out.size; simp; omega) (.cells #[.int .i64 xw, .int .i64 xb, .int .i64 xh] 3))
              have HRC := hid ((HRr.out.below bA).below (below_box (o := .cells #[.int .i64 xw, .int .i64 xb, .int .i64 xh] 3)))
              clear bA
              cases h5 : (isC xw && (isC xb && isC xh)) with
              | true =>
                have HB4 := hid (show badB L 0 = badB (L.drop (k + 1)) (k + 1) by rw [HBD2.out, if_pos]; exact h5)
                go_wp2_with fail
                refine (cells_any _ xw xb xh _ _ _ rfl HC.out).mono ?_
                rintro e w1 ⟨rfl, rfl⟩
                rw [h5]
                go_wp2
                go_roundw
                case rel => exact ⟨k + 1, by go_num, by omega, HB4, HBC, HRC⟩
                case measure => simp [intOf]; omega
              | false =>
                have HB4 := hid (show badB L 0 = some k by rw [HBD2.out, if_neg]; rw [bxOk, h5]; simp)
                go_wp2_with fail
                refine (cells_any _ xw xb xh _ _ _ rfl HC.out).mono ?_
                rintro e w1 ⟨rfl, rfl⟩
                rw [h5]
                go_wp2
                go_ret2
                exact ⟨by rw [HV.out, HB4.out]; rfl, HBC.out⟩
            · have i1 : ¬ (k : Int) < (n : Int) := by omega
              have HB4 := hid (show badB L 0 = none by rw [HBD.out, List.drop_of_length_le (by have := HN.out; omega)]; rfl)
              go_wp2
              go_ret2
              exact ⟨by rw [HV.out, HB4.out]; rfl, HBr.out⟩
    · have HV := hid (show chk ⟨wd, fi, re, ho⟩ L = (161, 0) by
        unfold chk; rw [if_pos HWO.out, if_neg]; simpa [hoOk] using h3)
      have b1 : (ho != 0) = true := bne_iff_ne.2 (fun h => h3 (.inl h))
      have b2 : (ho != 1) = true := bne_iff_ne.2 (fun h => h3 (.inr h))
      clear h3
      go_enter Tryz.func6, Tryz.ntmps6
      go_wp2_with fail
      refine (cells_any _ wd fi re _ _ _ rfl H3.out).mono ?_
      rintro e w1 ⟨rfl, rfl⟩
      rw [h2]
      go_wp2
      go_ret2
      exact ⟨by rw [HV.out]; rfl, HB3.out⟩
end Go.Proofs.YtkopefljnhgdkaaGreatDoor
