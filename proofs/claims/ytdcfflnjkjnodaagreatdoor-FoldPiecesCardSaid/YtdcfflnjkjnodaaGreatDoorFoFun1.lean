/- The contracts of names and of (package fold): the small and the great letter of a rune by the lines of pairs. -/
import Derived.Test.YtdcfflnjkjnodaaGreatDoorFoTab
import Derived.Test.YtdcfflnjkjnodaaGreatDoorBase
import Derived.RangeFuncBox
namespace Go.Proofs.YtdcfflnjkjnodaaGreatDoor
open Go.RowKit
namespace Fo
abbrev Ln4 := Int × Int × Int × Int
/-- Whether a line names a great letter. -/
def nmB (x : Ln4) (r : Int) : Bool := decide (x.1 ≤ r) && (decide (r ≤ x.2.1) && ((r - x.1) % x.2.2.2 == 0))
/-- The small and the great letter. -/
def ofL : List Ln4 → Int → Int × Int
  | [], r => (r, r)
  | x :: t, r => if nmB x r = true then (r + x.2.2.1, r) else if nmB x (r - x.2.2.1) = true then (r, r - x.2.2.1) else ofL t r
def ofR (r : Int) : Int × Int := ofL prT r
def okL (x : Ln4) : Bool := decide (0 ≤ x.1) && (decide (x.1 ≤ 100000) && (decide (0 ≤ x.2.1) && (decide (x.2.1 ≤ 100000) && (decide (-1000 ≤ x.2.2.1) && (decide (x.2.2.1 ≤ 1000) && (decide (1 ≤ x.2.2.2) && decide (x.2.2.2 ≤ 2)))))))
theorem okL_is {x : Ln4} (h : okL x = true) : 0 ≤ x.1 ∧ x.1 ≤ 100000 ∧ 0 ≤ x.2.1 ∧ x.2.1 ≤ 100000 ∧ -1000 ≤ x.2.2.1 ∧ x.2.2.1 ≤ 1000 ∧ 1 ≤ x.2.2.2 ∧ x.2.2.2 ≤ 2 := by simpa [okL] using h
theorem prT_ok : ∀ x ∈ prT, okL x = true := List.all_eq_true.1 (show prT.all okL = true by kernel_rfl)
theorem below_box {w : World} {o : Obj} : Below w.heap.size w (w.alloc o) := (Below.refl _ _).alloc (Nat.le_refl _) _
theorem below_drN {n : Nat} {w w' : World} (h : Below n w w') (k : Nat) : Below n w (w'.drewN k) := h.trans ⟨rfl, rfl, rfl, Nat.le_refl _, fun _ _ => rfl⟩
set_option maxHeartbeats 1000000 in
theorem names_any (x : Ln4) (r : Int) (w : World) (hx : okL x = true) :
    Calls Tryz.prog 36 #[.agg #[.int .i32 x.1, .int .i32 x.2.1, .int .i32 x.2.2.1, .int .i32 x.2.2.2], .int .i32 r] w fun e w' => e = .returned (.bool (nmB x r)) ∧ Below w.heap.size w w' := by
  obtain ⟨a, b, c, d⟩ := x
  obtain ⟨a0, a1, b0, b1, c0, c1, d0, d1⟩ := okL_is hx
  simp only at a0 a1 b0 b1 c0 c1 d0 d1
  have HB := hid (below_box (w := w) (o := .cells #[.int .i32 a, .int .i32 b, .int .i32 c, .int .i32 d] 68))
  clear hx
  by_cases e1 : a ≤ r
  · by_cases e2 : r ≤ b
    · have q2 : ¬ d = 0 := by omega
      have HV := hid (show nmB (a, b, c, d) r = ((r - a) % d == 0) by simp [nmB, e1, e2])
      go_enter Tryz.func36, Tryz.ntmps36
      go_wp2
      go_ret
      exact ⟨by rw [HV.out]; rfl, HB.out⟩
    · have HV := hid (show nmB (a, b, c, d) r = false by simp [nmB, e2])
      go_enter Tryz.func36, Tryz.ntmps36
      go_wp2
      go_ret
      exact ⟨by rw [HV.out]; rfl, HB.out⟩
  · have HV := hid (show nmB (a, b, c, d) r = false by simp [nmB, e1])
    go_enter Tryz.func36, Tryz.ntmps36
    go_wp2
    go_ret
    exact ⟨by rw [HV.out]; rfl, HB.out⟩
/-- The lines of pairs are read at an address. -/
def RdL (w : World) (g : Nat) : Prop := w.heap[g]? = some (.cells ⟨prV⟩ 68 (0, 0))
theorem RdL.lt {w : World} {g : Nat} (h : RdL w g) : g < w.heap.size := (Array.getElem?_eq_some_iff.1 h).1
theorem RdL.below {w w' : World} {g : Nat} (h : RdL w g) (hb : Below w.heap.size w w') : RdL w' g := (hb.block _ h.lt).trans h
theorem flat4 : ∀ (T : List Ln4) (k : Nat) (x : Ln4), T[k]? = some x → ∀ j v, [Value.int .i32 x.1, .int .i32 x.2.1, .int .i32 x.2.2.1, .int .i32 x.2.2.2][j]? = some v → (T.flatMap fun x => [Value.int .i32 x.1, .int .i32 x.2.1, .int .i32 x.2.2.1, .int .i32 x.2.2.2])[k * 4 + j]? = some v
  | [], k, x, h, _, _, _ => by simp at h
  | y :: T, 0, x, h, j, v, hj => by
    obtain rfl : y = x := by simpa using h
    rw [List.flatMap_cons, Nat.zero_mul, Nat.zero_add, List.getElem?_append_left (by rw [List.getElem?_eq_some_iff] at hj; exact hj.1)]
    exact hj
  | y :: T, k + 1, x, h, j, v, hj => by
    rw [List.flatMap_cons, List.getElem?_append_right (by simp; omega)]
    have := flat4 T k x (by simpa using h) j v hj
    rw [← this]
    congr 1
    simp
    omega
theorem RdL.at {w : World} {g : Nat} (h : RdL w g) {k : Nat} {x : Ln4} (hk : prT[k]? = some x) :
    w.cell? ⟨g, k * 4, none⟩ = some (.int .i32 x.1) ∧ w.cell? ⟨g, k * 4 + 1, none⟩ = some (.int .i32 x.2.1) ∧ w.cell? ⟨g, k * 4 + 2, none⟩ = some (.int .i32 x.2.2.1) ∧ w.cell? ⟨g, k * 4 + 3, none⟩ = some (.int .i32 x.2.2.2) := by
  have hc : ∀ j v, [Value.int .i32 x.1, .int .i32 x.2.1, .int .i32 x.2.2.1, .int .i32 x.2.2.2][j]? = some v → w.cell? ⟨g, k * 4 + j, none⟩ = some v := fun j v hj => by
    have h1 := flat4 prT k x hk j v hj
    unfold RdL at h
    simp only [World.cell?, h]
    show (⟨prV⟩ : Array Value)[k * 4 + j]? = some v
    rw [← h1]
    simp [prV]
  exact ⟨hc 0 _ rfl, hc 1 _ rfl, hc 2 _ rfl, hc 3 _ rfl⟩
theorem box4 {w w' : World} {a b c d : Value} {t : TypeId} (h : Below (w.heap.size + 1) (w.alloc (.cells #[a, b, c, d] t)) w') : w'.cell? ⟨w.heap.size, 0, none⟩ = some a ∧ w'.cell? ⟨w.heap.size, 1, none⟩ = some b ∧ w'.cell? ⟨w.heap.size, 2, none⟩ = some c ∧ w'.cell? ⟨w.heap.size, 3, none⟩ = some d := by
  have hh := h.block w.heap.size (by omega)
  rw [World.alloc_heap_new] at hh
  refine ⟨?_, ?_, ?_, ?_⟩ <;> simp [World.cell?, hh]
set_option maxHeartbeats 4000000 in
theorem of_any (g : Nat) (r : Int) (w : World) (h0 : 0 ≤ r) (h1 : r ≤ 1114111) (hg : RdL w g) :
    Calls Tryz.prog 21 #[.slice (some ⟨g, 0, none⟩) 23 23, .int .i32 r] w fun e w' => e = .returned (.tuple #[.int .i32 (ofR r).1, .int .i32 (ofR r).2]) ∧ Below w.heap.size w w' := by
  have HG := hid hg
  have HB0 := hid (Below.refl w.heap.size w)
  clear hg
  go_enter Tryz.func21, Tryz.ntmps21
  go_wp2
  go_loopw [10] (fun v wr => ∃ k : Nat, v = .int .i64 k ∧ k ≤ 23 ∧ Hid (ofR r = ofL (prT.drop k) r) ∧ Hid (Below w.heap.size w wr)) (fun v _ => 23 - (intOf v).toNat)
  case atStart => exact ⟨0, rfl, by omega, rfl, HB0⟩
  case round =>
    obtain ⟨k, rfl, hk, HP, HB⟩ := hrel
    have hpl : prT.length = 23 := by kernel_rfl
    by_cases hlt : k < 23
    · have hkl : k < prT.length := by omega
      obtain ⟨x, hx⟩ : ∃ x, prT[k]? = some x := ⟨_, List.getElem?_eq_getElem hkl⟩
      have HD := hid (show prT.drop k = x :: prT.drop (k + 1) by
        rw [List.drop_eq_getElem_cons hkl]
        rw [List.getElem?_eq_getElem hkl] at hx
        rw [Option.some.inj hx])
      have hok := prT_ok x (List.mem_of_getElem? hx)
      obtain ⟨a0, a1, a2, a3⟩ := (HG.out.below HB.out).at hx
      have i0 : (0 : Int) ≤ (k : Int) := by omega
      have i1 : (k : Int) < 23 := by omega
      obtain ⟨xa, xb, xc, xd⟩ := x
      dsimp only at a0 a1 a2 a3
      obtain ⟨_, _, _, _, c0, c1, _, _⟩ := okL_is hok
      dsimp only at c0 c1
      have HOK := hid hok
      have HB1 := hid (HB.out.trans ((below_box (w := wr) (o := .cells #[.int .i32 xa, .int .i32 xb, .int .i32 xc, .int .i32 xd] 68)).mono HB.out.size))
      have hsz := HB.out.size
      have q1 : IntKind.i32.wrap (r - xc) = r - xc := Go.IntWalk.i32_in _ ⟨by omega, by omega⟩
      have q2 : IntKind.i32.wrap (r + xc) = r + xc := Go.IntWalk.i32_in _ ⟨by omega, by omega⟩
      clear hx hkl hok hpl
      go_wp2_with fail
      refine (names_any (xa, xb, xc, xd) r _ HOK.out).mono ?_
      rintro e w1 ⟨rfl, be⟩
      rw [World.size_alloc] at be
      obtain ⟨b0, b1, b2, b3⟩ := box4 be
      have HB2 := hid (HB1.out.trans (be.mono (by omega)))
      have hs2 : w.heap.size ≤ w1.heap.size := HB2.out.size
      have HX := hid (show ofR r = if nmB (xa, xb, xc, xd) r = true then (r + xc, r) else if nmB (xa, xb, xc, xd) (r - xc) = true then (r, r - xc) else ofL (prT.drop (k + 1)) r by rw [HP.out, HD.out]; rfl)
      clear be HB1 a0 a1 a2 a3
      cases hv : nmB (xa, xb, xc, xd) r with
      | true =>
        have HE := hid (show ofR r = (r + xc, r) by rw [HX.out, if_pos hv])
        go_wp2
        go_ret2
        exact ⟨by rw [HE.out]; rfl, HB2.out⟩
      | false =>
        go_wp2_with fail
        refine (names_any (xa, xb, xc, xd) (r - xc) _ HOK.out).mono ?_
        rintro e w2 ⟨rfl, be⟩
        have c2 := (be.cell (p := ⟨wr.heap.size, 2, none⟩) (World.block_lt_of_cell? _ _ b2)).trans b2
        have HB3 := hid (HB2.out.trans (be.mono hs2))
        clear be b0 b1 b2 b3
        cases hv2 : nmB (xa, xb, xc, xd) (r - xc) with
        | true =>
          have HE := hid (show ofR r = (r, r - xc) by rw [HX.out, if_neg (by rw [hv]; exact Bool.false_ne_true), if_pos hv2])
          go_wp2
          go_quiet (fail)
          go_wp2
          go_ret2
          exact ⟨by rw [HE.out]; rfl, below_drN HB3.out _⟩
        | false =>
          have HE := hid (show ofR r = ofL (prT.drop (k + 1)) r by rw [HX.out, if_neg (by rw [hv]; exact Bool.false_ne_true), if_neg (by rw [hv2]; exact Bool.false_ne_true)])
          go_wp2
          go_roundw
          case rel => exact ⟨k + 1, by go_num, by omega, HE, HB3⟩
          case measure => simp [intOf]; omega
    · have i1 : ¬ (k : Int) < 23 := by omega
      have HE := hid (show ofR r = (r, r) by rw [HP.out, List.drop_of_length_le (by omega)]; rfl)
      go_wp2
      go_ret2
      exact ⟨by rw [HE.out]; rfl, HB.out⟩
end Fo
end Go.Proofs.YtdcfflnjkjnodaaGreatDoor
