/- The contract of even (package wrap). -/
import Derived.Test.YtkopefljnhgdkaaGreatDoorWpBst
namespace Go.Proofs.YtkopefljnhgdkaaGreatDoor
open Go.RowKit Go.Shelf

theorem mkT {t e : TypeId} {i : TypeInfo} {z : Value} {by_ sz : Nat} (ht : Tryz.prog.underlying t = some (.slice e)) (hi : Tryz.prog.info? e = some i) (hz : i.zero = some z) (h1 : i.size = sz) (h2 : i.bytes = by_) (hb : by_ ≤ 48) (n : Nat) (hn : n ≤ 1000000) (W : World) :
    (Instr.makeSlice t (.int .i64 (n : Int)) (.int .i64 (n : Int))).run Tryz.prog W = .ok (.slice (some ⟨W.heap.size, 0, none⟩) n n) (W.alloc (.cells (madeCells z.cells (n * sz)) e)) := by
  have h := run_make (P := Tryz.prog) W t e i z ht hi hz .i64 .i64 (n : Int) (n : Int) (by omega) (Int.le_refl _) (by rw [h2]; have : (by_ : Int) * (n : Int) ≤ 48 * 1000000 := Int.mul_le_mul (by omega) (by omega) (by omega) (by omega); omega) (by omega)
  rw [h1] at h
  simpa using h
/-- A table of ways in memory, whole: from k on it holds T. -/
structure TbA (W : World) (g : Nat) (T : Nat → Way) (k n : Nat) : Prop where
  blk : ∃ cs : Array Value, W.heap[g]? = some (.cells cs 72 (0, 0)) ∧ cs.size = (n + 1) * 3 ∧ ∀ j, k ≤ j → j ≤ n → cs[j * 3]? = some (.int .i64 (T j).c) ∧ cs[j * 3 + 1]? = some (.int .i64 (T j).l) ∧ cs[j * 3 + 2]? = some (.int .i64 ((T j).e : Nat))
theorem TbA.rd {W : World} {g : Nat} {T : Nat → Way} {k n : Nat} (h : TbA W g T k n) : RdT W g T k n := by
  obtain ⟨cs, h1, h2, h3⟩ := h.blk
  refine ⟨(Array.getElem?_eq_some_iff.1 h1).1, fun j hj hn => ?_⟩
  obtain ⟨a, b, c⟩ := h3 j hj hn
  refine ⟨?_, ?_, ?_⟩
  · rw [cell_of_row _ g (j * 3) cs _ _ h1]; exact a
  · rw [cell_of_row _ g (j * 3 + 1) cs _ _ h1]; exact b
  · rw [cell_of_row _ g (j * 3 + 2) cs _ _ h1]; exact c
theorem TbA.keep {W W' : World} {g : Nat} {T : Nat → Way} {k n : Nat} (h : TbA W g T k n) (hb : W'.heap[g]? = W.heap[g]?) : TbA W' g T k n := by
  obtain ⟨cs, h1, h2, h3⟩ := h.blk
  exact ⟨cs, hb.trans h1, h2, h3⟩
theorem TbA.lt {W : World} {g : Nat} {T : Nat → Way} {k n : Nat} (h : TbA W g T k n) : g < W.heap.size := by
  obtain ⟨cs, h1, _⟩ := h.blk
  exact (Array.getElem?_eq_some_iff.1 h1).1
/-- Three cells set one behind the other. -/
def stw (W : World) (g o : Nat) (v0 v1 v2 : Value) : World := ((W.setCell ⟨g, o, none⟩ v0).setCell ⟨g, o + 1, none⟩ v1).setCell ⟨g, o + 2, none⟩ v2
theorem stw_other {W : World} {g o : Nat} {v0 v1 v2 : Value} {b : Nat} (hb : b ≠ g) : (stw W g o v0 v1 v2).heap[b]? = W.heap[b]? := by
  unfold stw
  rw [heap_setCell_other _ ⟨g, o + 2, none⟩ b _ (fun e => hb e), heap_setCell_other _ ⟨g, o + 1, none⟩ b _ (fun e => hb e), heap_setCell_other _ ⟨g, o, none⟩ b _ (fun e => hb e)]
theorem stw_size {W : World} {g o : Nat} {v0 v1 v2 : Value} : (stw W g o v0 v1 v2).heap.size = W.heap.size := by unfold stw; simp
theorem TbA.st {W : World} {g : Nat} {T : Nat → Way} {i n : Nat} (h : TbA W g T (i + 1) n) (hi : i ≤ n) (x : Way) : TbA (stw W g (i * 3) (.int .i64 x.c) (.int .i64 x.l) (.int .i64 (x.e : Nat))) g (fun j => if j = i then x else T j) i n := by
  obtain ⟨cs, h1, h2, h3⟩ := h.blk
  have e1 := heap_setCell_same W g (i * 3) cs _ (.int .i64 x.c) h1
  have e2 := heap_setCell_same _ g (i * 3 + 1) _ _ (.int .i64 x.l) e1
  have e3 := heap_setCell_same _ g (i * 3 + 2) _ _ (.int .i64 (x.e : Nat)) e2
  refine ⟨_, e3, by simp [h2], fun j hj hn => ?_⟩
  by_cases e : j = i
  · subst e
    simp only [if_true]
    have s0 : j * 3 < cs.size := by omega
    have s1 : j * 3 + 1 < cs.size := by omega
    have s2 : j * 3 + 2 < cs.size := by omega
    refine ⟨?_, ?_, ?_⟩ <;> simp [s0, s1, s2]
  · simp only [e, if_false]
    obtain ⟨a, b, c⟩ := h3 j (by omega) hn
    refine ⟨?_, ?_, ?_⟩
    · rw [Array.getElem?_setIfInBounds_ne (by omega), Array.getElem?_setIfInBounds_ne (by omega), Array.getElem?_setIfInBounds_ne (by omega)]; exact a
    · rw [Array.getElem?_setIfInBounds_ne (by omega), Array.getElem?_setIfInBounds_ne (by omega), Array.getElem?_setIfInBounds_ne (by omega)]; exact b
    · rw [Array.getElem?_setIfInBounds_ne (by omega), Array.getElem?_setIfInBounds_ne (by omega), Array.getElem?_setIfInBounds_ne (by omega)]; exact c
theorem TbA.cells {W : World} {g : Nat} {T : Nat → Way} {k n : Nat} (h : TbA W g T k n) {i : Nat} (hi : i ≤ n) : (∃ v0, W.cell? ⟨g, i * 3, none⟩ = some v0) ∧ (∃ v1, W.cell? ⟨g, i * 3 + 1, none⟩ = some v1) ∧ (∃ v2, W.cell? ⟨g, i * 3 + 2, none⟩ = some v2) ∧ ∀ o, W.frozen? ⟨g, o, none⟩ = false := by
  obtain ⟨cs, h1, h2, h3⟩ := h.blk
  refine ⟨⟨cs[i * 3]'(by omega), ?_⟩, ⟨cs[i * 3 + 1]'(by omega), ?_⟩, ⟨cs[i * 3 + 2]'(by omega), ?_⟩, fun o => by simp [World.frozen?, h1]⟩
  · rw [cell_of_row _ g _ cs _ _ h1]; exact Array.getElem?_eq_getElem _
  · rw [cell_of_row _ g _ cs _ _ h1]; exact Array.getElem?_eq_getElem _
  · rw [cell_of_row _ g _ cs _ _ h1]; exact Array.getElem?_eq_getElem _
theorem made_way (n : Nat) : ∀ j, j ≤ n → (madeCells (Value.agg #[.int .i64 0, .int .i64 0, .int .i64 0]).cells ((n + 1) * 3))[j * 3]? = some (.int .i64 0) ∧ (madeCells (Value.agg #[.int .i64 0, .int .i64 0, .int .i64 0]).cells ((n + 1) * 3))[j * 3 + 1]? = some (.int .i64 0) ∧ (madeCells (Value.agg #[.int .i64 0, .int .i64 0, .int .i64 0]).cells ((n + 1) * 3))[j * 3 + 2]? = some (.int .i64 0) := by
  intro j hj
  have key : ∀ k, k < (n + 1) * 3 → (madeCells (Value.agg #[.int .i64 0, .int .i64 0, .int .i64 0]).cells ((n + 1) * 3))[k]? = some (.int .i64 0) := by
    intro k hk
    unfold madeCells
    rw [Array.getElem?_map, Array.getElem?_range, if_pos hk, Option.map_some]
    refine congrArg some ?_
    have hm : k % 3 < 3 := Nat.mod_lt _ (by decide)
    have e : ∀ m, m < 3 → (#[Value.int .i64 0, .int .i64 0, .int .i64 0] : Array Value)[m]! = Value.int .i64 0 := fun m hm => by
      match m, hm with
      | 0, _ => rfl
      | 1, _ => rfl
      | 2, _ => rfl
    exact e _ hm
  exact ⟨key _ (by omega), key _ (by omega), key _ (by omega)⟩
/-- What stands in the table behind a turn. -/
theorem good_step {W : Wr} {L : List Bx} {T : Nat → Way} {i : Nat} (hi : i < L.length) (h : Good W L T (i + 1)) {x : Way} (hx : Best W L T i x) : Good W L (fun j => if j = i then x else T j) i := by
  have hw : ∀ k j, Lin W L k j → i ≤ k → wy W L (fun j => if j = i then x else T j) k j = wy W L T k j := fun k j hl hk => by
    unfold wy
    have : j + 1 ≠ i := by have := hl.1.1; omega
    simp only [this, if_false]
  refine ⟨by simp only [show L.length ≠ i by omega, if_false]; exact h.1, fun k h1 h2 => ?_⟩
  by_cases e : k = i
  · subst e
    simp only [if_true]
    exact ⟨hx.1, hx.2.1.trans (hw k _ hx.1 (Nat.le_refl _)).symm, fun j hj => by rw [hw k j hj (Nat.le_refl _)]; exact hx.2.2 j hj⟩
  · simp only [e, if_false]
    obtain ⟨b1, b2, b3⟩ := h.2 k (by omega) h2
    exact ⟨b1, b2.trans (hw k _ b1 h1).symm, fun j hj => by rw [hw k j hj h1]; exact b3 j hj⟩
theorem tok_step {L : List Bx} {T : Nat → Way} {i : Nat} {x : Way} (h : ∀ k, i < k → k ≤ L.length → TOk L T k) (hx : (0 ≤ x.c ∧ x.c ≤ 1000000000000 * ((L.length - i : Nat) : Int)) ∧ 0 ≤ x.l ∧ x.l ≤ ((L.length - i : Nat) : Int)) : ∀ k, i ≤ k → k ≤ L.length → TOk L (fun j => if j = i then x else T j) k := fun k h1 h2 => by
  by_cases e : k = i
  · subst e
    exact ⟨by simp only [if_true]; exact hx.1.1, by simp only [if_true]; exact hx.1.2, by simp only [if_true]; exact hx.2.1, by simp only [if_true]; exact hx.2.2⟩
  · have := h k (by omega) h2
    exact ⟨by simp only [e, if_false]; exact this.c0, by simp only [e, if_false]; exact this.c1, by simp only [e, if_false]; exact this.l0, by simp only [e, if_false]; exact this.l1⟩
end Go.Proofs.YtkopefljnhgdkaaGreatDoor
