/- Lists that are copied into rows of their own: what lies apart from the rows that still grow. -/
import Derived.Test.YtkmcbhdjecpmjaaDoorAlike7
import Derived.Test.YtkmcbhdjecpmjaaDoorMix3
import Derived.Laws.Rows
import Derived.Deep.AppendSrc
namespace Go.Proofs.YtkmcbhdjecpmjaaDoor
open Go.RowKit

theorem wp_mid {P : Program} {c : Code} {Q : Exit → Act → World → Prop} {a : Act} {w : World} (R : Act → World → Prop) (h1 : c.wp P (fun e a' w' => e = .normal ∧ R a' w') a w) (h2 : ∀ a' w', R a' w' → Q .normal a' w') : c.wp P Q a w :=
  Code.wp_mono (fun e a' w' h => by obtain ⟨rfl, h⟩ := h; exact h2 a' w' h) h1
/-- A list of numbers that lies in none of the blocks X. -/
def RdIx (w : World) (X : Nat → Prop) (ao : Option Addr) (l : List Int) : Prop :=
  ∀ (k : Nat) (z : Int), l[k]? = some z → ∃ a : Addr, ao = some a ∧ a.block < w.heap.size ∧ ¬ X a.block ∧ w.cell? (a.add k) = some (.int .i64 z)
/-- The first rows, copied. -/
def CpR (w : World) (X : Nat → Prop) (R : Rw) (k : Nat) (V : List Value) : Prop :=
  ∀ (j : Nat) (row : List Int), j < k → R[j]? = some row → ∃ (co : Option Addr) (cc : Nat), V[j]? = some (.slice co row.length cc) ∧ RdIx w X co row
/-- From one world to a later one. -/
structure Kp (w w' : World) (X X' : Nat → Prop) : Prop where
  size : w.heap.size ≤ w'.heap.size
  block : ∀ k, k < w.heap.size → ¬ X k → w'.heap[k]? = w.heap[k]?
  sub : ∀ k, k < w.heap.size → X' k → X k
section
variable {w w' : World} {X X' : Nat → Prop}
theorem Kp.cell (h : Kp w w' X X') {p : Addr} {v : Value} (hp : p.block < w.heap.size) (hx : ¬ X p.block) (hc : w.cell? p = some v) : w'.cell? p = some v := (World.cell?_of_block (h.block p.block hp hx)).trans hc
theorem RdIx.keep {ao : Option Addr} {l : List Int} (h : RdIx w X ao l) (hk : Kp w w' X X') : RdIx w' X' ao l := fun k z hz => by
  obtain ⟨a, h1, h2, h3, h4⟩ := h k z hz
  exact ⟨a, h1, Nat.lt_of_lt_of_le h2 hk.size, fun hx => h3 (hk.sub _ h2 hx), hk.cell (p := a.add k) (by rw [add_blk]; exact h2) (by rw [add_blk]; exact h3) h4⟩
theorem RdIx.rd {ao : Option Addr} {l : List Int} (h : RdIx w X ao l) : RdI w ao l := fun k z hz => by
  obtain ⟨a, h1, h2, _, h4⟩ := h k z hz
  exact ⟨a, h1, h2, h4⟩
theorem CpR.keep {R : Rw} {k : Nat} {V : List Value} (h : CpR w X R k V) (hk : Kp w w' X X') : CpR w' X' R k V := fun j g hj hg => by
  obtain ⟨co, cc, h1, h3⟩ := h j g hj hg
  exact ⟨co, cc, h1, h3.keep hk⟩
theorem CpR.next {R : Rw} {k : Nat} {V : List Value} {C : List Int} {co : Option Addr} {cc : Nat} (h : CpR w X R k V) (hV : V.length = k) (hE : R[k]? = some C) (hC : RdIx w X co C) : CpR w X R (k + 1) (V ++ [.slice co C.length cc]) := fun j g hj hg => by
  by_cases e : j = k
  · subst e
    rw [hE] at hg
    cases hg
    exact ⟨co, cc, by rw [List.getElem?_append_right (by omega), hV]; simp, hC⟩
  · obtain ⟨co, cc, h1, h3⟩ := h j g (by omega) hg
    exact ⟨co, cc, by rw [List.getElem?_append_left (by omega)]; exact h1, h3⟩
end
/-- The row of rows, once it is whole. -/
theorem rdr_of {B m vc : Nat} {w : World} {X : Nat → Prop} {vo : Option Addr} {V : List Value} {R : Rw} (h : w.ownsRow B 28 1 (.slice vo m vc) m V) (hc : CpR w X R m V) (hm : m = R.length) (hb : ∀ row ∈ R, row.length ≤ most) : RdR w vo R := fun k row hs => by
  have hk := (List.getElem?_eq_some_iff.1 hs).1
  obtain ⟨co, cc, h1, h3⟩ := hc k row (by omega) hs
  have hVl := (List.getElem?_eq_some_iff.1 h1).1
  have hm' := h.1
  rcases h.2 with ⟨_, e0⟩ | ⟨g, cap, cur, hv, hB, hg, _⟩
  · omega
  · simp only [Value.slice.injEq, true_and] at hv
    obtain ⟨rfl, rfl⟩ := hv
    exact ⟨_, rfl, (Array.getElem?_eq_some_iff.1 hg).1, co, cc, by rw [Addr.add_lit, Nat.zero_add, h.cellAt k (by omega)]; exact h1, h3.rd, hb row (List.mem_of_getElem? hs)⟩
/-- append of a list onto an empty row. -/
theorem run_copy {B H : Nat} {w : World} (hown : w.ownsRow B 3 1 (.slice (some ⟨H, 0, none⟩) 0 0) 0 []) (ty : TypeId) {fo : Option Addr} {fn fc : Nat} {F : List Int} (hF : RdI w fo F) (hfn : fn = F.length) (hl : fn ≤ 1000000) (hB : B ≤ w.heap.size) :
    ∃ g cap w', (Builtin.append_ #[28, 28] ty #[.slice (some ⟨H, 0, none⟩) 0 0, .slice fo fn fc]).run Tryd.prog w = .ok (.slice (some ⟨g, 0, none⟩) fn cap) w' ∧ w'.ownsRow B 3 1 (.slice (some ⟨g, 0, none⟩) fn cap) fn (i64s F) ∧ w.grownBy w' (some H) ∧ (g = H ∨ g = w.heap.size) ∧ g < w'.heap.size := by
  obtain ⟨i, hi, hz, hsize, hby⟩ := info_parts Tryd.info3
  by_cases h0 : fn = 0
  · subst h0
    have hF0 : F = [] := List.eq_nil_of_length_eq_zero hfn.symm
    subst hF0
    have hs : Src Tryd.prog i.size 28 (.slice fo 0 fc) 0 [] w := by
      cases fo with
      | none => exact Src.ofNil w Tryd.underlying28 fc
      | some a => exact Src.ofSlice w Tryd.underlying28 a 0 fc [] (by simp) (fun j u hj => by simp at hj) (fun u hu => by simp at hu)
    have hr : (Builtin.append_ #[28, 28] ty #[.slice (some ⟨H, 0, none⟩) 0 0, .slice fo 0 fc]).run Tryd.prog w = .ok (.slice (some ⟨H, 0, none⟩) 0 0) w := by
      simp [Builtin.append_, run_underlying Tryd.underlying28, sizeOf, typeInfo, hi, hs.len, hs.cells, storeCells]
    exact ⟨H, 0, w, hr, hown, ⟨rfl, rfl, rfl, Nat.le_refl _, fun _ _ _ => rfl⟩, .inl rfl, (hown.lt H rfl).2⟩
  · obtain ⟨a, rfl, _, _⟩ := hF 0 F[0] (List.getElem?_eq_getElem (by omega))
    obtain ⟨g, cap, w', hr, h2, h3, h4, h5⟩ := run_append_lies (P := Tryd.prog) w 28 ty B 3 i (.int .i64 0) 1 8 Tryd.underlying28 hi hz hsize hby rfl (by decide) (.slice (some ⟨H, 0, none⟩) 0 0) 0 [] hown a fn fc (i64s F) (by rw [i64s_len, hfn, Nat.mul_one]) (fun j u hj => by
      rw [i64s_at] at hj
      obtain ⟨z, hz1, hz2⟩ := Option.map_eq_some_iff.1 hj
      obtain ⟨a', e, _, h⟩ := hF j z hz1
      cases e
      rw [h, hz2]) (i64s_one F) (by omega) (by unfold maxLen; omega) (by omega) hB w.heap.size rfl
    refine ⟨g, cap, w', by simpa using hr, by simpa using h2, h3, ?_, h5⟩
    rcases h4 with h | h
    · exact .inl (Option.some.inj h).symm
    · exact .inr h
theorem wp_copy {w : World} {o : Oper} {a : Act} {K : Act → World → Prop} {Q : Exit → Act → World → Prop} (s x : Operand) (ho : o.op = .call { callee := .builtin .append, args := #[s, x], argTypes := #[28, 28] }) (B H : Nat) (hs : a.eval s = .slice (some ⟨H, 0, none⟩) 0 0) (hown : w.ownsRow B 3 1 (.slice (some ⟨H, 0, none⟩) 0 0) 0 []) (fo : Option Addr) (fn fc : Nat) (F : List Int) (hx : a.eval x = .slice fo fn fc) (hF : RdI w fo F) (hfn : fn = F.length) (hl : fn ≤ 1000000) (hB : B ≤ w.heap.size)
    (h : ∀ g cap w', w'.ownsRow B 3 1 (.slice (some ⟨g, 0, none⟩) fn cap) fn (i64s F) → w.grownBy w' (some H) → (g = H ∨ g = w.heap.size) → g < w'.heap.size → K (a.put o.dst (.slice (some ⟨g, 0, none⟩) fn cap)) w') : o.wp Tryd.prog a w K Q := by
  obtain ⟨g, cap, w', hr, h2, h3, h4, h5⟩ := run_copy hown o.type (fc := fc) hF hfn hl hB
  unfold Oper.wp execOp
  simp only [ho, resolve, invoke, builtin, Sem.run_bind, Sem.run_pure, Result.andThen_ok, List.map_toArray, List.map_cons, List.map_nil, hs, hx, hr]
  exact h g cap w' h2 h3 h4 h5
theorem wpList_copy {w : World} {ops : Array Oper} {rest : List Oper} {o : Oper} {a : Act} {Q : Exit → Act → World → Prop} (hgd : o.guard = none) (s x : Operand) (ho : o.op = .call { callee := .builtin .append, args := #[s, x], argTypes := #[28, 28] }) (B H : Nat) (hs : a.eval s = .slice (some ⟨H, 0, none⟩) 0 0) (hown : w.ownsRow B 3 1 (.slice (some ⟨H, 0, none⟩) 0 0) 0 []) (fo : Option Addr) (fn fc : Nat) (F : List Int) (hx : a.eval x = .slice fo fn fc) (hF : RdI w fo F) (hfn : fn = F.length) (hl : fn ≤ 1000000) (hB : B ≤ w.heap.size)
    (h : ∀ g cap w', w'.ownsRow B 3 1 (.slice (some ⟨g, 0, none⟩) fn cap) fn (i64s F) → w.grownBy w' (some H) → (g = H ∨ g = w.heap.size) → g < w'.heap.size → wpList Tryd.prog ops Q rest (a.put o.dst (.slice (some ⟨g, 0, none⟩) fn cap)) w') : wpList Tryd.prog ops Q (o :: rest) a w :=
  wpList_plain hgd fun _ hK => wp_copy s x ho B H hs hown fo fn fc F hx hF hfn hl hB fun g cap w' h2 h3 h4 h5 => hK _ _ (h g cap w' h2 h3 h4 h5)
/-- All stays but one block. -/
structure But1 (p B : Nat) (w w' : World) : Prop where
  os : w'.os = w.os
  tape : w'.tape = w.tape
  output : w'.output = w.output
  size : w.heap.size ≤ w'.heap.size
  block : ∀ k, k < B → k ≠ p → w'.heap[k]? = w.heap[k]?
/-- Three cells are set. -/
def st3 (W : World) (p : Nat) (v0 v1 v2 : Value) : World := ((W.setCell ⟨p, 0, none⟩ v0).setCell ⟨p, 1, none⟩ v1).setCell ⟨p, 2, none⟩ v2
theorem st3_at {W : World} {p : Nat} {x0 x1 x2 v0 v1 v2 : Value} {t : TypeId} (h : W.heap[p]? = some (.cells #[x0, x1, x2] t)) : (st3 W p v0 v1 v2).heap[p]? = some (.cells #[v0, v1, v2] t) := by
  have e1 := heap_setCell_same W p 0 _ t v0 h
  have e2 := heap_setCell_same _ p 1 _ t v1 e1
  exact heap_setCell_same _ p 2 _ t v2 e2
theorem st3_other {W : World} {p : Nat} {v0 v1 v2 : Value} {b : Nat} (hb : b ≠ p) : (st3 W p v0 v1 v2).heap[b]? = W.heap[b]? := by
  unfold st3
  rw [heap_setCell_other _ ⟨p, 2, none⟩ b _ (fun e => hb e), heap_setCell_other _ ⟨p, 1, none⟩ b _ (fun e => hb e), heap_setCell_other _ ⟨p, 0, none⟩ b _ (fun e => hb e)]
theorem st3_size {W : World} {p : Nat} {v0 v1 v2 : Value} : (st3 W p v0 v1 v2).heap.size = W.heap.size := by unfold st3; simp
theorem st3_below {W U : World} {p B : Nat} {v0 v1 v2 : Value} (h : Below B U W) (hp : B ≤ p) : Below B U (st3 W p v0 v1 v2) := h.trans ⟨rfl, rfl, rfl, by rw [st3_size]; exact Nat.le_refl _, fun b hb => st3_other (by omega)⟩
/-- The new automaton, before its rows are copied. -/
structure Own1 (B : Nat) (U : World) (c : Int) (m : Nat) (T : List Int) (W : World) (p g gc : Nat) : Prop where
  at_ : W.heap[p]? = some (.cells #[.int .i64 c, .slice none 0 0, .slice (some ⟨g, 0, none⟩) m gc] 32)
  below : Below B U W
  lo : B ≤ p
  rd : RdIx W (fun b => b = p ∨ b < B) (some ⟨g, 0, none⟩) T
theorem own1_of {B B' : Nat} {U W : World} {c : Int} {m p g gc : Nat} {T : List Int} {x0 x1 x2 : Value} (hp : W.heap[p]? = some (.cells #[x0, x1, x2] 32)) (hb : Below B U W) (lo : B ≤ p) (ho : W.ownsRow B' 3 1 (.slice (some ⟨g, 0, none⟩) m gc) m (i64s T)) (hg : g ≠ p) (hB : B ≤ B') :
    Own1 B U c m T (st3 W p (.int .i64 c) (.slice none 0 0) (.slice (some ⟨g, 0, none⟩) m gc)) p g gc := by
  refine ⟨st3_at hp, st3_below hb lo, lo, fun k z hz => ?_⟩
  obtain ⟨g', e, hgB, hg', hc⟩ := own_at ho hz
  cases e
  refine ⟨_, rfl, by rw [st3_size]; exact hg', fun h => h.elim hg (fun h => by have h' : g < B := h; omega), ?_⟩
  rw [Addr.add_lit, Nat.zero_add, World.cell?_of_block (w := W) (a := ⟨g, k, none⟩) (st3_other hg)]
  exact hc
end Go.Proofs.YtkmcbhdjecpmjaaDoor
