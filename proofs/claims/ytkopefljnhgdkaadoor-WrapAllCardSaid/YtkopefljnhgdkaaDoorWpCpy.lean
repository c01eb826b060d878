/- Lists of numbers that are copied into rows of their own. -/
import Derived.Test.YtkopefljnhgdkaaDoorWpOwn
import Derived.Test.YtkopefljnhgdkaaDoorMix3
import Derived.Laws.Rows
import Derived.Deep.AppendSrc
namespace Go.Proofs.YtkopefljnhgdkaaDoor
open Go.RowKit

/-- append of a list onto an empty row. -/
theorem run_copy {B H : Nat} {w : World} (hown : w.ownsRow B 3 1 (.slice (some ⟨H, 0, none⟩) 0 0) 0 []) (ty : TypeId) {fo : Option Addr} {fn fc : Nat} {F : List Int} (hF : RdI w fo F) (hfn : fn = F.length) (hl : fn ≤ 1000000) (hB : B ≤ w.heap.size) :
    ∃ g cap w', (Builtin.append_ #[25, 25] ty #[.slice (some ⟨H, 0, none⟩) 0 0, .slice fo fn fc]).run Tryd.prog w = .ok (.slice (some ⟨g, 0, none⟩) fn cap) w' ∧ w'.ownsRow B 3 1 (.slice (some ⟨g, 0, none⟩) fn cap) fn (i64s F) ∧ w.grownBy w' (some H) ∧ (g = H ∨ g = w.heap.size) ∧ g < w'.heap.size := by
  obtain ⟨i, hi, hz, hsize, hby⟩ := info_parts Tryd.info3
  by_cases h0 : fn = 0
  · subst h0
    have hF0 : F = [] := List.eq_nil_of_length_eq_zero hfn.symm
    subst hF0
    have hs : Src Tryd.prog i.size 25 (.slice fo 0 fc) 0 [] w := by
      cases fo with
      | none => exact Src.ofNil w Tryd.underlying25 fc
      | some a => exact Src.ofSlice w Tryd.underlying25 a 0 fc [] (by simp) (fun j u hj => by simp at hj) (fun u hu => by simp at hu)
    have hr : (Builtin.append_ #[25, 25] ty #[.slice (some ⟨H, 0, none⟩) 0 0, .slice fo 0 fc]).run Tryd.prog w = .ok (.slice (some ⟨H, 0, none⟩) 0 0) w := by
      simp [Builtin.append_, run_underlying Tryd.underlying25, sizeOf, typeInfo, hi, hs.len, hs.cells, storeCells]
    exact ⟨H, 0, w, hr, hown, ⟨rfl, rfl, rfl, Nat.le_refl _, fun _ _ _ => rfl⟩, .inl rfl, (hown.lt H rfl).2⟩
  · obtain ⟨a, rfl, _, _⟩ := hF 0 F[0] (List.getElem?_eq_getElem (by omega))
    obtain ⟨g, cap, w', hr, h2, h3, h4, h5⟩ := run_append_lies (P := Tryd.prog) w 25 ty B 3 i (.int .i64 0) 1 8 Tryd.underlying25 hi hz hsize hby rfl (by decide) (.slice (some ⟨H, 0, none⟩) 0 0) 0 [] hown a fn fc (i64s F) (by rw [i64s_len, hfn, Nat.mul_one]) (fun j u hj => by
      rw [i64s_at] at hj
      obtain ⟨z, hz1, hz2⟩ := Option.map_eq_some_iff.1 hj
      obtain ⟨a', e, _, h⟩ := hF j z hz1
      cases e
      rw [h, hz2]) (i64s_one F) (by omega) (by unfold maxLen; omega) (by omega) hB w.heap.size rfl
    refine ⟨g, cap, w', by simpa using hr, by simpa using h2, h3, ?_, h5⟩
    rcases h4 with h | h
    · exact .inl (Option.some.inj h).symm
    · exact .inr h
theorem wp_copy {w : World} {o : Oper} {a : Act} {K : Act → World → Prop} {Q : Exit → Act → World → Prop} (s x : Operand) (ho : o.op = .call { callee := .builtin .append, args := #[s, x], argTypes := #[25, 25] }) (B H : Nat) (hs : a.eval s = .slice (some ⟨H, 0, none⟩) 0 0) (hown : w.ownsRow B 3 1 (.slice (some ⟨H, 0, none⟩) 0 0) 0 []) (fo : Option Addr) (fn fc : Nat) (F : List Int) (hx : a.eval x = .slice fo fn fc) (hF : RdI w fo F) (hfn : fn = F.length) (hl : fn ≤ 1000000) (hB : B ≤ w.heap.size)
    (h : ∀ g cap w', w'.ownsRow B 3 1 (.slice (some ⟨g, 0, none⟩) fn cap) fn (i64s F) → w.grownBy w' (some H) → (g = H ∨ g = w.heap.size) → g < w'.heap.size → K (a.put o.dst (.slice (some ⟨g, 0, none⟩) fn cap)) w') : o.wp Tryd.prog a w K Q := by
  obtain ⟨g, cap, w', hr, h2, h3, h4, h5⟩ := run_copy hown o.type (fc := fc) hF hfn hl hB
  unfold Oper.wp execOp
  simp only [ho, resolve, invoke, builtin, Sem.run_bind, Sem.run_pure, Result.andThen_ok, List.map_toArray, List.map_cons, List.map_nil, hs, hx, hr]
  exact h g cap w' h2 h3 h4 h5
theorem wpList_copy {w : World} {ops : Array Oper} {rest : List Oper} {o : Oper} {a : Act} {Q : Exit → Act → World → Prop} (hgd : o.guard = none) (s x : Operand) (ho : o.op = .call { callee := .builtin .append, args := #[s, x], argTypes := #[25, 25] }) (B H : Nat) (hs : a.eval s = .slice (some ⟨H, 0, none⟩) 0 0) (hown : w.ownsRow B 3 1 (.slice (some ⟨H, 0, none⟩) 0 0) 0 []) (fo : Option Addr) (fn fc : Nat) (F : List Int) (hx : a.eval x = .slice fo fn fc) (hF : RdI w fo F) (hfn : fn = F.length) (hl : fn ≤ 1000000) (hB : B ≤ w.heap.size)
    (h : ∀ g cap w', w'.ownsRow B 3 1 (.slice (some ⟨g, 0, none⟩) fn cap) fn (i64s F) → w.grownBy w' (some H) → (g = H ∨ g = w.heap.size) → g < w'.heap.size → wpList Tryd.prog ops Q rest (a.put o.dst (.slice (some ⟨g, 0, none⟩) fn cap)) w') : wpList Tryd.prog ops Q (o :: rest) a w :=
  wpList_plain hgd fun _ hK => wp_copy s x ho B H hs hown fo fn fc F hx hF hfn hl hB fun g cap w' h2 h3 h4 h5 => hK _ _ (h g cap w' h2 h3 h4 h5)
end Go.Proofs.YtkopefljnhgdkaaDoor
