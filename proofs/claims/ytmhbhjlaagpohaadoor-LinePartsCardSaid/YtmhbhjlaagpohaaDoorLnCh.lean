/- The contract of Chances (package line): the chances of a text, in a slice of its own. -/
import Derived.Test.YtmhbhjlaagpohaaDoorLnEach
namespace Go.Proofs.YtmhbhjlaagpohaaDoor
open Go.RowKit Go.Shelf
attribute [local go_sem] Oper.semAt_some

theorem Tryd.info42 : (Tryd.prog.info? 42).map (fun i => (i.zero, i.size, i.bytes)) = some (some (.agg #[.int .i64 0, .bool false]), 2, 16) := by kernel_rfl
/-- Chances, cell by cell. -/
def chc (xs : List (Int × Bool)) : List Value := xs.flatMap fun x => [.int .i64 x.1, .bool x.2]
theorem chc_snoc (xs : List (Int × Bool)) (x : Int × Bool) : chc (xs ++ [x]) = chc xs ++ [.int .i64 x.1, .bool x.2] := by simp [chc]
theorem chc_app (xs ys : List (Int × Bool)) : chc (xs ++ ys) = chc xs ++ chc ys := by simp [chc]
theorem chc_len (xs : List (Int × Bool)) : (chc xs).length = xs.length * 2 := by
  induction xs with
  | nil => rfl
  | cons x xs ih =>
    have : chc (x :: xs) = [.int .i64 x.1, .bool x.2] ++ chc xs := by simp [chc]
    rw [this, List.length_append, ih]; simp; omega
theorem chc_one (xs : List (Int × Bool)) : ∀ u ∈ chc xs, u.oneCell' = true := fun u hu => by
  unfold chc at hu
  obtain ⟨x, _, hx⟩ := List.mem_flatMap.1 hu
  simp only [List.mem_cons, List.mem_nil_iff, or_false] at hx
  rcases hx with rfl | rfl <;> rfl
theorem cell_two_new (W : World) (v0 v1 : Value) (T : TypeId) : ∀ j u, [v0, v1][j]? = some u → (W.alloc (.cells #[v0, v1] T)).cell? ((⟨W.heap.size, 0, none⟩ : Addr).add j) = some u := fun j u hj => by
  rw [Addr.add_lit, Nat.zero_add, cell_of_row _ _ _ _ T (0, 0) (heap_alloc_new W _)]
  simpa using hj
theorem eaAt_from (B Bs : Nat) (l : List UInt8) (hB : 2 ≤ B) : OwnFrom B (fun (_ : List (Int × Bool)) W => EaAt Bs l W) := fun _ A C row h hg hr => by
  refine h.keeps hg.size fun k hk => hg.block k (h.lt k hk) fun e => ?_
  obtain ⟨hle, o, ho, hc⟩ := hr k e.symm
  rcases hk with rfl | hk
  · have := h.bs; unfold Boxed at this; rw [this] at ho; cases ho; cases hc
  · omega
set_option maxHeartbeats 4000000 in
theorem chances_in (l : List UInt8) (w : World) (ht : Tb w) (hl : l.length ≤ 100000000) :
    CallsIn Fence.wide 3 Tryd.prog 21 #[.string ⟨l.toArray⟩] w fun e W' => ∃ v, e = .returned v ∧ W'.ownsRow w.heap.size 42 2 v (chs l 0).length (chc (chs l 0)) ∧ Below w.heap.size w W' := by
  obtain ⟨i0, hi, hz0, hz1, hz2⟩ := info_parts Tryd.info42
  have HT := hid ht
  clear ht
  refine callsIn_of_wp_marks Tryd.func21 rfl trivial ?_ rfl
  simp only [Tryd.ntmps21, List.size_toArray, List.length_cons, List.length_nil, Nat.reduceAdd, Nat.reduceSub, Array.replicate_succ, Array.replicate_zero, List.push_toArray, List.append_toArray, List.nil_append, List.cons_append]
  gi_wp2_with (refine ⟨trivial, ?_⟩; gi_at_call 52; refine (callsIn_wide.2 (leach_any l _)).mono ?_; rintro e w' ⟨rfl, rfl⟩)
  have bL := Boxed.new w 39 (.slice none 0 0)
  have bS := Boxed.new (w.alloc (.cells #[.slice none 0 0] 39)) 9 (.string ⟨l.toArray⟩)
  rw [World.size_alloc] at bS
  have hB0 : Below w.heap.size w ((w.alloc (.cells #[.slice none 0 0] 39)).alloc (.cells #[.string ⟨l.toArray⟩] 9)) := ((Below.refl _ _).alloc (Nat.le_refl _) _).alloc (by simp) _
  have hEa : EaAt (w.heap.size + 1) l ((w.alloc (.cells #[.slice none 0 0] 39)).alloc (.cells #[.string ⟨l.toArray⟩] 9)) := ⟨bS, HT.out.below hB0⟩
  have hpl := chs_len l _ 0 (Nat.le_refl _)
  have h2 := HT.out.two
  refine wpIn_rangeFunc_ownG rfl (by omega) (gf := 79) (lb := #[.pointer (some ⟨w.heap.size + 1, 0, none⟩)]) rfl trivial (enters_of Tryd.func79 (by kernel_rfl) rfl)
    (leach_stops (3 - 1) (by omega) (w.heap.size + 1) l _ hEa (by omega)) Kr_t (Kr_b hEa.lt) (Below.refl _ _) (fun _ => rfl)
    (fun pre W => ((∃ v, Boxed W w.heap.size 39 v ∧ W.ownsRow w.heap.size 42 2 v pre.length (chc pre) ∧ True) ∧ Below w.heap.size w W) ∧ EaAt (w.heap.size + 1) l W)
    (fun _ _ _ => False)
    (OwnFrom.and (OwnFrom.and (Own.from (holdsRow_own w.heap.size w.heap.size 39 42 2 (fun pre => pre.length) (fun pre => chc pre) (fun _ _ => True)) _) (ownFrom_below (Nat.le_refl _) (by simp; omega))) (eaAt_from _ _ l (by simp)))
    (fun _ _ _ _ _ hs _ _ => hs)
    ⟨⟨⟨_, bL.alloc _, World.ownsRow_nil _ _ _ _, trivial⟩, hB0⟩, hEa⟩
    (fun x => { tmps := #[.string ⟨l.toArray⟩, undef, .slice none 0 0, .pointer (some ⟨w.heap.size, 0, none⟩), .int .i64 x.1, .bool x.2, .string ⟨l.toArray⟩, .func (.func 79) #[] #[.pointer (some ⟨w.heap.size + 1, 0, none⟩)], .int .i64 x.1, .bool x.2, undef, undef, undef, undef, undef, undef, undef], defers := [] }) ?assign ?body ?done ?stop
  case assign =>
    intro lp x W K hK
    dsimp only [encC]
    gi_wp2
    exact hK
  case body =>
    rintro lp pre x W ⟨⟨⟨v, hv, hrow, _⟩, hB⟩, hE⟩ hlt
    have hc := hv.cell
    have hBs := hB.size
    gi_wp2_with (gi_at_builtin; (refine wpListIn_append_own _ rfl _ _ 39 rfl w.heap.size 42 i0 (.agg #[.int .i64 0, .bool false]) 2 16 Tryd.underlying39 hi hz0 hz1 hz2 rfl (by decide) _ _ _ rfl (hrow.alloc _) ⟨W.heap.size, 0, none⟩ 1 1 [.int .i64 x.1, .bool x.2] rfl rfl (cell_two_new _ _ _ _) (by simp [Value.oneCell']) (by unfold maxLen; omega) (by omega) (by simp; omega) ?_); intro v' w3 hown' hgrow _; obtain ⟨g', cap', rfl⟩ := ownsRow_succ hown'; obtain ⟨hv1, hv2, hr2, hk2, hb2⟩ := hv.appended (by decide) hrow hB.size (by omega) hown' hgrow; have hc1 := hv1.cell; have hf1 := hv1.frozen)
    have hS1 : Boxed w3 (w.heap.size + 1) 9 (.string ⟨l.toArray⟩) := (hE.bs.alloc _).kept hgrow (hE.bs.not_row (by decide) hrow)
    have hKK : ∀ k, KE (w.heap.size + 1) k → (w3.setCell ⟨w.heap.size, 0, none⟩ (.slice (some ⟨g', 0, none⟩) (pre.length + 1) cap')).heap[k]? = W.heap[k]? := by
      rintro k (rfl | hk)
      · exact ((grownBy_setCell' w3 w.heap.size _).block _ hS1.lt (by simp)).trans (Eq.trans hS1 hE.bs.symm)
      · exact hb2.block k (by omega)
    exact ⟨hk2.from _, ⟨⟨hk2.size, fun k o h hw => hk2.same k o h (Obj.not_cells_of_walk hw)⟩, hKK⟩, ⟨⟨_, hv2, by rw [chc_snoc, List.length_append]; exact hr2, trivial⟩, hB.trans hb2⟩, hE.keeps hb2.size hKK⟩
  case done =>
    rintro D ys W hD rfl ⟨⟨⟨v, hv, hrow, _⟩, hB⟩, _⟩ hK
    have hc := hv.cell
    gi_wp2
    refine ⟨by simp, .inl ⟨_, _, rfl, run_takeDeferred hK, ?_⟩⟩
    exact ⟨_, results_tmp rfl _ _ _, v, rfl, ownsRow_putObj hrow _ hK rfl, hB.trans (belowK_b (w := w) (Nat.le_refl _) W D _ _ (by simp at hD; omega) hK rfl rfl)⟩
  case stop =>
    rintro D c pre W _ _ h _
    exact h.elim
theorem chances_any (l : List UInt8) (w : World) (ht : Tb w) (hl : l.length ≤ 100000000) :
    Calls Tryd.prog 21 #[.string ⟨l.toArray⟩] w fun e W' => ∃ v, e = .returned v ∧ W'.ownsRow w.heap.size 42 2 v (chs l 0).length (chc (chs l 0)) ∧ Below w.heap.size w W' :=
  callsIn_wide.1 (chances_in l w ht hl)
end Go.Proofs.YtmhbhjlaagpohaaDoor
