/- The contract of Clean (package utf): the text of the runes of a text. -/
import Derived.Test.YtflehkdijfhmgaaDoorWr
import Derived.Test.YtflehkdijfhmgaaDoorValid
import Derived.Test.YtflehkdijfhmgaaDoorFaults
import Derived.Shelf.Strings.BuilderK
namespace Go.Proofs.YtflehkdijfhmgaaDoor
open Go.RowKit Go.Shelf
attribute [local go_sem] Oper.semAt_some

theorem valid_eqb (l : List UInt8) (b : Bool) (hb : decide (flt l = []) = b) (w : World) (hl : l.length ≤ 1000000000000) (hT : Lib.Utf8Tabs 0 1 w) :
    Calls Tryd.prog 20 #[.string ⟨l.toArray⟩] w fun e w' => e = .returned (.bool b) ∧ Below w.heap.size w w' := by
  subst hb; exact valid_any l w hl hT

set_option maxHeartbeats 400000 in
theorem clean_valid (l : List UInt8) (w : World) (hl : l.length ≤ 1000000000000) (hT : Lib.Utf8Tabs 0 1 w) (hf : flt l = []) :
    Calls Tryd.prog 24 #[.string ⟨l.toArray⟩] w fun e w' => e = .returned (.string ⟨(cln l).toArray⟩) ∧ Below w.heap.size w w' := by
  rw [cln_valid l hf]
  have HT := hid hT
  have HF := hid (show decide (flt l = []) = true from decide_eq_true hf)
  clear hT hf
  go_enter Tryd.func24, Tryd.ntmps24
  go_wp2_with (go_at_call 20; refine (valid_eqb l true HF.out _ hl (by exact HT.out)).mono ?_; rintro e w1 ⟨rfl, hb⟩)
  go_ret
  exact ⟨rfl, hb⟩

theorem string_any (B b : Nat) (l : List UInt8) (w : World) (h : Lib.BuilderAt 61 5 B b (.pointer (some ⟨b, 0, none⟩)) (u8s l) w) (hBw : B ≤ w.heap.size) :
    Calls Tryd.prog 52 #[.pointer (some ⟨b, 0, none⟩)] w fun e w' => e = .returned (.string ⟨l.toArray⟩) ∧ Below B w w' ∧ Lib.OthersKept 5 (some b) w w' :=
  (Any.Builder_String_any_k Tryd.lays169 Tryd.Builder_Extra_169 B b l w (Lib.IsBuilderF.of (.inr h)) hBw).mono fun _ _ h => ⟨h.1, h.2.2.1, h.2.2.2⟩
theorem grow_eq (b : Nat) (z : Int) (n : Nat) (hz : z = n) (w : World) (hbk : w.heap[b]? = some (.cells #[.pointer none, .slice none 0 0] 61 (0, 0))) (hBw : b ≤ w.heap.size) (hn : n ≤ 281474976710656) :
    Calls Tryd.prog 50 #[.pointer (some ⟨b, 0, none⟩), .int .i64 z] w fun e w' => e = .returned (.tuple #[]) ∧ (Lib.BuilderAt 61 5 b b (.pointer (some ⟨b, 0, none⟩)) [] w' ∧ Below b w w') := by
  subst hz; exact Tryd.Builder_Grow_fresh b b n w (Nat.le_refl _) hbk hBw hn

theorem builder_own {β : Type} (B b : Nat) (f : β → List Value) : Own (fun s W => Lib.BuilderAt 61 5 B b (.pointer (some ⟨b, 0, none⟩)) (f s) W) := by
  rintro s X Y row ⟨h1, v, hv, hr, hne⟩ hg hrow
  have kept : ∀ (k : Nat) c t fz, X.heap[k]? = some (Obj.cells c t fz) → Y.heap[k]? = some (Obj.cells c t fz) := fun k c t fz hk =>
    (hg.block k (Array.getElem?_eq_some_iff.1 hk).1 (fun e => by
      obtain ⟨o, ho, hc⟩ := hrow k e.symm
      rw [hk] at ho; cases ho; cases hc)).trans hk
  refine ⟨h1, v, kept _ _ _ _ hv, ⟨hr.1, ?_⟩, hne⟩
  rcases hr.2 with h0 | ⟨g, cap, cur, hv', hbg, hgg, hrr⟩
  · exact .inl h0
  · exact .inr ⟨g, cap, cur, hv', hbg, kept _ _ _ _ hgg, hrr⟩

/-- The text of the runes at so many places. -/
def tx (l : List UInt8) (xs : List (Fin l.length)) : List UInt8 := txt (xs.map fun x => ((dec (l.drop x.val)).1 : Int))
theorem tx_snoc (l : List UInt8) (xs : List (Fin l.length)) (x : Fin l.length) : tx l (xs ++ [x]) = tx l xs ++ enc ((dec (l.drop x.val)).1 : Int) := by
  unfold tx txt; simp
theorem plF_rns (l : List UInt8) : ∀ (n t : Nat), l.length - t ≤ n → (plF l t).map (fun x => ((dec (l.drop x.val)).1 : Int)) = (mks t (l.drop t)).map (·.ru)
  | 0, t, h => by rw [mks_end l t (by omega), plF_end l t (by omega)]; rfl
  | n + 1, t, h => by
    by_cases ht : t < l.length
    · have h1 := wid_ge l t ht
      have ih := plF_rns l n (t + wid l t) (by omega)
      rw [mks_at l t ht, plF_step l t ht, List.map_cons, List.map_cons]
      unfold wid at ih ⊢
      rw [ih]; rfl
    · rw [mks_end l t ht, plF_end l t ht]; rfl
theorem tx_all (l : List UInt8) : tx l (plF l 0) = cln l := by
  unfold tx cln rns
  rw [plF_rns l l.length 0 (by omega)]; simp
theorem tx_len (l : List UInt8) (xs : List (Fin l.length)) : (tx l xs).length ≤ 4 * xs.length := by
  unfold tx txt
  induction xs with
  | nil => simp
  | cons x xs ih =>
    have := enc_len ((dec (l.drop x.val)).1 : Int)
    simp only [List.map_cons, List.flatMap_cons, List.length_append, List.length_cons]
    omega

set_option maxHeartbeats 1000000 in
theorem clean_in (l : List UInt8) (w : World) (hl : l.length ≤ 1000000000) (hT : Lib.Utf8Tabs 0 1 w) (hf : ¬ flt l = []) :
    CallsIn Fence.wide 3 Tryd.prog 24 #[.string ⟨l.toArray⟩] w fun e w' => e = .returned (.string ⟨(cln l).toArray⟩) ∧ Below w.heap.size w w' := by
  have HT := hid hT
  have HF := hid (show decide (flt l = []) = false from decide_eq_false hf)
  clear hT hf
  refine callsIn_of_wp_marks Tryd.func24 rfl trivial ?_ rfl
  simp only [Tryd.ntmps24, List.size_toArray, List.length_cons, List.length_nil, Nat.reduceAdd, Nat.reduceSub, Array.replicate_succ, Array.replicate_zero, List.push_toArray, List.append_toArray, List.nil_append, List.cons_append]
  gi_wp2_with (first | (refine ⟨trivial, ?_⟩; gi_at_call 20; refine (callsIn_wide.2 (valid_eqb l false HF.out _ (by omega) (by exact HT.out))).mono ?_; rintro e w1 ⟨rfl, hb1⟩))
  have hbk := World.alloc_heap_new w1 (.cells #[.pointer none, .slice none 0 0] 61)
  have hb1s := hb1.size
  refine ⟨trivial, (callsIn_wide.2 (grow_eq w1.heap.size _ (l.length + 3) (by omega) _ hbk (by simp) (by omega))).mono ?_⟩
  rintro e w2 ⟨rfl, hbd, hb2⟩
  have hB2 : Below w.heap.size w w2 := (hb1.alloc hb1s _).trans (hb2.mono hb1s)
  have hb12 : w1.heap.size + 1 ≤ w2.heap.size := by have := hb2.size; simpa using this
  gi_wp2_with (first | (refine ⟨trivial, ?_⟩; gi_at_call 26; refine (callsIn_wide.2 (each_any l _)).mono ?_; rintro e w' ⟨rfl, rfl⟩))
  have bS := Boxed.new w2 9 (.string ⟨l.toArray⟩)
  have hB3 : Below w.heap.size w (w2.alloc (.cells #[.string ⟨l.toArray⟩] 9)) := hB2.alloc hB2.size _
  have hpl := plF_len l
  refine wpIn_rangeFunc_ownG rfl (by omega) (gf := 53) (lb := #[.pointer (some ⟨w2.heap.size, 0, none⟩)]) rfl trivial (enters_of Tryd.func53 (by kernel_rfl) rfl)
    (seqStopsA_iff.1 (each_stopsF Fence.wide (3 - 1) trivial rfl (by omega) w2.heap.size l _ (by simp) bS.cell)) walksK_t walksK_b (Below.refl _ _) (fun _ => rfl)
    (fun pre W => Lib.BuilderAt 61 5 w1.heap.size w1.heap.size (.pointer (some ⟨w1.heap.size, 0, none⟩)) (u8s (tx l pre)) W ∧ Below w.heap.size w W)
    (fun _ _ _ => False)
    (OwnFrom.and (Own.from (builder_own w1.heap.size w1.heap.size (fun pre => u8s (tx l pre))) _) (ownFrom_below (Nat.le_refl _) (by simp; omega)))
    (fun _ _ _ _ _ hs _ _ => hs)
    ⟨builder_own w1.heap.size w1.heap.size (fun _ : Unit => []) () _ _ none hbd (World.grownBy_alloc _ _ _) (fun r e => by cases e), hB3⟩
    (fun x => { tmps := #[.string ⟨l.toArray⟩, undef, .string ⟨#[]⟩, .pointer (some ⟨w1.heap.size, 0, none⟩), undef, .int .i32 ((dec (l.drop x.val)).1 : Int), .string ⟨l.toArray⟩, .bool false, undef, .string ⟨l.toArray⟩, .int .i64 l.length, .int .i64 ((l.length : Int) + 3), .tuple #[], .string ⟨l.toArray⟩, .func (.func 53) #[] #[.pointer (some ⟨w2.heap.size, 0, none⟩)], .int .i64 (x.val : Int), .int .i32 ((dec (l.drop x.val)).1 : Int), undef, undef, undef], defers := [] }) ?assign ?body ?done ?stop
  case assign =>
    intro lp x W K hK
    dsimp only [encsF]
    gi_wp2
    exact hK
  case body =>
    rintro lp pre x W ⟨hbA, hB⟩ hlt
    have hru := dec_rune (l.drop x.val) (drop_ne l x.val x.isLt)
    have htl := tx_len l pre
    have hsz := hB.size
    have hbw : w1.heap.size ≤ W.heap.size := Nat.le_of_lt (Lib.BuilderAt.lt hbA)
    have HA := hid hbA
    have HS := hid (tx_snoc l pre x)
    clear hbA
    gi_wp2_with (refine ⟨trivial, ?_⟩; gi_at_call 51; refine (callsIn_wide.2 (write_any w1.heap.size w1.heap.size (tx l pre) ((dec (l.drop x.val)).1 : Int) (by omega) (by omega) _ HA.out (by omega) hbw)).mono ?_; rintro e W2 ⟨⟨v, rfl⟩, hA2, hb2', hk2⟩)
    exact ⟨hk2.from _, ⟨hk2.size, fun k o h hw => hk2.same k o h (Obj.not_cells_of_walk hw)⟩, by rw [HS.out]; exact hA2, hB.trans (hb2'.mono hb1s)⟩
  case done =>
    rintro D ys W hD rfl ⟨hbA, hB⟩ hK
    rw [tx_all] at hbA
    have hbw : w1.heap.size ≤ W.heap.size := Nat.le_of_lt (Lib.BuilderAt.lt hbA)
    gi_wp2_with (refine ⟨trivial, ?_⟩; gi_at_call 52; refine (callsIn_wide.2 (string_any w1.heap.size w1.heap.size (cln l) _ hbA hbw)).mono ?_; rintro e W2 ⟨rfl, hb4, hok⟩)
    have hK2 : W2.heap[D]? = some (.deferred (some [])) := hok D _ hK (by simp at hD; intro e; cases e; omega) (by intro c fz; simp)
    refine ⟨by simp, .inl ⟨_, _, rfl, run_takeDeferred hK2, ?_⟩⟩
    exact ⟨_, results_tmp rfl _ _ _, rfl, (hB.trans (hb4.mono hb1s)).trans (belowK_b (w := w) (Nat.le_refl _) W2 D _ _ (by simp at hD; omega) hK2 rfl rfl)⟩
  case stop =>
    rintro D c pre W _ _ h _
    exact h.elim

theorem clean_any (l : List UInt8) (w : World) (hl : l.length ≤ 1000000000) (hT : Lib.Utf8Tabs 0 1 w) :
    Calls Tryd.prog 24 #[.string ⟨l.toArray⟩] w fun e w' => e = .returned (.string ⟨(cln l).toArray⟩) ∧ Below w.heap.size w w' := by
  by_cases hf : flt l = []
  · exact clean_valid l w (by omega) hT hf
  · exact callsIn_wide.1 (clean_in l w hl hT hf)
end Go.Proofs.YtflehkdijfhmgaaDoor
