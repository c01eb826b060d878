/- The calls of package props at a nil Db, and the walk of PropsNil. -/
import Derived.RegionIn
import Derived.Laws.EntriesVeiled
import Derived.Test.YtohhokjlgihbgabGreatDoorCLive4
namespace Go.Proofs.YtohhokjlgihbgabGreatDoor
open Go.RowKit Go.Shelf
attribute [local go_sem] Oper.semAt_some

theorem eq_nilf4 (lb : Array Value) (w : World) : (binOp .eql 29 (.func (.func 18) #[] lb) .nilFunc).run Tryz.prog w = .ok (.bool false) w := by kernel_rfl
attribute [local go_sem] eq_nilf4
set_option maxRecDepth 100000 in
theorem class_nil (s : ByteArray) (w : World) : Calls Tryz.prog 4 #[.pointer none, .string s] w fun e w' => e = .returned (.tuple #[.int .i64 0, .bool false]) ∧ Below w.heap.size w w' := by
  go_enter Tryz.func4, Tryz.ntmps4
  go_wp2
  go_ret2
  exact ⟨rfl, Below.refl _ _⟩
set_option maxRecDepth 100000 in
theorem cross_nil (w : World) : Calls Tryz.prog 5 #[.pointer none, .pointer none] w fun e w' => e = .returned (.tuple #[.pointer none, .int .i64 0]) ∧ Below w.heap.size w w' := by
  go_enter Tryz.func5, Tryz.ntmps5
  go_wp2
  go_ret2
  exact ⟨rfl, Below.refl _ _⟩
set_option maxRecDepth 100000 in
theorem get_nil (r : Int) (w : World) : Calls Tryz.prog 8 #[.pointer none, .int .i32 r] w fun e w' => e = .returned (.int .i64 0) ∧ Below w.heap.size w w' := by
  go_enter Tryz.func8, Tryz.ntmps8
  go_wp2
  go_ret
  exact ⟨rfl, Below.refl _ _⟩
set_option maxRecDepth 100000 in
theorem names_nil (w : World) : Calls Tryz.prog 9 #[.pointer none] w fun e w' => e = .returned (.slice none 0 0) ∧ Below w.heap.size w w' := by
  go_enter Tryz.func9, Tryz.ntmps9
  go_wp2
  go_ret
  exact ⟨rfl, Below.refl _ _⟩
set_option maxRecDepth 100000 in
theorem set_nil (c : Int) (w : World) : Calls Tryz.prog 10 #[.pointer none, .int .i64 c] w fun e w' => e = .returned (.slice none 0 0) ∧ Below w.heap.size w w' := by
  go_enter Tryz.func10, Tryz.ntmps10
  go_wp2
  go_ret
  exact ⟨rfl, Below.refl _ _⟩
set_option maxRecDepth 100000 in
theorem ranged_nil (w : World) : Calls Tryz.prog 11 #[.pointer none] w fun e w' => e = .returned (.slice none 0 0) ∧ Below w.heap.size w w' := by
  go_enter Tryz.func11, Tryz.ntmps11
  go_wp2
  go_ret
  exact ⟨rfl, Below.refl _ _⟩
set_option maxRecDepth 100000 in
theorem of_nil (s : ByteArray) (w : World) : Calls Tryz.prog 12 #[.pointer none, .string s] w fun e w' => e = .returned (.slice none 0 0) ∧ Below w.heap.size w w' := by
  go_enter Tryz.func12, Tryz.ntmps12
  go_wp2
  go_ret
  exact ⟨rfl, Below.refl _ _⟩
set_option maxRecDepth 100000 in
theorem text_nil (w : World) : Calls Tryz.prog 13 #[.pointer none] w fun e w' => e = .returned (.string ⟨#[]⟩) ∧ Below w.heap.size w w' := by
  go_enter Tryz.func13, Tryz.ntmps13
  go_wp2
  go_ret
  exact ⟨rfl, Below.refl _ _⟩
set_option maxRecDepth 100000 in
theorem each_nil (s : ByteArray) (w : World) :
    Calls Tryz.prog 6 #[.pointer none, .string s] w fun e w' => e = .returned (.func (.func 18) #[] #[.pointer (some ⟨w.heap.size, 0, none⟩), .pointer (some ⟨w.heap.size + 1, 0, none⟩)]) ∧ w' = (w.alloc (.cells #[.pointer none] 22)).alloc (.cells #[.string s] 9) := by
  go_enter Tryz.func6, Tryz.ntmps6
  go_wp2
  go_ret
  exact ⟨rfl, rfl⟩
theorem each_stops_nil (n : Nat) (Bd Bl : Nat) (w : World) (hR : Boxed w Bd 22 (.pointer none)) :
    CaughtStops Fence.wide n Tryz.prog 18 #[.pointer (some ⟨Bd, 0, none⟩), .pointer (some ⟨Bl, 0, none⟩)] encE none (fun _ => True) (Kr fun _ => False) [] w := fun lp J Jx W hbW hJ hJx hY h0 => by
  have c1 := (show Boxed W Bd 22 (.pointer none) from (hbW.block Bd hR.lt).trans hR).cell
  have HJ := hid h0
  clear hR hbW hJ hJx hY h0
  refine callsIn_of_wp Tryz.func18 rfl trivial ?_ rfl
  simp only [Tryz.ntmps18, List.size_toArray, List.length_cons, List.length_nil, Nat.reduceAdd, Nat.reduceSub, Array.replicate_succ, Array.replicate_zero, List.push_toArray, List.append_toArray, List.nil_append, List.cons_append]
  gi_wp2
  refine bodyPost_ret (results_none rfl _ _ _) rfl ?_
  exact ⟨⟨_, rfl⟩, .inl HJ.out⟩
def frZ (a : Act) (ps : Array Tmp) (x : Nat × Nat) : Act := { tmps := (ps.zip (encE x)).foldl (fun t (p, v) => t.setIfInBounds p v) a.tmps, defers := [] }
/-- A range over nothing. -/
theorem rfZ {F : Fence} {n : Nat} {P : Program} {g : Operand} {ps : Array Tmp} {assign body : Code} {Q : Exit → Act → World → Prop} {a : Act} {w : World}
    (hro : F.round = none) (h1 : 1 ≤ n) {gf : Nat} {lb : Array Value} (hg : a.eval g = .func (.func gf) #[] lb) (hFg : F.fn gf) (eg : ∀ args w, (callFunc gf args).run P w = .ok (.enter gf args) w)
    (hseq : CaughtStops F (n - 1) P gf lb encE none (fun _ => True) (Kr fun _ => False) [] w) (hps : 2 = ps.size) (I : World → Prop) (hI : OwnFrom w.heap.size (fun (_ : List (Nat × Nat)) W => I W)) (h0 : I w)
    (hassign : ∀ (l : Nat) (x : Nat × Nat) (W : World) (K : Act → World → Prop), K (frZ a ps x) W → assign.wpIn (F.inRound l) (n - 1 - 1) P (Exit.then K (fun _ _ _ => False)) { tmps := (ps.zip (encE x)).foldl (fun t (p, v) => t.setIfInBounds p v) a.tmps, defers := [] } W)
    (hdone : ∀ (D : Nat) (W : World), w.heap.size ≤ D → I W → W.heap[D]? = some (.deferred (some [])) → Q .normal { a with defers := { target := .collected D, args := #[] } :: a.defers } W) :
    (Code.rangeFunc g ps assign body).wpIn F n P Q a w :=
  rf_caught hro h1 hg hFg eg hseq (fun r e => by cases e) (fun _ _ _ _ _ => trivial) Kr_t (fun W lp o o' hl h hc hk => Kr_b (fun k hk => hk.elim) W lp o o' hl h hc hk) (fun _ => hps) (fun _ W => I W) (fun _ _ => False) hI (fun _ _ _ _ h _ _ => h) (fun s A C r e => by cases e) (fun s A C r e => by cases e) h0 (frZ a ps) hassign
    (fun l pre x W _ hp _ _ => by
      obtain ⟨r, hr⟩ := hp
      have h5 := congrArg List.length hr
      simp at h5) hdone (fun _ _ _ _ _ h _ => h.elim)
end Go.Proofs.YtohhokjlgihbgabGreatDoor
/- The walk of PropsNil. -/
namespace Go.Proofs.YtohhokjlgihbgabGreatDoor
open Go.RowKit Go.Shelf
attribute [local go_sem] Oper.semAt_some eq_nilf4

set_option maxRecDepth 100000 in
set_option maxHeartbeats 2000000 in
theorem nil_in (m : Int) (w : World) (h : Tbs m w) : CallsIn Fence.wide 9 Tryz.prog 3 #[] w fun e w' => e = .returned (.bool true) ∧ Below w.heap.size w w' := by
  have HT := hid h
  obtain ⟨N, hN⟩ : ∃ N, N = w.heap.size := ⟨_, rfl⟩
  have HN := hid hN
  have HLV := hid (live_any m)
  refine callsIn_of_wp_marks Tryz.func3 rfl trivial ?_ rfl
  simp only [Tryz.ntmps3, List.size_toArray, List.length_nil, Nat.reduceSub, Array.replicate_succ, Array.replicate_zero, List.push_toArray, List.append_toArray, List.nil_append, List.cons_append]
  rw [← hN]
  clear h hN
  have HV0 := hid (show Boxed (w.alloc (.cells #[.bool false] 4)) N 4 (.bool false) by rw [HN.out]; exact Boxed.new w 4 (.bool false))
  have HVB := hid (show Below N w (w.alloc (.cells #[.bool false] 4)) by rw [HN.out]; exact (Below.refl _ w).alloc (Nat.le_refl _) _)
  have hVs : (w.alloc (.cells #[.bool false] 4)).heap.size = N + 1 := by rw [World.size_alloc, HN.out]
  obtain ⟨V, hV⟩ : ∃ V, V = w.alloc (.cells #[.bool false] 4) := ⟨_, rfl⟩
  rw [← hV] at HV0 HVB hVs
  gi_wp2_with fail
  rw [← hV, ← HN.out]
  refine ⟨trivial, (callsIn_wide.2 (class_nil _ _)).mono ?_⟩
  rintro e w1 ⟨rfl, b1⟩
  have HB1 := hid (show Below (N + 1) V w1 by rw [← hVs]; exact b1)
  clear b1 hV
  gi_wp2_with fail
  refine ⟨trivial, (callsIn_wide.2 (cross_nil _)).mono ?_⟩
  rintro e w2 ⟨rfl, b2⟩
  have hs1 : N + 1 ≤ w1.heap.size := by have h5 := HB1.out.size; omega
  have HB2 := hid (HB1.out.trans (b2.mono hs1))
  have hs2 : N + 1 ≤ w2.heap.size := by have h5 := HB2.out.size; omega
  clear b2 HB1 hs1
  gi_wp2_with fail
  refine ⟨trivial, (callsIn_wide.2 (each_nil _ _)).mono ?_⟩
  rintro e w3 ⟨rfl, hw3⟩
  have HB3 := hid (show Below (N + 1) V w3 by rw [hw3]; exact (HB2.out.alloc hs2 _).alloc (by simp; omega) _)
  have hs3 : N + 1 ≤ w3.heap.size := by have h5 := HB3.out.size; omega
  clear hw3 HB2
  gi_wp2_with fail
  refine ⟨trivial, (callsIn_wide.2 (each_nil _ _)).mono ?_⟩
  rintro e w4 ⟨rfl, hw4⟩
  have HB4 := hid (show Below (N + 1) V w4 by rw [hw4]; exact (HB3.out.alloc hs3 _).alloc (by simp; omega) _)
  have HR4 := hid (show Boxed w4 w3.heap.size 22 (.pointer none) by rw [hw4]; exact (Boxed.new w3 22 (.pointer none)).alloc _)
  have hs4 : w4.heap.size = w3.heap.size + 2 := by rw [hw4]; simp
  obtain ⟨X, hX⟩ : ∃ X, X = w3.heap.size := ⟨_, rfl⟩
  rw [← hX] at HR4 hs4 hs3 ⊢
  clear hw4 HB3 hX
  gi_wp2_with fail
  refine rfZ rfl (by omega) (gf := 18) (lb := #[.pointer (some ⟨X, 0, none⟩), .pointer (some ⟨X + 1, 0, none⟩)]) rfl trivial (enters_of Tryz.func18 (by kernel_rfl) rfl) (each_stops_nil _ X (X + 1) w4 HR4.out) rfl (fun W => Below (N + 1) V W) ?own HB4.out ?assign ?done
  case own =>
    intro _ W W' row hB hg hr
    exact hB.trans (below_grown hg (fun r e => by have h5 := (hr r e).1; omega) (by have h5 := hB.size; omega))
  case assign =>
    intro lp x W K hK
    gi_wp2
    simpa [frZ, encE] using hK
  case done =>
    intro D W hD hBW hDK
    have HBW := hid hBW
    have HDK := hid hDK
    have HTW := hid (show Tbs m W from HT.out.below (by rw [← HN.out]; exact HVB.out.trans (hBW.mono (by omega))))
    have hsW : N + 1 ≤ W.heap.size := by have h5 := hBW.size; omega
    have hDW : D < W.heap.size := lt_of_heap hDK
    clear hBW hDK
    gi_wp2_with fail
    refine ⟨trivial, (callsIn_wide.2 (HLV.out W HTW.out)).mono ?_⟩
    rintro e u0 ⟨rfl, b0⟩
    have HU0 := hid b0
    have hu0 := b0.size
    clear b0 HTW
    gi_wp2_with fail
    refine ⟨trivial, (callsIn_wide.2 (get_nil _ _)).mono ?_⟩
    rintro e u1 ⟨rfl, b1⟩
    have HU1 := hid (HU0.out.trans (b1.mono (by omega)))
    have hu1 := Nat.le_trans hu0 b1.size
    clear b1 HU0 hu0
    gi_wp2_with fail
    refine ⟨trivial, (callsIn_wide.2 (names_nil _)).mono ?_⟩
    rintro e u2 ⟨rfl, b2⟩
    have HU2 := hid (HU1.out.trans (b2.mono (by omega)))
    have hu2 := Nat.le_trans hu1 b2.size
    clear b2 HU1 hu1
    gi_wp2_with fail
    refine ⟨trivial, (callsIn_wide.2 (set_nil _ _)).mono ?_⟩
    rintro e u3 ⟨rfl, b3⟩
    have HU3 := hid (HU2.out.trans (b3.mono (by omega)))
    have hu3 := Nat.le_trans hu2 b3.size
    clear b3 HU2 hu2
    gi_wp2_with fail
    refine ⟨trivial, (callsIn_wide.2 (ranged_nil _)).mono ?_⟩
    rintro e u4 ⟨rfl, b4⟩
    have HU4 := hid (HU3.out.trans (b4.mono (by omega)))
    have hu4 := Nat.le_trans hu3 b4.size
    clear b4 HU3 hu3
    gi_wp2_with fail
    refine ⟨trivial, (callsIn_wide.2 (of_nil _ _)).mono ?_⟩
    rintro e u5 ⟨rfl, b5⟩
    have HU5 := hid (HU4.out.trans (b5.mono (by omega)))
    have hu5 := Nat.le_trans hu4 b5.size
    clear b5 HU4 hu4
    gi_wp2_with fail
    refine ⟨trivial, (callsIn_wide.2 (text_nil _)).mono ?_⟩
    rintro e u6 ⟨rfl, b6⟩
    have HU6 := hid (HU5.out.trans (b6.mono (by omega)))
    have hu6 := Nat.le_trans hu5 b6.size
    clear b6 HU5 hu5
    have HB6 := hid (HBW.out.trans (HU6.out.mono hsW))
    have HD6 := hid (show u6.heap[D]? = some (.deferred (some [])) from (HU6.out.block D hDW).trans HDK.out)
    have HF6 := hid (show Boxed u6 N 4 (.bool false) from (HB6.out.block N (by omega)).trans HV0.out)
    have g0 := HF6.out.cell
    have g1 := HF6.out.frozen
    have HNU := hid num_any
    gi_wp2_with (refine ⟨trivial, ?_⟩; gi_at_call 14; refine (callsIn_wide.2 (HNU.out _ _)).mono ?_; rintro e u7 ⟨rfl, hw⟩; obtain rfl := hw.symm)
    have HS := hid (HF6.out.set (.bool true))
    have HBS := hid (show Below N w (u6.setCell ⟨N, 0, none⟩ (.bool true)) from (HVB.out.trans (HB6.out.mono (by omega))).setCell (p := ⟨N, 0, none⟩) (Nat.le_refl N) _)
    have hq : (u6.setCell ⟨N, 0, none⟩ (.bool true)).heap[D]? = some (.deferred (some [])) := (Below.heap_setCell u6 ⟨N, 0, none⟩ _ D (by show D ≠ N; omega)).trans HD6.out
    refine ⟨by simp, .inl ⟨_, _, rfl, run_takeDeferred hq, ?_⟩⟩
    have y0 := (HS.out.kept (grownBy_putObj' (u6.setCell ⟨N, 0, none⟩ (.bool true)) D (.deferred none)) (fun e => by injection e with e; omega)).cell
    refine ⟨.bool true, by simp [results, Tryz.results3, go_sem, y0], rfl, HBS.out.trans (belowK_b (w := w4) (by omega) _ D _ (.deferred none) hD hq rfl rfl)⟩
theorem nil_walk (m : Int) (w : World) (h : Tbs m w) : Calls Tryz.prog 3 #[] w fun e w' => e = .returned (.bool true) ∧ Below w.heap.size w w' := callsIn_wide.1 (nil_in m w h)
end Go.Proofs.YtohhokjlgihbgabGreatDoor
