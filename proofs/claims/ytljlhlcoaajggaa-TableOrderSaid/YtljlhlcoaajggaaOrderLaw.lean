/- Proved: TableOrder answers true for every list of ranges, every class of the rest and every list of numbers: the order in which ranges are handed in has no part, Build of what Ranges tells makes an equal table, and all Counts make all numbers (lists of over 300 are only looked at by the closing check); its arguments read behind the call as they did. No condition. -/
import Derived.Test.YtljlhlcoaajggaaOrder
import Derived.OpenShut
import Derived.Deep.SlicePairs
namespace Go.Proofs.Ytljlhlcoaajggaa
open Go.ChangeShapes Go.WideShapes Go.ChangeAt Go.RowKit Go.Deep

set_option maxRecDepth 100000 in
/-- A slice of ranges with classes that came in. -/
theorem ranged_open {H : Type} {enc : TypeId × Value → H} {W : World} {v : Value} {d : DataW H} {ps : List MemPlace} (h : DataW.Trod enc Try.prog W 0 (fun _ => true) true 25 v d ps) (hv : ∃ a b c, v = .slice a b c) :
    ∃ (lo : Option Addr) (lcap : Nat) (l : List Rk), v = .slice lo l.length lcap ∧ (lo = none → lcap = 0) ∧ RdK W lo l ∧ l.length ≤ 9223372036854775807 := by
  obtain ⟨sa, sl, sc, rfl⟩ := hv
  obtain ⟨m, hm⟩ := h
  rcases open_slice Try.underlying25 hm with ⟨hv, _⟩ | ⟨a, len, cap, m', n, D, Pl, hv, hb, hl, hcm, hmm, _, hx⟩
  · have hv' : [Value.slice sa sl sc] = [.slice none 0 0] := hv
    cases hv'
    exact ⟨none, 0, [], rfl, fun _ => rfl, fun i g hi => (by cases hi), by decide⟩
  · have hv' : [Value.slice sa sl sc] = [.slice (some a) len cap] := hv
    cases hv'
    have hm' : m' = sc := hmm
    have hc3 : Try.prog.cellsOf 36 = 3 := by kernel_rfl
    have c21 : Try.prog.cellsOf 21 = 1 := by kernel_rfl
    have c3 : Try.prog.cellsOf 3 = 1 := by kernel_rfl
    have hex : ∀ i : _root_.Fin sl, ∃ g : Rk, W.cell? (a.add (i.1 * 3)) = some (.int .i32 g.1) ∧ W.cell? (a.add (i.1 * 3 + 1)) = some (.int .i32 g.2.1) ∧ W.cell? (a.add (i.1 * 3 + 2)) = some (.int .i64 g.2.2) := fun i => by
      obtain ⟨cs', h1, h2⟩ := hx i.1 (by omega)
      rw [hc3] at h1
      obtain ⟨_, hlen, hcell⟩ := World.cells?_some h1
      obtain ⟨xs, k, hk, hxy, _, hxl, hf⟩ := DataW.trod_struct Try.underlying36 h2
      match xs, hxl, cs', hlen with
      | [y0, y1, y2], _, [v0, v1, v2], _ =>
        have g0 := hf 0 _ rfl
        have g1 := hf 1 _ rfl
        have g2 := hf 2 _ rfl
        simp [c21, c3] at g0 g1 g2
        have e0 := hcell 0 (by omega)
        have e1 := hcell 1 (by omega)
        have e2 := hcell 2 (by omega)
        rw [Go.Deep.add_add] at e0 e1 e2
        obtain ⟨z0, q0, _⟩ := DataW.trod_int (k := .i32) Try.underlying21 g0
        obtain ⟨z1, q1, _⟩ := DataW.trod_int (k := .i32) Try.underlying21 g1
        obtain ⟨z2, q2, _⟩ := DataW.trod_int (k := .i64) Try.underlying3 g2
        injection q0 with q0 _
        injection q1 with q1 _
        injection q2 with q2 _
        subst q0 q1 q2
        exact ⟨(z0, z1, z2), by simpa using e0, by simpa using e1, by simpa using e2⟩
    refine ⟨some a, sc, List.ofFn fun i => Classical.choose (hex i), by rw [List.length_ofFn], fun h => (by cases h), fun i g hi => ?_, by rw [List.length_ofFn]; unfold maxLen at hcm; omega⟩
    rw [List.getElem?_ofFn] at hi
    split at hi
    · rename_i hil
      cases hi
      obtain ⟨e0, e1, e2⟩ := Classical.choose_spec (hex ⟨i, hil⟩)
      have hlt := World.block_lt_of_cell? W _ e0
      rw [add_blk] at hlt
      refine ⟨a, rfl, hlt, e0, by rw [← add_one3]; exact e1, ?_⟩
      have e3 : a.add (i * 3 + 2) = ⟨(a.add (i * 3)).block, (a.add (i * 3)).off + 2, none⟩ := by
        rw [show i * 3 + 2 = i * 3 + 1 + 1 by omega, add_one3, add_one3]
      rw [← e3]; exact e2
    · cases hi
/-- A slice of numbers that came in. -/
theorem numbers_open {H : Type} {enc : TypeId × Value → H} {W : World} {v : Value} {d : DataW H} {ps : List MemPlace} (h : DataW.Trod enc Try.prog W 0 (fun _ => true) true 41 v d ps) (hv : ∃ a b c, v = .slice a b c) :
    ∃ (ao : Option Addr) (cap : Nat) (E : List Int), v = .slice ao E.length cap ∧ RdJ W ao E ∧ E.length ≤ 9223372036854775807 := by
  obtain ⟨sa, sl, sc, rfl⟩ := hv
  obtain ⟨m, hm⟩ := h
  rcases Go.ChangeShapes.open_ints Try.underlying41 Try.underlying3 (by kernel_rfl) hm with ⟨hv, _⟩ | ⟨a, len, cap, zs, hv, _, hlc, hcm, hzl, _, hcells, _⟩
  · have hv' : [Value.slice sa sl sc] = [.slice none 0 0] := hv
    cases hv'
    exact ⟨none, 0, [], rfl, fun k z hk => (by cases hk), by decide⟩
  · have hv' : [Value.slice sa sl sc] = [.slice (some a) len cap] := hv
    cases hv'
    have hle : sl ≤ zs.length := by rw [hzl]; split <;> omega
    have hcm' : sc ≤ 9223372036854775807 := by unfold maxLen at hcm; omega
    refine ⟨some a, sc, zs.take sl, by rw [List.length_take]; congr 1; omega, fun k z hk => ?_, by rw [List.length_take]; omega⟩
    rw [List.getElem?_take] at hk
    split at hk
    · have hkl : k < zs.length := (List.getElem?_eq_some_iff.1 hk).1
      have hc := hcells k hkl
      have hz : zs.getD k 0 = z := by simp [List.getD, hk]
      rw [hz] at hc
      have hlt := World.block_lt_of_cell? W _ hc
      rw [add_blk] at hlt
      exact ⟨a, rfl, hlt, hc⟩
    · cases hk
theorem laidOut : laidOutB Try.prog = true := by kernel_rfl
theorem knob : ownKnob Try.prog.godebug = none := by kernel_rfl
set_option maxRecDepth 100000 in
theorem order_lifted (os : Os) (started : os.Started) (H : Type) (enc : TypeId × Value → H) :
    ReturnsInHanded {} Try.checked os 8 .any (Rows.tableOrderSpec.pre6 enc Try.prog Try.f8 Rows.tableOrderRow.domain false) (Rows.tableOrderSpec.post enc Try.prog Try.f8 false true false false) := by
  refine returnsInHanded_of_change (C := Try.checked) knob started (by kernel_rfl) Try.func8
    (ChangeSpec.witness6 (enc := enc) (C := Try.checked) false ⟨#[], #[.slice none 0 0, .int .i64 0, .slice none 0 0], []⟩ 8 (by kernel_rfl) (by kernel_rfl) (by kernel_rfl) (by kernel_rfl)) ?_
  intro W base args ds gs before hval0 hW hcnd _
  have hval : ∀ (j : Nat) t v, Try.f8.params[j]? = some t → args[j]? = some v → Value.okWide Try.prog W .any base t v := hval0
  have hW' := hW
  obtain ⟨p, q, hA0, hV, rfl, hfz, hnd⟩ := hW
  have hA : DataW.TrodAll enc Try.prog W 0 (fun _ => true) true Try.f8.params.toList args.toList ds p := hA0
  rw [Try.params8] at hA hval
  obtain ⟨v0, v1, v2, d0, d1, d2, p0, p1, p2, rfl, rfl, rfl, h0, h1, h2⟩ := trodAll_three hA
  obtain ⟨rfl, rfl⟩ := trodVars_none hV
  have k0 := h0
  have lt0 : ∀ x ∈ p0, x.block < W.heap.size := by obtain ⟨m, hm⟩ := k0; exact DataW.trod_lt m _ _ _ hm
  obtain ⟨lo0, lc0, l0, rfl, hlc0, hl0, hll0⟩ := ranged_open k0 (okWide_slice Try.underlying25 (hval 0 25 v0 rfl rfl))
  obtain ⟨x1, rfl, rfl, rfl, wx1⟩ := open_int Try.underlying3 (hval 1 3 v1 rfl rfl) h1
  have k2 := h2
  have lt2 : ∀ x ∈ p2, x.block < W.heap.size := by obtain ⟨m, hm⟩ := k2; exact DataW.trod_lt m _ _ _ hm
  obtain ⟨lo2, lc2, l2, rfl, hl2, hll2⟩ := numbers_open k2 (okWide_slice Try.underlying41 (hval 2 41 v2 rfl rfl))
  clear hA0 hval0
  refine (order_walk lo0 lo2 lc0 lc2 l0 x1 l2 W hl0 hlc0 hll0 hl2 hll2).mono fun e W' ⟨he, bel⟩ => ?_
  subst he
  exact ⟨_, rfl, _, _, _, [], _, [], hW', trodAll_mk1 (shut_bool Try.underlying4 _), trodAll_mk3 (Below.trod laidOut (by kernel_rfl) (of_decide_eq_true (by kernel_rfl)) k0 bel lt0) (shut_int Try.underlying3 wx1) (Below.trod laidOut (by kernel_rfl) (of_decide_eq_true (by kernel_rfl)) k2 bel lt2), rfl, bel.frame _, fun h => by cases h⟩

theorem tableOrder_proved : Rows.TableOrderSaid :=
  OpenClaim.holds_of_wide 8 Try.f8 rfl rfl rfl rfl rfl rfl rfl ⟨rfl, rfl, rfl, rfl, rfl⟩ rfl rfl rfl rfl rfl (by kernel_rfl) Try.func8 (by kernel_rfl)
    (of_decide_eq_true (by kernel_rfl)) (by unfold Func.isWrapper; first | (rw [if_pos (by decide +kernel)]; kernel_rfl) | (rw [if_neg (by decide +kernel)]; exact ⟨rfl, rfl⟩))
    (fun os started H enc _ => order_lifted os started H enc)
#print axioms tableOrder_proved
end Go.Proofs.Ytljlhlcoaajggaa
