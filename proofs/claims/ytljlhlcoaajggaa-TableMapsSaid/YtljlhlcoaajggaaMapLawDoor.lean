/- Proved: TableMaps answers true for every list of ranges, every class of the rest and every list of numbers: Map makes the table that the document's makes, or is refused where it is, and leaves its own table as it was (lists of over 300 ranges, of over 2000 numbers are only looked at by the closing check); its arguments read behind the call as they did. No condition. -/
import Derived.Test.YtljlhlcoaajggaaOpensJoint
namespace Go.Proofs.Ytljlhlcoaajggaa
open Go.ChangeShapes Go.WideShapes Go.ChangeAt Go.RowKit Go.Deep

/-- A slice of numbers that came in. -/
theorem numbers_open2 {H : Type} {enc : TypeId × Value → H} {W : World} {v : Value} {d : DataW H} {ps : List MemPlace} (h : DataW.Trod enc Try.prog W 0 (fun _ => true) true 41 v d ps) (hv : ∃ a b c, v = .slice a b c) :
    ∃ (ao : Option Addr) (cap : Nat) (E : List Int), v = .slice ao E.length cap ∧ (ao = none → cap = 0) ∧ RdJ W ao E ∧ E.length ≤ 9223372036854775807 := by
  obtain ⟨sa, sl, sc, rfl⟩ := hv
  obtain ⟨m, hm⟩ := h
  rcases Go.ChangeShapes.open_ints Try.underlying41 Try.underlying3 (by kernel_rfl) hm with ⟨hv, _⟩ | ⟨a, len, cap, zs, hv, _, hlc, hcm, hzl, _, hcells, _⟩
  · have hv' : [Value.slice sa sl sc] = [.slice none 0 0] := hv
    cases hv'
    exact ⟨none, 0, [], rfl, fun _ => rfl, fun k z hk => (by cases hk), by decide⟩
  · have hv' : [Value.slice sa sl sc] = [.slice (some a) len cap] := hv
    cases hv'
    have hle : sl ≤ zs.length := by rw [hzl]; split <;> omega
    have hcm' : sc ≤ 9223372036854775807 := by unfold maxLen at hcm; omega
    refine ⟨some a, sc, zs.take sl, by rw [List.length_take]; congr 1; omega, fun h => (by cases h), fun k z hk => ?_, by rw [List.length_take]; omega⟩
    rw [List.getElem?_take] at hk
    split at hk
    · have hkl : k < zs.length := (List.getElem?_eq_some_iff.1 hk).1
      have hc := hcells k hkl
      have hz : zs.getD k 0 = z := by simp [List.getD, hk]
      rw [hz] at hc
      have hlt := World.block_lt_of_cell? W _ hc
      rw [add_blk] at hlt
      exact ⟨a, rfl, hlt, hc⟩
    · cases hk
set_option maxRecDepth 100000 in
theorem maps_lifted (os : Os) (started : os.Started) (H : Type) (enc : TypeId × Value → H) :
    ReturnsInHanded {} Try.checked os 5 .any (Rows.tableMapsSpec.pre6 enc Try.prog Try.f5 Rows.tableMapsRow.domain false) (Rows.tableMapsSpec.post enc Try.prog Try.f5 false true false false) := by
  refine returnsInHanded_of_change (C := Try.checked) knob started (by kernel_rfl) Try.func5
    (ChangeSpec.witness6 (enc := enc) (C := Try.checked) false ⟨#[], #[.slice none 0 0, .int .i64 0, .slice none 0 0], []⟩ 8 (by kernel_rfl) (by kernel_rfl) (by kernel_rfl) (by kernel_rfl)) ?_
  intro W base args ds gs before hval0 hW hcnd _
  have hval : ∀ (j : Nat) t v, Try.f5.params[j]? = some t → args[j]? = some v → Value.okWide Try.prog W .any base t v := hval0
  have hW' := hW
  obtain ⟨p, q, hA0, hV, rfl, hfz, hnd⟩ := hW
  have hA : DataW.TrodAll enc Try.prog W 0 (fun _ => true) true Try.f5.params.toList args.toList ds p := hA0
  rw [Try.params5] at hA hval
  obtain ⟨v0, v1, v2, d0, d1, d2, p0, p1, p2, rfl, rfl, rfl, h0, h1, h2⟩ := trodAll_three hA
  obtain ⟨rfl, rfl⟩ := trodVars_none hV
  have k0 := h0
  have lt0 : ∀ x ∈ p0, x.block < W.heap.size := by obtain ⟨m, hm⟩ := k0; exact DataW.trod_lt m _ _ _ hm
  obtain ⟨lo0, lc0, l0, rfl, hlc0, hl0, hll0⟩ := ranged_open k0 (okWide_slice Try.underlying25 (hval 0 25 v0 rfl rfl))
  obtain ⟨x1, rfl, rfl, rfl, wx1⟩ := open_int Try.underlying3 (hval 1 3 v1 rfl rfl) h1
  have k2 := h2
  have lt2 : ∀ x ∈ p2, x.block < W.heap.size := by obtain ⟨m, hm⟩ := k2; exact DataW.trod_lt m _ _ _ hm
  obtain ⟨lo2, lc2, l2, rfl, hlc2, hl2, hll2⟩ := numbers_open2 k2 (okWide_slice Try.underlying41 (hval 2 41 v2 rfl rfl))
  clear hA0 hval0
  refine (maps_walk lo0 lo2 lc0 lc2 l0 x1 l2 W hl0 hlc0 hll0 hl2 hlc2 hll2).mono fun e W' ⟨he, bel⟩ => ?_
  subst he
  exact ⟨_, rfl, _, _, _, [], _, [], hW', trodAll_mk1 (shut_bool Try.underlying4 _), trodAll_mk3 (Below.trod laidOut (by kernel_rfl) (of_decide_eq_true (by kernel_rfl)) k0 bel lt0) (shut_int Try.underlying3 wx1) (Below.trod laidOut (by kernel_rfl) (of_decide_eq_true (by kernel_rfl)) k2 bel lt2), rfl, bel.frame _, fun h => by cases h⟩

theorem tableMaps_proved : Rows.TableMapsSaid :=
  OpenClaim.holds_of_wide 5 Try.f5 rfl rfl rfl rfl rfl rfl rfl ⟨rfl, rfl, rfl, rfl, rfl⟩ rfl rfl rfl rfl rfl (by kernel_rfl) Try.func5 (by kernel_rfl)
    (of_decide_eq_true (by kernel_rfl)) (by unfold Func.isWrapper; first | (rw [if_pos (by decide +kernel)]; kernel_rfl) | (rw [if_neg (by decide +kernel)]; exact ⟨rfl, rfl⟩))
    (fun os started H enc _ => maps_lifted os started H enc)
#print axioms tableMaps_proved
end Go.Proofs.Ytljlhlcoaajggaa
