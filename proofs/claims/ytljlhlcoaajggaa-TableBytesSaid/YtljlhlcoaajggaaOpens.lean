/- Arguments that came in, opened: slices of ranges, of numbers, of bytes, of runes. -/
import Derived.OpenShut
import Derived.Deep.SlicePairs
import Derived.Test.YtljlhlcoaajggaaAsks
namespace Go.Proofs.Ytljlhlcoaajggaa
open Go.ChangeShapes Go.WideShapes Go.ChangeAt Go.RowKit Go.Deep

set_option maxRecDepth 100000 in
/-- A slice of ranges with classes that came in. -/
theorem ranged_open {H : Type} {enc : TypeId × Value → H} {W : World} {v : Value} {d : DataW H} {ps : List MemPlace} (h : DataW.Trod enc Try.prog W 0 (fun _ => true) true 25 v d ps) (hv : ∃ a b c, v = .slice a b c) :
    ∃ (lo : Option Addr) (lcap : Nat) (l : List Rk), v = .slice lo l.length lcap ∧ (lo = none → lcap = 0) ∧ RdK W lo l ∧ l.length ≤ 9223372036854775807 := by
  obtain ⟨sa, sl, sc, rfl⟩ := hv
  obtain ⟨m, hm⟩ := h
  rcases open_slice Try.underlying25 hm with ⟨hv, _⟩ | ⟨a, len, cap, m', n, D, Pl, hv, hb, hl, hcm, hmm, _, hx⟩
  · have hv' : [Value.slice sa sl sc] = [.slice none 0 0] := hv
    cases hv'
    exact ⟨none, 0, [], rfl, fun _ => rfl, fun i g hi => (by cases hi), by decide⟩
  · have hv' : [Value.slice sa sl sc] = [.slice (some a) len cap] := hv
    cases hv'
    have hm' : m' = sc := hmm
    have hc3 : Try.prog.cellsOf 36 = 3 := by kernel_rfl
    have c21 : Try.prog.cellsOf 21 = 1 := by kernel_rfl
    have c3 : Try.prog.cellsOf 3 = 1 := by kernel_rfl
    have hex : ∀ i : _root_.Fin sl, ∃ g : Rk, W.cell? (a.add (i.1 * 3)) = some (.int .i32 g.1) ∧ W.cell? (a.add (i.1 * 3 + 1)) = some (.int .i32 g.2.1) ∧ W.cell? (a.add (i.1 * 3 + 2)) = some (.int .i64 g.2.2) := fun i => by
      obtain ⟨cs', h1, h2⟩ := hx i.1 (by omega)
      rw [hc3] at h1
      obtain ⟨_, hlen, hcell⟩ := World.cells?_some h1
      obtain ⟨xs, k, hk, hxy, _, hxl, hf⟩ := DataW.trod_struct Try.underlying36 h2
      match xs, hxl, cs', hlen with
      | [y0, y1, y2], _, [v0, v1, v2], _ =>
        have g0 := hf 0 _ rfl
        have g1 := hf 1 _ rfl
        have g2 := hf 2 _ rfl
        simp [c21, c3] at g0 g1 g2
        have e0 := hcell 0 (by omega)
        have e1 := hcell 1 (by omega)
        have e2 := hcell 2 (by omega)
        rw [Go.Deep.add_add] at e0 e1 e2
        obtain ⟨z0, q0, _⟩ := DataW.trod_int (k := .i32) Try.underlying21 g0
        obtain ⟨z1, q1, _⟩ := DataW.trod_int (k := .i32) Try.underlying21 g1
        obtain ⟨z2, q2, _⟩ := DataW.trod_int (k := .i64) Try.underlying3 g2
        injection q0 with q0 _
        injection q1 with q1 _
        injection q2 with q2 _
        subst q0 q1 q2
        exact ⟨(z0, z1, z2), by simpa using e0, by simpa using e1, by simpa using e2⟩
    refine ⟨some a, sc, List.ofFn fun i => Classical.choose (hex i), by rw [List.length_ofFn], fun h => (by cases h), fun i g hi => ?_, by rw [List.length_ofFn]; unfold maxLen at hcm; omega⟩
    rw [List.getElem?_ofFn] at hi
    split at hi
    · rename_i hil
      cases hi
      obtain ⟨e0, e1, e2⟩ := Classical.choose_spec (hex ⟨i, hil⟩)
      have hlt := World.block_lt_of_cell? W _ e0
      rw [add_blk] at hlt
      refine ⟨a, rfl, hlt, e0, by rw [← add_one3]; exact e1, ?_⟩
      have e3 : a.add (i * 3 + 2) = ⟨(a.add (i * 3)).block, (a.add (i * 3)).off + 2, none⟩ := by
        rw [show i * 3 + 2 = i * 3 + 1 + 1 by omega, add_one3, add_one3]
      rw [← e3]; exact e2
    · cases hi
/-- A slice of numbers that came in. -/
theorem numbers_open {H : Type} {enc : TypeId × Value → H} {W : World} {v : Value} {d : DataW H} {ps : List MemPlace} (h : DataW.Trod enc Try.prog W 0 (fun _ => true) true 41 v d ps) (hv : ∃ a b c, v = .slice a b c) :
    ∃ (ao : Option Addr) (cap : Nat) (E : List Int), v = .slice ao E.length cap ∧ RdJ W ao E ∧ E.length ≤ 9223372036854775807 := by
  obtain ⟨sa, sl, sc, rfl⟩ := hv
  obtain ⟨m, hm⟩ := h
  rcases Go.ChangeShapes.open_ints Try.underlying41 Try.underlying3 (by kernel_rfl) hm with ⟨hv, _⟩ | ⟨a, len, cap, zs, hv, _, hlc, hcm, hzl, _, hcells, _⟩
  · have hv' : [Value.slice sa sl sc] = [.slice none 0 0] := hv
    cases hv'
    exact ⟨none, 0, [], rfl, fun k z hk => (by cases hk), by decide⟩
  · have hv' : [Value.slice sa sl sc] = [.slice (some a) len cap] := hv
    cases hv'
    have hle : sl ≤ zs.length := by rw [hzl]; split <;> omega
    have hcm' : sc ≤ 9223372036854775807 := by unfold maxLen at hcm; omega
    refine ⟨some a, sc, zs.take sl, by rw [List.length_take]; congr 1; omega, fun k z hk => ?_, by rw [List.length_take]; omega⟩
    rw [List.getElem?_take] at hk
    split at hk
    · have hkl : k < zs.length := (List.getElem?_eq_some_iff.1 hk).1
      have hc := hcells k hkl
      have hz : zs.getD k 0 = z := by simp [List.getD, hk]
      rw [hz] at hc
      have hlt := World.block_lt_of_cell? W _ hc
      rw [add_blk] at hlt
      exact ⟨a, rfl, hlt, hc⟩
    · cases hk
theorem laidOut : laidOutB Try.prog = true := by kernel_rfl
theorem knob : ownKnob Try.prog.godebug = none := by kernel_rfl
/-- A slice of bytes that came in. -/
theorem bytes_open {H : Type} {enc : TypeId × Value → H} {W : World} {v : Value} {d : DataW H} {ps : List MemPlace} (h : DataW.Trod enc Try.prog W 0 (fun _ => true) true 58 v d ps) (hv : ∃ a b c, v = .slice a b c) :
    ∃ (ao : Option Addr) (cap : Nat) (b : List Nat), v = .slice ao b.length cap ∧ (ao = none → cap = 0) ∧ RdU W ao b ∧ (∀ c ∈ b, c < 256) ∧ b.length ≤ 9223372036854775807 := by
  obtain ⟨sa, sl, sc, rfl⟩ := hv
  obtain ⟨m, hm⟩ := h
  rcases Go.ChangeShapes.open_ints Try.underlying58 Try.underlying5 (by kernel_rfl) hm with ⟨hv, _⟩ | ⟨a, len, cap, zs, hv, _, hlc, hcm, hzl, _, hcells, hwf⟩
  · have hv' : [Value.slice sa sl sc] = [.slice none 0 0] := hv
    cases hv'
    exact ⟨none, 0, [], rfl, fun _ => rfl, fun k z hk => (by cases hk), fun c hc => (by cases hc), by decide⟩
  · have hv' : [Value.slice sa sl sc] = [.slice (some a) len cap] := hv
    cases hv'
    have hle : sl ≤ zs.length := by rw [hzl]; split <;> omega
    have hcm' : sc ≤ 9223372036854775807 := by unfold maxLen at hcm; omega
    have hrg : ∀ z ∈ zs, 0 ≤ z ∧ z < 256 := fun z hz => by
      have h1 : (IntKind.u8.min ≤ z ∧ z ≤ IntKind.u8.max) := by simpa [Lit.wf] using hwf z hz
      have h2 : IntKind.u8.min = 0 := by decide
      have h3 : IntKind.u8.max = 255 := by decide
      rw [h2, h3] at h1
      omega
    refine ⟨some a, sc, (zs.take sl).map Int.toNat, by rw [List.length_map, List.length_take]; congr 1; omega, fun h => (by cases h), fun k c hk => ?_, fun c hc => ?_, by rw [List.length_map, List.length_take]; omega⟩
    · rw [List.getElem?_map, List.getElem?_take] at hk
      split at hk
      · cases hz : zs[k]? with
        | none => rw [hz] at hk; cases hk
        | some y =>
          rw [hz] at hk
          cases hk
          have hkl : k < zs.length := (List.getElem?_eq_some_iff.1 hz).1
          have hc := hcells k hkl
          have hy : zs.getD k 0 = y := by simp [List.getD, hz]
          rw [hy] at hc
          have hlt := World.block_lt_of_cell? W _ hc
          rw [add_blk] at hlt
          have hr := hrg y (List.mem_of_getElem? hz)
          exact ⟨a, rfl, hlt, by rw [Int.toNat_of_nonneg hr.1]; exact hc⟩
      · cases hk
    · obtain ⟨z, hz, rfl⟩ := List.mem_map.1 hc
      have hr := hrg z (List.mem_of_mem_take hz)
      omega
/-- A slice of runes that came in. -/
theorem runes_open {H : Type} {enc : TypeId × Value → H} {W : World} {v : Value} {d : DataW H} {ps : List MemPlace} (h : DataW.Trod enc Try.prog W 0 (fun _ => true) true 26 v d ps) (hv : ∃ a b c, v = .slice a b c) :
    ∃ (ao : Option Addr) (cap : Nat) (E : List Int), v = .slice ao E.length cap ∧ RdZ W ao E ∧ E.length ≤ 9223372036854775807 := by
  obtain ⟨sa, sl, sc, rfl⟩ := hv
  obtain ⟨m, hm⟩ := h
  rcases Go.ChangeShapes.open_ints Try.underlying26 Try.underlying21 (by kernel_rfl) hm with ⟨hv, _⟩ | ⟨a, len, cap, zs, hv, _, hlc, hcm, hzl, _, hcells, _⟩
  · have hv' : [Value.slice sa sl sc] = [.slice none 0 0] := hv
    cases hv'
    exact ⟨none, 0, [], rfl, fun k z hk => (by cases hk), by decide⟩
  · have hv' : [Value.slice sa sl sc] = [.slice (some a) len cap] := hv
    cases hv'
    have hle : sl ≤ zs.length := by rw [hzl]; split <;> omega
    have hcm' : sc ≤ 9223372036854775807 := by unfold maxLen at hcm; omega
    refine ⟨some a, sc, zs.take sl, by rw [List.length_take]; congr 1; omega, fun k z hk => ?_, by rw [List.length_take]; omega⟩
    rw [List.getElem?_take] at hk
    split at hk
    · have hkl : k < zs.length := (List.getElem?_eq_some_iff.1 hk).1
      have hc := hcells k hkl
      have hz : zs.getD k 0 = z := by simp [List.getD, hk]
      rw [hz] at hc
      have hlt := World.block_lt_of_cell? W _ hc
      rw [add_blk] at hlt
      exact ⟨a, rfl, hlt, hc⟩
    · cases hk
end Go.Proofs.Ytljlhlcoaajggaa
