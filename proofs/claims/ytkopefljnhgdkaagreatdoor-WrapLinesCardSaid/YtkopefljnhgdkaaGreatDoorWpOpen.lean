/- Arguments that came in, opened: boxes, numbers, a Wrap. -/
import Derived.Test.YtkopefljnhgdkaaGreatDoorWpChk
import Derived.Deep.SlicePairs
import Derived.Deep.Slices
import Derived.Deep.Strs
import Derived.ChangeSlices
import Derived.ChangeArms
import Derived.SizedLaws
import Derived.OpenShut
import Derived.Lib.SmallJoins
namespace Go.Proofs.YtkopefljnhgdkaaGreatDoor
open Go.ChangeShapes Go.WideShapes Go.RowKit Go.Deep

/-- How long a list may be. -/
def most : Nat := 17592186044416
theorem bytes3 : Tryz.prog.bytesOf 3 = 8 := by kernel_rfl
theorem cell_lt {W : World} {a : Addr} {v : Value} (h : W.cell? a = some v) : a.block < W.heap.size := World.block_lt_of_cell? W a h
variable {H : Type} {enc : TypeId × Value → H} {W : World}
theorem ints_open {n : Nat} {v : Value} {x : DataW H × List MemPlace} (h : DataW.trod enc Tryz.prog W 0 (fun _ => true) true n 33 [v] = some x) (hw : ∀ q ∈ x.1.weights Tryz.prog 33, q ≤ reachBytes) :
    ∃ (ao : Option Addr) (cap : Nat) (l : List Int), v = .slice ao l.length cap ∧ RdI W ao l ∧ l.length ≤ most ∧ l.length ≤ cap ∧ (ao = none → cap = 0) := by
  rcases Go.ChangeShapes.open_ints Tryz.underlying33 Tryz.underlying3 (by kernel_rfl) h with ⟨hv, _⟩ | ⟨a, len, cap, zs, hv, _, hlc, _, hzl, hx, hcells, _⟩
  · cases hv
    exact ⟨none, 0, [], rfl, fun k z hk => (by cases hk), by unfold most; simp, Nat.le_refl _, fun _ => rfl⟩
  · cases hv
    have hle : len ≤ zs.length := by rw [hzl]; split <;> omega
    have hlen : (zs.take len).length = len := by rw [List.length_take]; omega
    refine ⟨some a, cap, zs.take len, by rw [hlen], fun k z hk => ?_, ?_, by rw [hlen]; exact hlc, fun h => by cases h⟩
    · rw [List.getElem?_take] at hk
      split at hk
      · have hkz : k < zs.length := (List.getElem?_eq_some_iff.1 hk).1
        have hc := hcells k hkz
        have hy : zs.getD k 0 = z := by simp [List.getD, hk]
        rw [hy] at hc
        have hlt := cell_lt hc
        rw [add_blk] at hlt
        exact ⟨a, rfl, hlt, hc⟩
      · cases hk
    · rw [hlen]
      have h1 := hw (zs.length * 8) (by
        rw [hx]
        have e : (lits .i64 (zs.take len) : List (DataW H)).length + (lits .i64 (zs.drop len) : List (DataW H)).length = zs.length := by simp [lits]; omega
        simp only [DataW.weights, Tryz.underlying33, bytes3, e]
        exact List.mem_cons_self)
      have h2 := reachBytes_lt
      unfold most
      have h3 : reachBytes ≤ 140737488355328 := by decide
      omega
theorem add_one4 (a : Addr) (k : Nat) : a.add (k + 1) = ⟨(a.add k).block, (a.add k).off + 1, none⟩ := by
  unfold Addr.add
  rw [if_neg (by omega)]
  split
  · rename_i h; subst h; rfl
  · rfl
theorem add_off (a : Addr) (k : Nat) : (a.add (k + 1) = ⟨(a.add k).block, (a.add k).off + 1, none⟩) ∧ (a.add (k + 2) = ⟨(a.add k).block, (a.add k).off + 2, none⟩) ∧ (a.add (k + 3) = ⟨(a.add k).block, (a.add k).off + 3, none⟩) := by
  refine ⟨add_one4 a k, ?_, ?_⟩
  · rw [show k + 2 = k + 1 + 1 by omega, add_one4, add_one4]
  · rw [show k + 3 = k + 1 + 1 + 1 by omega, add_one4, add_one4, add_one4]
set_option maxRecDepth 100000 in
theorem boxes_open {v : Value} {d : DataW H} {ps : List MemPlace} (h : DataW.Trod enc Tryz.prog W 0 (fun _ => true) true 22 v d ps) (hv : ∃ a b c, v = .slice a b c) :
    ∃ (lo : Option Addr) (lcap : Nat) (l : List Bx), v = .slice lo l.length lcap ∧ (lo = none → lcap = 0) ∧ RdB W lo l ∧ l.length ≤ lcap := by
  obtain ⟨sa, sl, sc, rfl⟩ := hv
  obtain ⟨m, hm⟩ := h
  rcases open_slice Tryz.underlying22 hm with ⟨hv, _⟩ | ⟨a, len, cap, m', n, D, Pl, hv, hb, hl, hcm, hmm, _, hx⟩
  · have hv' : [Value.slice sa sl sc] = [.slice none 0 0] := hv
    cases hv'
    exact ⟨none, 0, [], rfl, fun _ => rfl, fun i g hi => (by cases hi), by decide⟩
  · have hv' : [Value.slice sa sl sc] = [.slice (some a) len cap] := hv
    cases hv'
    have hm' : m' = sc := hmm
    have hc4 : Tryz.prog.cellsOf 53 = 4 := by kernel_rfl
    have c4 : Tryz.prog.cellsOf 4 = 1 := by kernel_rfl
    have c3 : Tryz.prog.cellsOf 3 = 1 := by kernel_rfl
    have hex : ∀ i : _root_.Fin sl, ∃ g : Bx, W.cell? (a.add (i.1 * 4)) = some (.int .i64 g.w) ∧ W.cell? (a.add (i.1 * 4 + 1)) = some (.int .i64 g.b) ∧ W.cell? (a.add (i.1 * 4 + 2)) = some (.int .i64 g.h) ∧ W.cell? (a.add (i.1 * 4 + 3)) = some (.bool g.m) := fun i => by
      obtain ⟨cs', h1, h2⟩ := hx i.1 (by omega)
      rw [hc4] at h1
      obtain ⟨_, hlen, hcell⟩ := World.cells?_some h1
      obtain ⟨xs, k, hk, hxy, _, hxl, hf⟩ := DataW.trod_struct Tryz.underlying53 h2
      match xs, hxl, cs', hlen with
      | [y0, y1, y2, y3], _, [v0, v1, v2, v3], _ =>
        have g0 := hf 0 _ rfl
        have g1 := hf 1 _ rfl
        have g2 := hf 2 _ rfl
        have g3 := hf 3 _ rfl
        simp [c3, c4] at g0 g1 g2 g3
        have e0 := hcell 0 (by omega)
        have e1 := hcell 1 (by omega)
        have e2 := hcell 2 (by omega)
        have e3 := hcell 3 (by omega)
        rw [Go.Deep.add_add] at e0 e1 e2 e3
        obtain ⟨z0, q0, _⟩ := DataW.trod_int (k := .i64) Tryz.underlying3 g0
        obtain ⟨z1, q1, _⟩ := DataW.trod_int (k := .i64) Tryz.underlying3 g1
        obtain ⟨z2, q2, _⟩ := DataW.trod_int (k := .i64) Tryz.underlying3 g2
        obtain ⟨z3, q3, _⟩ := DataW.trod_bool Tryz.underlying4 g3
        injection q0 with q0 _
        injection q1 with q1 _
        injection q2 with q2 _
        injection q3 with q3 _
        subst q0 q1 q2 q3
        exact ⟨⟨z0, z1, z2, z3⟩, by simpa using e0, by simpa using e1, by simpa using e2, by simpa using e3⟩
    refine ⟨some a, sc, List.ofFn fun i => Classical.choose (hex i), by rw [List.length_ofFn], fun h => (by cases h), fun i g hi => ?_, by rw [List.length_ofFn]; omega⟩
    rw [List.getElem?_ofFn] at hi
    split at hi
    · rename_i hil
      cases hi
      obtain ⟨e0, e1, e2, e3⟩ := Classical.choose_spec (hex ⟨i, hil⟩)
      have hlt := World.block_lt_of_cell? W _ e0
      rw [add_blk] at hlt
      obtain ⟨o1, o2, o3⟩ := add_off a (i * 4)
      exact ⟨a, rfl, hlt, e0, by rw [← o1]; exact e1, by rw [← o2]; exact e2, by rw [← o3]; exact e3⟩
    · cases hi
end Go.Proofs.YtkopefljnhgdkaaGreatDoor
