/- What the rows' listed variables give the walks: the two tables of package utf8, a place of a table of package bits; slices of ranges that came in. -/
import Derived.Test.YtfahbdlcokoghabGreatDoorNormWalk
import Derived.Lib.LaidU8
import Derived.ProofKit
import Derived.LaidMore
import Derived.Stop.Joined
import Derived.Deep.SlicePairs
import Derived.ChangeSlices
import Derived.ChangeArms
import Derived.OpenShut
import Derived.Lay
namespace Go.Proofs.YtfahbdlcokoghabGreatDoor
open Go.ChangeShapes Go.WideShapes Go.ChangeAt Go.RowKit Go.Deep

/-- The list of every row of this seat. -/
def laid2 : List (String × DataW Unit) := Rows.runesBackRow.laid
set_option maxRecDepth 100000 in
theorem first_eq : Rows.laid_unicode_utf8_first = Lib.firstData := by kernel_rfl
theorem accept_eq : (Rows.laid_unicode_utf8_acceptRanges : DataW Unit) = Lib.acceptData := by kernel_rfl
theorem xU8 : U8Extra Tryz.prog Tryz.lays260_ren := by constructor <;> kernel_rfl
/-- The numbers of a table of numbers. -/
def numsOf : DataW Unit → List Int
  | .agg ds => ds.map fun d => match d with
    | .lit (.int _ z) => z
    | _ => 0
  | _ => []
def deb : List Int := numsOf Rows.laid_math_bits_deBruijn64tab
theorem deb_eq : (Rows.laid_math_bits_deBruijn64tab : DataW Unit) = Lib.tabData .u8 deb := by kernel_rfl
theorem deb_at : deb[15]? = some 4 := by kernel_rfl
theorem tabs_of_laid {W : World} (h : laidMetH Tryz.prog laid2 W) : Lib.Utf8Tabs 3 4 W ∧ W.cell? ⟨6, 15, none⟩ = some (.int .u8 4) ∧ 9 ≤ W.heap.size := by
  rw [MakeChecks.laidMetH_plain _ _ _ (by kernel_rfl)] at h
  have h1 := Lib.laidMet.reads h (.tail _ (.head _))
  have h4 := Lib.laidMet.reads h (.tail _ (.tail _ (.tail _ (.head _))))
  have h5 := Lib.laidMet.reads h (.tail _ (.tail _ (.tail _ (.tail _ (.head _)))))
  have h3 := Lib.laidMet.reads h (.tail _ (.tail _ (.tail _ (.tail _ (.tail _ (.tail _ (.tail _ (.head _))))))))
  rw [first_eq] at h3
  rw [accept_eq] at h4
  rw [deb_eq] at h1
  have hT : Lib.Utf8Tabs 3 4 W := utf8Tabs_of_reads Tryz.lays260 xU8 h3 h4
  refine ⟨hT, ?_, ?_⟩
  · obtain ⟨g, t, cs, fuel, p, hg, hty, hvar, hd⟩ := h1
    obtain rfl : g = 6 := Option.some.inj (hg.symm.trans (by kernel_rfl))
    obtain rfl := Option.some.inj ((show (Tryz.prog.globals[6]?).map (·.type) = some 148 by kernel_rfl).symm.trans hty)
    have hcs := Lib.cells_of_tab Tryz.underlying148 Tryz.underlying5 (by kernel_rfl) (by kernel_rfl) hd
    have h6 := World.var?_cell hg hvar 15
    rw [h6, ← Array.getElem?_toList, hcs, List.getElem?_map, deb_at]
    rfl
  · obtain ⟨g, t, cs, fuel, p, hg, hty, hvar, hd⟩ := h5
    obtain rfl : g = 8 := Option.some.inj (hg.symm.trans (by kernel_rfl))
    unfold World.var? at hvar
    rw [hg] at hvar
    have hlt : 8 < W.heap.size := by
      rcases Nat.lt_or_ge 8 W.heap.size with hlt | hge
      · exact hlt
      · exfalso
        have hn : W.heap[8]? = none := Array.getElem?_eq_none hge
        simp [hn] at hvar
    omega
theorem own : ownKnob Tryz.prog.godebug = none := by kernel_rfl
theorem laidOut : laidOutB Tryz.prog = true := by kernel_rfl

theorem cell_lt {W : World} {a : Addr} {v : Value} (h : W.cell? a = some v) : a.block < W.heap.size := by
  rcases Nat.lt_or_ge a.block W.heap.size with hlt | hge
  · exact hlt
  · exfalso
    have hn : W.heap[a.block]? = none := Array.getElem?_eq_none hge
    simp [World.cell?, hn] at h

/-- A slice of ranges that came in. -/
theorem ranges_open {H : Type} {enc : TypeId × Value → H} {W : World} {v : Value} {d : DataW H} {ps : List MemPlace} (h : DataW.Trod enc Tryz.prog W 0 (fun _ => true) true 22 v d ps) (hv : ∃ a b c, v = .slice a b c) :
    ∃ (lo : Option Addr) (lcap : Nat) (l : List Rg), v = .slice lo l.length lcap ∧ (lo = none → lcap = 0) ∧ RdR W lo l := by
  obtain ⟨sa, sl, sc, rfl⟩ := hv
  obtain ⟨m, hm⟩ := h
  rcases open_slice_pairs Tryz.underlying22 Tryz.underlying33 (by kernel_rfl) rfl rfl (by kernel_rfl) (by kernel_rfl) hm with ⟨hv, _⟩ | ⟨a, len, cap, m', n, V0, V1, D0, D1, P0, P1, hv, _, hlc, _, hmm, hd, hcells⟩
  · have hv' : [Value.slice sa sl sc] = [.slice none 0 0] := hv
    cases hv'
    exact ⟨none, 0, [], rfl, fun _ => rfl, fun i g hi => (by cases hi)⟩
  · have hv' : [Value.slice sa sl sc] = [.slice (some a) len cap] := hv
    cases hv'
    have hm' : m' = sc := hmm
    have hex : ∀ i : Fin sl, ∃ g : Rg, V0 i.1 = .int .i32 g.1 ∧ V1 i.1 = .int .i32 g.2 := fun i => by
      obtain ⟨_, _, h0, h1⟩ := hcells i.1 (by omega)
      obtain ⟨z0, e0, _⟩ := DataW.trod_int (k := .i32) Tryz.underlying21 h0
      obtain ⟨z1, e1, _⟩ := DataW.trod_int (k := .i32) Tryz.underlying21 h1
      injection e0 with q0 _
      injection e1 with q1 _
      exact ⟨(z0, z1), q0, q1⟩
    refine ⟨some a, sc, List.ofFn fun i => Classical.choose (hex i), by rw [List.length_ofFn], fun h => (by cases h), fun i g hi => ?_⟩
    rw [List.getElem?_ofFn] at hi
    split at hi
    · rename_i hil
      cases hi
      obtain ⟨e0, e1⟩ := Classical.choose_spec (hex ⟨i, hil⟩)
      obtain ⟨c0, c1, _, _⟩ := hcells i (by omega)
      have hlt := cell_lt c0
      rw [add_blk] at hlt
      exact ⟨a, rfl, hlt, by rw [c0]; exact congrArg some e0, by rw [← add_one, c1]; exact congrArg some e1⟩
    · cases hi
end Go.Proofs.YtfahbdlcokoghabGreatDoor

