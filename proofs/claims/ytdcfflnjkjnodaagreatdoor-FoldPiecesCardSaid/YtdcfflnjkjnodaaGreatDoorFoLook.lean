/- The forms of a rune by the table: the look-up in the map. -/
import Derived.Test.YtdcfflnjkjnodaaGreatDoorFoApp
import Derived.Maps.Keyed
import Derived.MapKept
import Derived.DataShut
namespace Go.Proofs.YtdcfflnjkjnodaaGreatDoor
open Go.RowKit Go.Maps Go.WideMaps
namespace Fo
abbrev Fm := List Int × List Int × List Int × List Int
def spF (r : Int) : Option Fm := (spT.find? fun x => r == x.1).map (·.2)
theorem find_sp (r : Int) : ∀ (T : List (Int × Fm)) (i j : Nat), ∃ n, Instr.findNow (.int .i32) (.int .i32 r) (spN i T) j = some (((T.find? fun x => r == x.1).map (·.2)).map fun x => (n, fv x))
  | [], i, j => ⟨0, rfl⟩
  | x :: T, i, j => by
    cases h : (r == x.1) with
    | true =>
      refine ⟨j, ?_⟩
      simp only [spN, Instr.findNow, Instr.sameNow, if_pos, h, List.find?_cons_of_pos, Option.map_some]
    | false =>
      obtain ⟨n, hn⟩ := find_sp r T (i + 1) (j + 1)
      refine ⟨n, ?_⟩
      simp only [spN, Instr.findNow, Instr.sameNow, if_pos, h, hn, List.find?_cons, Option.map_map]
def sps : Option Fm → Value
  | some x => fv x
  | none => fv ([], [], [], [])
theorem look_any (K : Nat) (r : Int) (w : World) (h0 : -2147483648 ≤ r) (h1 : r ≤ 2147483647) (h : w.heap[K]? = some (.map ⟨spE⟩ 17)) :
    (Instr.lookup 48 (.map (some K)) (.int .i32 r) true).run Tryz.prog w = .ok (.tuple #[sps (spF r), .bool (spF r).isSome]) w := by
  obtain ⟨n, hn⟩ := find_sp r spT 0 0
  have hkey := keyOf_int_mk (P := Tryz.prog) Tryz.underlying21 (a := r) ((Lit.wf_int_iff _ _).2 ⟨h0, h1⟩)
  have hf := MapKept.run_findKey (P := Tryz.prog) (w := w) (kt := 21) Tryz.underlying21 (k := .int .i32 r) (l := spE) hn
  have hc : (Instr.checkKey spE.isEmpty 10000 21 (.int .i32 r)).run Tryz.prog w = .ok () w := (int_keyed Tryz.underlying21).check w _ hkey
  cases hs : spF r with
  | some x =>
    unfold spF at hs
    rw [hs] at hf
    simp only [Option.map_some] at hf
    simp [Instr.lookup, run_underlying Tryz.underlying48, MapKept.run_getObj_map h, hc, hf, Result.andThen, sps]
  | none =>
    unfold spF at hs
    rw [hs] at hf
    simp only [Option.map_none] at hf
    have hz : (zeroValue 89).run Tryz.prog w = .ok (fv ([], [], [], [])) w := Tryz.zeroValue89 w
    simp [Instr.lookup, run_underlying Tryz.underlying48, MapKept.run_getObj_map h, hc, hf, hz, Result.andThen, sps]
end Fo
end Go.Proofs.YtdcfflnjkjnodaaGreatDoor
