/- What the row's listed variable and the world's shape give the run: the table of package bits; and the law's wrap, with the sizes of what came in. -/
import Derived.Lib.LaidU8
import Derived.Lib.LaidTab
import Derived.ProofKit
import Derived.LaidMore
import Derived.HandedShaped
import Derived.Stop.Joined
import Derived.ChangeSlices
import Derived.ChangeArms
import Derived.OpenShut
import Derived.Lay
import Derived.Test.YtkmcbhdjecpmjaaDoorEvP
import Derived.Test.YtkmcbhdjecpmjaaDoorRows
import Derived.Test.YtkmcbhdjecpmjaaDoorOpen8Joint
namespace Go.Proofs.YtkmcbhdjecpmjaaDoor
open Go.ChangeShapes Go.WideShapes Go.ChangeAt Go.RowKit

def laid7 : List (String × DataW Unit) := Rows.dfaRunsRow.laid
/-- The numbers of a table of numbers. -/
def numsOf : DataW Unit → List Int
  | .agg ds => ds.map fun d => match d with
    | .lit (.int _ z) => z
    | _ => 0
  | _ => []
def deb : List Int := numsOf Rows.laid_math_bits_deBruijn64tab
theorem deb_eq : (Rows.laid_math_bits_deBruijn64tab : DataW Unit) = Lib.tabData .u8 deb := by kernel_rfl
theorem deb_tab : (deb.map fun z => Value.int .u8 z) = Ev.tab := by kernel_rfl
theorem row0a : ((((begin Tryd.prog (fun _ _ => 0) default).world.heap[0]?).bind Obj.row?).map (·.2)) = some 188 := by kernel_rfl
theorem row0 : ∃ zero, (((begin Tryd.prog (fun _ _ => 0) default).world.heap[0]?).bind Obj.row?) = some (zero, 188) := by
  have h := row0a
  cases hb : ((begin Tryd.prog (fun _ _ => 0) default).world.heap[0]?).bind Obj.row? with
  | none => rw [hb] at h; cases h
  | some x =>
    rw [hb] at h
    obtain ⟨z, t⟩ := x
    have ht : t = 188 := Option.some.inj h
    exact ⟨z, by rw [ht]⟩
theorem tab_of_laid {W : World} (h : laidMetH Tryd.prog laid7 W) (hs : W.ShapedOpen Tryd.prog) : ∃ c, W.heap[0]? = some (.cells c 188) ∧ c.toList = Ev.tab := by
  rw [MakeChecks.laidMetH_plain _ _ _ (by kernel_rfl)] at h
  obtain ⟨zero, hz⟩ := row0
  obtain ⟨cs, h1, _, _⟩ := hs.1 0 zero 188 (Nat.le_of_ble_eq_true (show Nat.ble 1 Tryd.prog.globals.size = true by kernel_rfl)) hz
  refine ⟨cs, h1, ?_⟩
  have h2 := Lib.laidMet.reads h (.head _)
  rw [deb_eq] at h2
  obtain ⟨g, t, c2, fuel, p, hg, hty, hvar, hd⟩ := h2
  obtain rfl : g = 0 := Option.some.inj (hg.symm.trans (by kernel_rfl))
  obtain rfl := Option.some.inj ((show (Tryd.prog.globals[0]?).map (·.type) = some 188 by kernel_rfl).symm.trans hty)
  have hcs := Lib.cells_of_tab Tryd.underlying188 Tryd.underlying5 (by kernel_rfl) (by kernel_rfl) hd
  unfold World.var? at hvar
  rw [hg] at hvar
  simp only [Option.bind_some, h1] at hvar
  cases hvar
  rw [hcs, deb_tab]
theorem ownk : ownKnob Tryd.prog.godebug = none := by kernel_rfl
/-- The law's wrap: the listed variables and the world's shape are both at hand. -/
theorem wrap7 {H : Type} {enc : TypeId × Value → H} {a : Assume} {C : Checked} {os : Os} {f : FuncId} {fn : Func} {s : ChangeSpec} {conds : List PathCond} {apart fresh handsOn again : Bool} {X : World → Array Value → Prop}
    (hX : ∀ (w w' : World) (args : Array Value), w.heap = w'.heap → X w args → X w' args)
    (own : ownKnob C.prog.godebug = none) (started : os.Started) (noInit : C.prog.inits.idxOf? f = none) (hfn : C.prog.funcs[f]? = some fn)
    (witness : ∃ (w : World) (tape : Tape) (i : Input), w.os = os ∧ (w.forCall tape i).Shaped C.prog ∧ i.vars = [] ∧ Input.okWide C.prog (w.forCall tape i) .any w.heap.size f i ∧
      ((s.pre enc C.prog fn conds apart (w.forCall tape i).memory i.args ∧ X (w.forCall tape i).memory i.args) ∧ sizedMet enc C.prog fn (OpenSpec.ofChange s) apart (w.forCall tape i).memory i.args) ∧ a.holds C.prog (lone (Frame.enter C.prog f i.args .normal) [] (w.forCall tape i)))
    (contract : ∀ (W : World) (base : Nat) (args : Array Value) (ds gs : List (DataW H)) (before : List MemPlace),
      (∀ (j : Nat) t v, fn.params[j]? = some t → args[j]? = some v → Value.okWide C.prog W .any base t v) →
      DataW.Whole enc C.prog fn.params.toList s.vars apart W args.toList ds gs before → W.ShapedOpen C.prog → (DataW.weightsEach C.prog (fn.params.toList ++ s.plain.varTypes C.prog) (ds ++ gs)).all (· ≤ reachBytes) = true → X W args →
      Calls C.prog f args W fun e W' => ∃ v, e = .returned v ∧ s.post enc C.prog fn apart fresh handsOn again W args v W') :
    ReturnsInHanded a C os f .any (fun w args => (s.pre enc C.prog fn conds apart w args ∧ X w args) ∧ sizedMet enc C.prog fn (OpenSpec.ofChange s) apart w args) (s.post enc C.prog fn apart fresh handsOn again) := by
  refine returnsInHanded_of_calls own started noInit witness fun w tape i _ hsh _ hok hpre hholds => ?_
  obtain ⟨_, _, _, fn', hfn', _, _, _, _, hval⟩ := hok
  obtain rfl : fn' = fn := Option.some.inj (hfn'.symm.trans hfn)
  obtain ⟨⟨⟨ds, gs, before, hw, _⟩, hx⟩, hz⟩ := hpre
  refine (contract (w.forCall tape i) w.heap.size i.args ds gs before hval (DataW.Whole.of_heap (w' := w.forCall tape i) (by rfl) hw) hsh (hz.weights hw) (hX _ _ _ (by rfl) hx)).mono fun e W' ⟨v, he, hp⟩ => ?_
  subst he
  exact ChangeSpec.post_blind hp
end Go.Proofs.YtkmcbhdjecpmjaaDoor
