/- What the rows' listed variables and the world's shape give the walks: the two tables of package utf8, a place of a table of package bits, that MaxLen holds some number. -/
import Derived.Lib.LaidU8
import Derived.ProofKit
import Derived.LaidMore
import Derived.HandedShaped
import Derived.Stop.Joined
import Derived.ChangeSlices
import Derived.ChangeArms
import Derived.OpenShut
import Derived.Lay
import Derived.Test.YtohhokjlgihbgaaGreatDoorFLive4
import Derived.Test.YtohhokjlgihbgaaGreatDoorRows
namespace Go.Proofs.YtohhokjlgihbgaaGreatDoor
open Go.ChangeShapes Go.WideShapes Go.ChangeAt Go.RowKit Go.Deep

/-- The list of every row of this seat. -/
def laid2 : List (String × DataW Unit) := Rows.propsNamesRow.laid
set_option maxRecDepth 100000 in
theorem first_eq : Rows.laid_unicode_utf8_first = Lib.firstData := by kernel_rfl
theorem accept_eq : (Rows.laid_unicode_utf8_acceptRanges : DataW Unit) = Lib.acceptData := by kernel_rfl
theorem xU8 : U8Extra Tryz.prog Tryz.lays260_ren := by constructor <;> kernel_rfl
/-- The numbers of a table of numbers. -/
def numsOf : DataW Unit → List Int
  | .agg ds => ds.map fun d => match d with
    | .lit (.int _ z) => z
    | _ => 0
  | _ => []
def deb : List Int := numsOf Rows.laid_math_bits_deBruijn64tab
theorem deb_eq : (Rows.laid_math_bits_deBruijn64tab : DataW Unit) = Lib.tabData .u8 deb := by kernel_rfl
theorem deb_at : deb[15]? = some 4 := by kernel_rfl
theorem tabs_of_laid {W : World} (h : laidMetH Tryz.prog laid2 W) (hs : W.ShapedOpen Tryz.prog) : ∃ m, Tbs m W := by
  rw [MakeChecks.laidMetH_plain _ _ _ (by kernel_rfl)] at h
  obtain ⟨m, hm⟩ := Tryz.laysM155.s1_3 W hs
  have h1 := Lib.laidMet.reads h (.tail _ (.head _))
  have h4 := Lib.laidMet.reads h (.tail _ (.tail _ (.tail _ (.head _))))
  have h5 := Lib.laidMet.reads h (.tail _ (.tail _ (.tail _ (.tail _ (.head _)))))
  have h3 := Lib.laidMet.reads h (.tail _ (.tail _ (.tail _ (.tail _ (.tail _ (.tail _ (.tail _ (.head _))))))))
  rw [first_eq] at h3
  rw [accept_eq] at h4
  rw [deb_eq] at h1
  have hT : Lib.Utf8Tabs 0 1 W := utf8Tabs_of_reads Tryz.lays260 xU8 h3 h4
  refine ⟨m, hT, hm, ?_, ?_⟩
  · obtain ⟨g, t, cs, fuel, p, hg, hty, hvar, hd⟩ := h1
    obtain rfl : g = 6 := Option.some.inj (hg.symm.trans (by kernel_rfl))
    obtain rfl := Option.some.inj ((show (Tryz.prog.globals[6]?).map (·.type) = some 242 by kernel_rfl).symm.trans hty)
    have hcs := Lib.cells_of_tab Tryz.underlying242 Tryz.underlying5 (by kernel_rfl) (by kernel_rfl) hd
    have h6 := World.var?_cell hg hvar 15
    rw [h6, ← Array.getElem?_toList, hcs, List.getElem?_map, deb_at]
    rfl
  · obtain ⟨g, t, cs, fuel, p, hg, hty, hvar, hd⟩ := h5
    obtain rfl : g = 8 := Option.some.inj (hg.symm.trans (by kernel_rfl))
    unfold World.var? at hvar
    rw [hg] at hvar
    have hlt : 8 < W.heap.size := by
      rcases Nat.lt_or_ge 8 W.heap.size with hlt | hge
      · exact hlt
      · exfalso
        have hn : W.heap[8]? = none := Array.getElem?_eq_none hge
        simp [hn] at hvar
    omega
theorem own : ownKnob Tryz.prog.godebug = none := by kernel_rfl
theorem laidOut : laidOutB Tryz.prog = true := by kernel_rfl
/-- The law's wrap: the listed variables and the world's shape are both at hand. -/
theorem wrap4 {H : Type} {enc : TypeId × Value → H} {a : Assume} {C : Checked} {os : Os} {f : FuncId} {fn : Func} {s : ChangeSpec} {conds : List PathCond} {apart fresh handsOn again : Bool} {X : World → Array Value → Prop}
    (hX : ∀ (w w' : World) (args : Array Value), w.heap = w'.heap → X w args → X w' args)
    (own : ownKnob C.prog.godebug = none) (started : os.Started) (noInit : C.prog.inits.idxOf? f = none) (hfn : C.prog.funcs[f]? = some fn)
    (witness : ∃ (w : World) (tape : Tape) (i : Input), w.os = os ∧ (w.forCall tape i).Shaped C.prog ∧ i.vars = [] ∧ Input.okWide C.prog (w.forCall tape i) .any w.heap.size f i ∧
      ((s.pre enc C.prog fn conds apart (w.forCall tape i).memory i.args ∧ X (w.forCall tape i).memory i.args) ∧ sizedMet enc C.prog fn (OpenSpec.ofChange s) apart (w.forCall tape i).memory i.args) ∧ a.holds C.prog (lone (Frame.enter C.prog f i.args .normal) [] (w.forCall tape i)))
    (contract : ∀ (W : World) (base : Nat) (args : Array Value) (ds gs : List (DataW H)) (before : List MemPlace),
      (∀ (j : Nat) t v, fn.params[j]? = some t → args[j]? = some v → Value.okWide C.prog W .any base t v) →
      DataW.Whole enc C.prog fn.params.toList s.vars apart W args.toList ds gs before → W.ShapedOpen C.prog → X W args →
      Calls C.prog f args W fun e W' => ∃ v, e = .returned v ∧ s.post enc C.prog fn apart fresh handsOn again W args v W') :
    ReturnsInHanded a C os f .any (fun w args => (s.pre enc C.prog fn conds apart w args ∧ X w args) ∧ sizedMet enc C.prog fn (OpenSpec.ofChange s) apart w args) (s.post enc C.prog fn apart fresh handsOn again) := by
  refine returnsInHanded_of_calls own started noInit witness fun w tape i _ hsh _ hok hpre hholds => ?_
  obtain ⟨_, _, _, fn', hfn', _, _, _, _, hval⟩ := hok
  obtain rfl : fn' = fn := Option.some.inj (hfn'.symm.trans hfn)
  obtain ⟨⟨⟨ds, gs, before, hw, _⟩, hx⟩, _⟩ := hpre
  refine (contract (w.forCall tape i) w.heap.size i.args ds gs before hval (DataW.Whole.of_heap (w' := w.forCall tape i) (by rfl) hw) hsh (hX _ _ _ (by rfl) hx)).mono fun e W' ⟨v, he, hp⟩ => ?_
  subst he
  exact ChangeSpec.post_blind hp
end Go.Proofs.YtohhokjlgihbgaaGreatDoor
