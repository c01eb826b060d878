/- An automaton that came in, opened. -/
import Derived.Deep.SlicePairs
import Derived.Deep.Slices
import Derived.Deep.Strs
import Derived.ChangeSlices
import Derived.ChangeArms
import Derived.SizedLaws
import Derived.OpenShut
import Derived.Test.YtmgoedcaeemilaaDoorRows7
import Derived.Lib.LaidU8
import Derived.Lib.LaidTab
import Derived.ProofKit
import Derived.LaidMore
import Derived.HandedShaped
import Derived.Stop.Joined
import Derived.Lay
import Derived.Test.YtmgoedcaeemilaaDoorEvP
import Derived.Test.YtmgoedcaeemilaaDoorRows
namespace Go.Proofs.YtmgoedcaeemilaaDoor
open Go.ChangeShapes Go.WideShapes Go.RowKit Go.Deep

theorem weights_all {H : Type} {P : Program} {e : TypeId} : ∀ {l : List (DataW H)} {d : DataW H} {n : Nat}, d ∈ l → n ∈ d.weights P e → n ∈ DataW.weightsAll P e l
  | _ :: _, _, _, .head _, hn => by simp only [DataW.weightsAll, List.mem_append]; exact Or.inl hn
  | _ :: _, _, _, .tail _ h, hn => by simp only [DataW.weightsAll, List.mem_append]; exact Or.inr (weights_all h hn)
theorem bytes3 : Tryd.prog.bytesOf 3 = 8 := by kernel_rfl
theorem bytes28 : Tryd.prog.bytesOf 28 = 24 := by kernel_rfl
theorem cell_lt {W : World} {a : Addr} {v : Value} (h : W.cell? a = some v) : a.block < W.heap.size := World.block_lt_of_cell? W a h

variable {H : Type} {enc : TypeId × Value → H} {W : World}
theorem ints_open {n : Nat} {v : Value} {x : DataW H × List MemPlace} (h : DataW.trod enc Tryd.prog W 0 (fun _ => true) true n 28 [v] = some x) (hw : ∀ q ∈ x.1.weights Tryd.prog 28, q ≤ reachBytes) :
    ∃ (ao : Option Addr) (cap : Nat) (l : List Int), v = .slice ao l.length cap ∧ RdI W ao l ∧ l.length ≤ most ∧ l.length ≤ cap ∧ (ao = none → cap = 0) := by
  rcases Go.ChangeShapes.open_ints Tryd.underlying28 Tryd.underlying3 (by kernel_rfl) h with ⟨hv, _⟩ | ⟨a, len, cap, zs, hv, _, hlc, _, hzl, hx, hcells, _⟩
  · cases hv
    exact ⟨none, 0, [], rfl, fun k z hk => (by cases hk), by unfold most; simp, Nat.le_refl _, fun _ => rfl⟩
  · cases hv
    have hle : len ≤ zs.length := by rw [hzl]; split <;> omega
    have hlen : (zs.take len).length = len := by rw [List.length_take]; omega
    refine ⟨some a, cap, zs.take len, by rw [hlen], fun k z hk => ?_, ?_, by rw [hlen]; exact hlc, fun h => by cases h⟩
    · rw [List.getElem?_take] at hk
      split at hk
      · have hkz : k < zs.length := (List.getElem?_eq_some_iff.1 hk).1
        have hc := hcells k hkz
        have hy : zs.getD k 0 = z := by simp [List.getD, hk]
        rw [hy] at hc
        have hlt := cell_lt hc
        rw [add_blk] at hlt
        exact ⟨a, rfl, hlt, hc⟩
      · cases hk
    · rw [hlen]
      have h1 := hw (zs.length * 8) (by
        rw [hx]
        have e : (lits .i64 (zs.take len) : List (DataW H)).length + (lits .i64 (zs.drop len) : List (DataW H)).length = zs.length := by simp [lits]; omega
        simp only [DataW.weights, Tryd.underlying28, bytes3, e]
        exact List.mem_cons_self)
      have h2 := reachBytes_lt
      unfold most
      have h3 : reachBytes ≤ 140737488355328 := by decide
      omega
theorem pair_le {n m b : Nat} (h : (n + m) * b ≤ reachBytes) (hb : 8 ≤ b) : n ≤ most := by
  have h3 : reachBytes ≤ 140737488355328 := by decide
  have h4 : n * 8 ≤ (n + m) * b := Nat.mul_le_mul (by omega) hb
  unfold most
  omega
theorem rows_open {n : Nat} {v : Value} {x : DataW H × List MemPlace} (h : DataW.trod enc Tryd.prog W 0 (fun _ => true) true n 30 [v] = some x) (hw : ∀ q ∈ x.1.weights Tryd.prog 30, q ≤ reachBytes) :
    ∃ (ao : Option Addr) (cap : Nat) (R : Rw), v = .slice ao R.length cap ∧ RdR W ao R ∧ R.length ≤ most := by
  rcases open_slice1 Tryd.underlying30 (by kernel_rfl) h with ⟨hv, _⟩ | ⟨a, len, cap, m', n, V, D, Pl, hv, _, hlc, _, hmm, hd, hcells⟩
  · cases hv
    exact ⟨none, 0, [], rfl, fun k z hk => (by cases hk), by unfold most; simp⟩
  · cases hv
    have hm' : m' = cap := hmm
    have hd' : x.1 = .slice ((List.range len).map D) ((List.range (m' - len)).map fun j => D (len + j)) := congrArg Prod.fst hd
    rw [hd'] at hw
    have hex : ∀ i : Fin len, ∃ g : List Int, (∃ co cc, V i.1 = .slice co g.length cc ∧ RdI W co g) ∧ g.length ≤ most := fun i => by
      obtain ⟨_, h0⟩ := hcells i.1 (by omega)
      obtain ⟨co, cc, l, e0, e1, e2, _, _⟩ := ints_open h0 fun q hq => hw q (by
        simp only [DataW.weights, Tryd.underlying30, List.mem_cons, List.mem_append]
        exact Or.inr (Or.inl (weights_all (d := D i) (List.mem_map.2 ⟨i.1, List.mem_range.2 i.2, rfl⟩) hq)))
      exact ⟨l, ⟨co, cc, e0, e1⟩, e2⟩
    refine ⟨some a, cap, List.ofFn fun i => Classical.choose (hex i), by rw [List.length_ofFn], fun k g hk => ?_, ?_⟩
    · rw [List.getElem?_ofFn] at hk
      split at hk
      · rename_i hil
        cases hk
        obtain ⟨⟨co, cc, e0, e1⟩, e2⟩ := Classical.choose_spec (hex ⟨k, hil⟩)
        obtain ⟨c0, _⟩ := hcells k (by omega)
        have hlt := cell_lt c0
        rw [add_blk] at hlt
        exact ⟨a, rfl, hlt, co, cc, c0.trans (congrArg some e0), e1, e2⟩
      · cases hk
    · rw [List.length_ofFn]
      refine pair_le (m := m' - len) (b := 24) (hw _ ?_) (by omega)
      simp only [DataW.weights, Tryd.underlying30, bytes28, List.length_map, List.length_range]
      exact List.mem_cons_self
/-- An automaton as the cells of a struct. -/
theorem dfa_open {n : Nat} {cs : List Value} {x : DataW H × List MemPlace} (hl : cs.length = 3) (h : DataW.trod enc Tryd.prog W 0 (fun _ => true) true n 32 cs = some x) (hw : ∀ q ∈ x.1.weights Tryd.prog 32, q ≤ reachBytes) :
    ∃ (c : Int) (no to : Option Addr) (nc tc : Nat) (R : Rw) (T : List Int), cs = [.int .i64 c, .slice no R.length nc, .slice to T.length tc] ∧ DRd W no R.length to T.length R T := by
  match cs, hl with
  | [v0, v1, v2], _ =>
  obtain ⟨y0, y1, y2, m, hx, _, h0, h1, h2⟩ := trod_struct3 Tryd.underlying32 h
  have e0 : ([v0, v1, v2].drop 0).take (Tryd.prog.cellsOf 3) = [v0] := by rw [show Tryd.prog.cellsOf 3 = 1 by kernel_rfl]; rfl
  have e1 : ([v0, v1, v2].drop 1).take (Tryd.prog.cellsOf 30) = [v1] := by rw [show Tryd.prog.cellsOf 30 = 1 by kernel_rfl]; rfl
  have e2 : ([v0, v1, v2].drop 2).take (Tryd.prog.cellsOf 28) = [v2] := by rw [show Tryd.prog.cellsOf 28 = 1 by kernel_rfl]; rfl
  have h0' : DataW.trod enc Tryd.prog W 0 (fun _ => true) true m 3 (([v0, v1, v2].drop 0).take (Tryd.prog.cellsOf 3)) = some y0 := h0
  have h1' : DataW.trod enc Tryd.prog W 0 (fun _ => true) true m 30 (([v0, v1, v2].drop 1).take (Tryd.prog.cellsOf 30)) = some y1 := h1
  have h2' : DataW.trod enc Tryd.prog W 0 (fun _ => true) true m 28 (([v0, v1, v2].drop 2).take (Tryd.prog.cellsOf 28)) = some y2 := h2
  rw [e0] at h0'
  rw [e1] at h1'
  rw [e2] at h2'
  have hww : ∀ q, q ∈ y1.1.weights Tryd.prog 30 ∨ q ∈ y2.1.weights Tryd.prog 28 → q ≤ reachBytes := fun q hq => hw q (by
    rw [hx]
    simp only [DataW.weights, Tryd.underlying32, DataW.weightsEach, List.map_cons, List.mem_append]
    rcases hq with h | h
    · exact .inr (.inl h)
    · exact .inr (.inr (.inl h)))
  obtain ⟨no, nc, R, g0, g1, g2⟩ := rows_open h1' fun q hq => hww q (.inl hq)
  obtain ⟨to, tc, T, k0, k1, k2, _, _⟩ := ints_open h2' fun q hq => hww q (.inr hq)
  obtain ⟨c, hc, _⟩ := DataW.trod_int Tryd.underlying3 h0'
  injection hc with hc' _
  exact ⟨c, no, to, nc, tc, R, T, by rw [g0, hc', k0], ⟨rfl, rfl, g1, k1, g2, k2⟩⟩
end Go.Proofs.YtmgoedcaeemilaaDoor
/- What the row's listed variable and the world's shape give the run: the table of package bits; and the law's wrap, with the sizes of what came in. -/
namespace Go.Proofs.YtmgoedcaeemilaaDoor
open Go.ChangeShapes Go.WideShapes Go.ChangeAt Go.RowKit

def laid7 : List (String × DataW Unit) := Rows.dfaRunsRow.laid
/-- The numbers of a table of numbers. -/
def numsOf : DataW Unit → List Int
  | .agg ds => ds.map fun d => match d with
    | .lit (.int _ z) => z
    | _ => 0
  | _ => []
def deb : List Int := numsOf Rows.laid_math_bits_deBruijn64tab
theorem deb_eq : (Rows.laid_math_bits_deBruijn64tab : DataW Unit) = Lib.tabData .u8 deb := by kernel_rfl
theorem deb_tab : (deb.map fun z => Value.int .u8 z) = Ev.tab := by kernel_rfl
theorem row0a : ((((begin Tryd.prog (fun _ _ => 0) default).world.heap[0]?).bind Obj.row?).map (·.2)) = some 188 := by kernel_rfl
theorem row0 : ∃ zero, (((begin Tryd.prog (fun _ _ => 0) default).world.heap[0]?).bind Obj.row?) = some (zero, 188) := by
  have h := row0a
  cases hb : ((begin Tryd.prog (fun _ _ => 0) default).world.heap[0]?).bind Obj.row? with
  | none => rw [hb] at h; cases h
  | some x =>
    rw [hb] at h
    obtain ⟨z, t⟩ := x
    have ht : t = 188 := Option.some.inj h
    exact ⟨z, by rw [ht]⟩
theorem tab_of_laid {W : World} (h : laidMetH Tryd.prog laid7 W) (hs : W.ShapedOpen Tryd.prog) : ∃ c, W.heap[0]? = some (.cells c 188) ∧ c.toList = Ev.tab := by
  rw [MakeChecks.laidMetH_plain _ _ _ (by kernel_rfl)] at h
  obtain ⟨zero, hz⟩ := row0
  obtain ⟨cs, h1, _, _⟩ := hs.1 0 zero 188 (Nat.le_of_ble_eq_true (show Nat.ble 1 Tryd.prog.globals.size = true by kernel_rfl)) hz
  refine ⟨cs, h1, ?_⟩
  have h2 := Lib.laidMet.reads h (.head _)
  rw [deb_eq] at h2
  obtain ⟨g, t, c2, fuel, p, hg, hty, hvar, hd⟩ := h2
  obtain rfl : g = 0 := Option.some.inj (hg.symm.trans (by kernel_rfl))
  obtain rfl := Option.some.inj ((show (Tryd.prog.globals[0]?).map (·.type) = some 188 by kernel_rfl).symm.trans hty)
  have hcs := Lib.cells_of_tab Tryd.underlying188 Tryd.underlying5 (by kernel_rfl) (by kernel_rfl) hd
  unfold World.var? at hvar
  rw [hg] at hvar
  simp only [Option.bind_some, h1] at hvar
  cases hvar
  rw [hcs, deb_tab]
theorem ownk : ownKnob Tryd.prog.godebug = none := by kernel_rfl
/-- The law's wrap: the listed variables and the world's shape are both at hand. -/
theorem wrap7 {H : Type} {enc : TypeId × Value → H} {a : Assume} {C : Checked} {os : Os} {f : FuncId} {fn : Func} {s : ChangeSpec} {conds : List PathCond} {apart fresh handsOn again : Bool} {X : World → Array Value → Prop}
    (hX : ∀ (w w' : World) (args : Array Value), w.heap = w'.heap → X w args → X w' args)
    (own : ownKnob C.prog.godebug = none) (started : os.Started) (noInit : C.prog.inits.idxOf? f = none) (hfn : C.prog.funcs[f]? = some fn)
    (witness : ∃ (w : World) (tape : Tape) (i : Input), w.os = os ∧ (w.forCall tape i).Shaped C.prog ∧ i.vars = [] ∧ Input.okWide C.prog (w.forCall tape i) .any w.heap.size f i ∧
      ((s.pre enc C.prog fn conds apart (w.forCall tape i).memory i.args ∧ X (w.forCall tape i).memory i.args) ∧ sizedMet enc C.prog fn (OpenSpec.ofChange s) apart (w.forCall tape i).memory i.args) ∧ a.holds C.prog (lone (Frame.enter C.prog f i.args .normal) [] (w.forCall tape i)))
    (contract : ∀ (W : World) (base : Nat) (args : Array Value) (ds gs : List (DataW H)) (before : List MemPlace),
      (∀ (j : Nat) t v, fn.params[j]? = some t → args[j]? = some v → Value.okWide C.prog W .any base t v) →
      DataW.Whole enc C.prog fn.params.toList s.vars apart W args.toList ds gs before → W.ShapedOpen C.prog → (DataW.weightsEach C.prog (fn.params.toList ++ s.plain.varTypes C.prog) (ds ++ gs)).all (· ≤ reachBytes) = true → X W args →
      Calls C.prog f args W fun e W' => ∃ v, e = .returned v ∧ s.post enc C.prog fn apart fresh handsOn again W args v W') :
    ReturnsInHanded a C os f .any (fun w args => (s.pre enc C.prog fn conds apart w args ∧ X w args) ∧ sizedMet enc C.prog fn (OpenSpec.ofChange s) apart w args) (s.post enc C.prog fn apart fresh handsOn again) := by
  refine returnsInHanded_of_calls own started noInit witness fun w tape i _ hsh _ hok hpre hholds => ?_
  obtain ⟨_, _, _, fn', hfn', _, _, _, _, hval⟩ := hok
  obtain rfl : fn' = fn := Option.some.inj (hfn'.symm.trans hfn)
  obtain ⟨⟨⟨ds, gs, before, hw, _⟩, hx⟩, hz⟩ := hpre
  refine (contract (w.forCall tape i) w.heap.size i.args ds gs before hval (DataW.Whole.of_heap (w' := w.forCall tape i) (by rfl) hw) hsh (hz.weights hw) (hX _ _ _ (by rfl) hx)).mono fun e W' ⟨v, he, hp⟩ => ?_
  subst he
  exact ChangeSpec.post_blind hp
end Go.Proofs.YtmgoedcaeemilaaDoor
