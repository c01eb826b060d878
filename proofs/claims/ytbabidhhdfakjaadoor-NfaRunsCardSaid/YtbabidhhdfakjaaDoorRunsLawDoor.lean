/- Proved: NfaRuns answers true for every automaton, every list of states, every list of classes and every place, hand-made ones too: closures, steps, what is taken, the ends and the longest end are, in the program, of a copy, what the document tells of the automaton itself, and the copy is left as it was (automata and lists that are longer than the law asks are only looked at by the closing check); and the argument reads behind the call as it did. Condition: the listed package-level variable of Go's library begins as the program's text lays it (the card ties it). -/
import Derived.Test.YtbabidhhdfakjaaDoorRunsWJoint
import Derived.Test.YtbabidhhdfakjaaDoorLaid6
import Derived.Test.YtbabidhhdfakjaaDoorTie
import Derived.Test.YtbabidhhdfakjaaDoorCards
import Derived.SevenTiedAt
import Derived.Carry
namespace Go.Proofs.YtbabidhhdfakjaaDoor
open Go.ChangeShapes Go.WideShapes Go.ChangeAt Go.RowKit Go.Deep

section
variable {H : Type} {enc : TypeId × Value → H} {W : World}
theorem trod4 {P : Program} {t : TypeId} {f0 f1 f2 f3 : Field} {fuel : Nat} {cs : List Value} {x : DataW H × List MemPlace} (ht : P.underlying t = some (.struct #[f0, f1, f2, f3])) (h : DataW.trod enc P W 0 (fun _ => true) true fuel t cs = some x) :
    ∃ y0 y1 y2 y3 n, x.1 = .agg [y0.1, y1.1, y2.1, y3.1] ∧ DataW.trod enc P W 0 (fun _ => true) true n f0.type ((cs.drop f0.offset).take (P.cellsOf f0.type)) = some y0 ∧ DataW.trod enc P W 0 (fun _ => true) true n f1.type ((cs.drop f1.offset).take (P.cellsOf f1.type)) = some y1 ∧
      DataW.trod enc P W 0 (fun _ => true) true n f2.type ((cs.drop f2.offset).take (P.cellsOf f2.type)) = some y2 ∧ DataW.trod enc P W 0 (fun _ => true) true n f3.type ((cs.drop f3.offset).take (P.cellsOf f3.type)) = some y3 := by
  obtain ⟨xs, n, _, rfl, hl, hlen, hf⟩ := DataW.trod_struct ht h
  match xs, hlen with
  | [y0, y1, y2, y3], _ => exact ⟨y0, y1, y2, y3, n, by simp, by simpa using hf 0 f0 rfl, by simpa using hf 1 f1 rfl, by simpa using hf 2 f2 rfl, by simpa using hf 3 f3 rfl⟩
theorem run_open {n : Nat} {cs : List Value} {x : DataW H × List MemPlace} (hl : cs.length = 6) (h : DataW.trod enc Tryd.prog W 0 (fun _ => true) true n 50 cs = some x) (hw : ∀ q ∈ x.1.weights Tryd.prog 50, q ≤ reachBytes) :
    ∃ (so : Option Addr) (sc : Nat) (L : List St) (s f : Int) (lo : Option Addr) (lc : Nat) (l : List Int) (co : Option Addr) (cc : Nat) (c : List Int) (z : Int), cs = [.slice so L.length sc, .int .i64 s, .int .i64 f, .slice lo l.length lc, .slice co c.length cc, .int .i64 z] ∧ RdS W so L ∧ L.length ≤ most ∧ RdI W lo l ∧ l.length ≤ most ∧ RdI W co c ∧ c.length ≤ most := by
  match cs, hl with
  | [v0, v1, v2, v3, v4, v5], _ =>
  obtain ⟨y0, y1, y2, y3, m, hx, h0, h1, h2, h3⟩ := trod4 Tryd.underlying50 h
  have e0 : ([v0, v1, v2, v3, v4, v5].drop 0).take (Tryd.prog.cellsOf 28) = [v0, v1, v2] := by rw [show Tryd.prog.cellsOf 28 = 3 by kernel_rfl]; rfl
  have e1 : ([v0, v1, v2, v3, v4, v5].drop 3).take (Tryd.prog.cellsOf 22) = [v3] := by rw [show Tryd.prog.cellsOf 22 = 1 by kernel_rfl]; rfl
  have e2 : ([v0, v1, v2, v3, v4, v5].drop 4).take (Tryd.prog.cellsOf 22) = [v4] := by rw [show Tryd.prog.cellsOf 22 = 1 by kernel_rfl]; rfl
  have e3 : ([v0, v1, v2, v3, v4, v5].drop 5).take (Tryd.prog.cellsOf 3) = [v5] := by rw [show Tryd.prog.cellsOf 3 = 1 by kernel_rfl]; rfl
  have h0' : DataW.trod enc Tryd.prog W 0 (fun _ => true) true m 28 (([v0, v1, v2, v3, v4, v5].drop 0).take (Tryd.prog.cellsOf 28)) = some y0 := h0
  have h1' : DataW.trod enc Tryd.prog W 0 (fun _ => true) true m 22 (([v0, v1, v2, v3, v4, v5].drop 3).take (Tryd.prog.cellsOf 22)) = some y1 := h1
  have h2' : DataW.trod enc Tryd.prog W 0 (fun _ => true) true m 22 (([v0, v1, v2, v3, v4, v5].drop 4).take (Tryd.prog.cellsOf 22)) = some y2 := h2
  have h3' : DataW.trod enc Tryd.prog W 0 (fun _ => true) true m 3 (([v0, v1, v2, v3, v4, v5].drop 5).take (Tryd.prog.cellsOf 3)) = some y3 := h3
  rw [e0] at h0'
  rw [e1] at h1'
  rw [e2] at h2'
  rw [e3] at h3'
  have hww : ∀ q, q ∈ y0.1.weights Tryd.prog 28 ∨ q ∈ y1.1.weights Tryd.prog 22 ∨ q ∈ y2.1.weights Tryd.prog 22 → q ≤ reachBytes := fun q hq => hw q (by
    rw [hx]
    simp only [DataW.weights, Tryd.underlying50, DataW.weightsEach, List.map_cons, List.mem_append]
    rcases hq with h | h | h
    · exact .inl h
    · exact .inr (.inl h)
    · exact .inr (.inr (.inl h)))
  obtain ⟨so, sc, L, s, f, g0, g1, g2⟩ := nfa_open rfl h0' (fun q hq => hww q (.inl hq))
  obtain ⟨lo, lc, l, g3, g4, g5⟩ := ints_open h1' (fun q hq => hww q (.inr (.inl hq)))
  obtain ⟨co, cc, c, g6, g7, g8⟩ := ints_open h2' (fun q hq => hww q (.inr (.inr hq)))
  obtain ⟨z, hz, _⟩ := DataW.trod_int Tryd.underlying3 h3'
  injection hz with hz' _
  simp only [List.cons.injEq, and_true] at g0
  obtain ⟨rfl, rfl, rfl⟩ := g0
  exact ⟨so, sc, L, s, f, lo, lc, l, co, cc, c, z, by rw [g3, g6, hz'], g1, g2, g4, g5, g7, g8⟩
end
theorem laidOutR : laidOutB Tryd.prog = true := by kernel_rfl
set_option maxRecDepth 100000 in
theorem nfaRuns_lifted (os : Os) (started : os.Started) (H : Type) (enc : TypeId × Value → H) :
    ReturnsInHanded {} Tryd.checked os 6 .any (fun w args => (Rows.nfaRunsSpec.pre enc Tryd.prog Tryd.f6 [] false w args ∧ laidMetH Tryd.prog laid6 w) ∧ sizedMet enc Tryd.prog Tryd.f6 (OpenSpec.ofChange Rows.nfaRunsSpec) false w args)
      (Rows.nfaRunsSpec.post enc Tryd.prog Tryd.f6 false true false false) := by
  refine wrap6 (C := Tryd.checked) (X := fun w _ => laidMetH Tryd.prog laid6 w) (fun _ _ _ hh h => h.of_heap hh) own started (by kernel_rfl) Tryd.func6
    (ChangeSpec.witness_shaped (enc := enc) (C := Tryd.checked) (os := os) (X := fun w _ => laidMetH Tryd.prog laid6 w) false (World.laidAll Tryd.prog os laid6) #[.agg #[.slice none 0 0, .int .i64 0, .int .i64 0, .slice none 0 0, .slice none 0 0, .int .i64 0]] 8 (World.laidAll_os _ _ _)
      (World.shaped_of_ZipB (by kernel_rfl) (by kernel_rfl)) (by kernel_rfl) (by kernel_rfl) (by kernel_rfl)
      (by rw [MakeChecks.laidMetH_plain _ _ _ (by kernel_rfl)]; exact laidMet_laidAll _ (by kernel_rfl) (by kernel_rfl))) ?_
  intro W base args ds gs before hval0 hW hsh hsz0 hL
  have hval : ∀ (j : Nat) t v, Tryd.f6.params[j]? = some t → args[j]? = some v → Value.okWide Tryd.prog W .any base t v := hval0
  have hW' := hW
  obtain ⟨p, q, hA0, hV, rfl, hfz, hnd⟩ := hW
  have hA : DataW.TrodAll enc Tryd.prog W 0 (fun _ => true) true Tryd.f6.params.toList args.toList ds p := hA0
  rw [Tryd.params6] at hA hval
  obtain ⟨v0, d0, rfl, rfl, h0⟩ := trodAll_one hA
  obtain ⟨rfl, rfl⟩ := trodVars_none hV
  have hsz : (DataW.weightsEach Tryd.prog [50] [d0]).all (· ≤ reachBytes) = true := hsz0
  have k0 := h0
  have lt0 : ∀ x ∈ p, x.block < W.heap.size := by obtain ⟨m, hm⟩ := k0; exact DataW.trod_lt m _ _ _ hm
  have htb := tab_of_laid hL hsh
  obtain ⟨cs, rfl, hcs⟩ := okWide_struct Tryd.underlying50 (hval 0 50 v0 rfl rfl)
  rw [show Tryd.prog.cellsOf 50 = 6 by kernel_rfl] at hcs
  obtain ⟨l⟩ := cs
  obtain ⟨fuel, hf⟩ := h0
  obtain ⟨so, sc, L, s, f, lo, lc, l1, co, cc, c, z, hl, hS, hLm, hL1, hL1m, hC, hCm⟩ := run_open (cs := l) (by simpa using hcs) hf (fun q hq => by
    have h1 := List.all_eq_true.1 hsz q (DataW.weights_mem_each (j := 0) rfl rfl q hq)
    simpa using h1)
  subst hl
  clear hA0 hval0
  refine (runs_main so sc L.length L s f lo l1.length lc l1 co c.length cc c z W rfl hS hLm hC rfl hL1 rfl hCm hL1m htb).mono fun e W' ⟨he, bel⟩ => ?_
  subst he
  exact ⟨_, rfl, _, _, _, [], _, [], hW', trodAll_mk1 (shut_bool Tryd.underlying4 _), trodAll_mk1 (Below.trod laidOutR (by kernel_rfl) (of_decide_eq_true (by kernel_rfl)) k0 bel lt0), rfl, bel.frame _, fun h => by cases h⟩

theorem nfaRuns_holds : Rows.NfaRunsSaid :=
  OpenClaim.holds_of_wide 6 Tryd.f6 rfl rfl rfl rfl rfl rfl rfl ⟨rfl, rfl, rfl, rfl, rfl⟩ rfl rfl rfl rfl rfl (by kernel_rfl) Tryd.func6 (by kernel_rfl)
    (of_decide_eq_true (by kernel_rfl)) (by unfold Func.isWrapper; first | (rw [if_pos (by decide +kernel)]; kernel_rfl) | (rw [if_neg (by decide +kernel)]; exact ⟨rfl, rfl⟩))
    (fun os started H enc _ => nfaRuns_lifted os started H enc)

theorem nfaRuns_proved : Rows.NfaRunsCardSaid :=
  Claim7.holds_tied_plain_at .later [] [.data] true Rows.nfaRunsCard.stood.harness false
    nfaRuns_holds (fun _ h => by cases h) (by kernel_rfl) (fun _ h => by cases h) nfaRuns_row_tie rfl ⟨rfl, rfl⟩ (by kernel_rfl) rfl
    (fun f fn hf hfn => by
      obtain rfl : f = 6 := Option.some.inj ((show Tryd.prog.funcNamed Rows.nfaRunsRow.func = some 6 by kernel_rfl).symm.trans hf) |>.symm
      obtain rfl : fn = Tryd.f6 := (Option.some.inj (Tryd.func6.symm.trans hfn)).symm
      exact ⟨by kernel_rfl, fun j t ht => by
        rw [Tryd.params6] at ht
        have hm : t ∈ [50] := by simpa using Array.mem_of_getElem? ht
        have hall : ([50].all fun u => !Tryd.prog.wantsStandIn u) = true := by kernel_rfl
        exact (show Tryd.prog.wantsStandIn t = false by simpa using List.all_eq_true.1 hall t hm)⟩)
    (by kernel_rfl)
#print axioms nfaRuns_proved
end Go.Proofs.YtbabidhhdfakjaaDoor
