/- Proved: UtfScans answers true for every list of pieces: what utf's Scanner tells of bytes that are fed piece by piece is, feed by feed and close by close, what the document's Scanner tells, what it holds is the same and at most three bytes, the pieces are not changed and not kept, and behind every Close what was told is the marks of all that was fed (more than 200 pieces or 2000 bytes are only looked at by the closing check); and the pieces read behind the call as they did. Condition: the two tables of package unicode/utf8 begin as the program's text lays them (the card ties them). -/
import Derived.Test.YtflehkdijfhmgabDoorScans
import Derived.Test.YtflehkdijfhmgabDoorTie
import Derived.Test.YtflehkdijfhmgabDoorCards
import Derived.Deep.SlicePairs
import Derived.ChangeSlices
import Derived.ChangeArms
import Derived.SizedLaws
import Derived.OpenShut
import Derived.Lay
import Derived.SevenTiedAt
namespace Go.Proofs.YtflehkdijfhmgabDoor
open Go.ChangeShapes Go.WideShapes Go.ChangeAt Go.RowKit Go.Deep

theorem weights_all {H : Type} {P : Program} {e : TypeId} : ∀ {l : List (DataW H)} {d : DataW H} {n : Nat}, d ∈ l → n ∈ d.weights P e → n ∈ DataW.weightsAll P e l
  | _ :: _, _, _, .head _, hn => by simp only [DataW.weightsAll, List.mem_append]; exact Or.inl hn
  | _ :: _, _, _, .tail _ h, hn => by simp only [DataW.weightsAll, List.mem_append]; exact Or.inr (weights_all h hn)
theorem bytes5 : Tryd.prog.bytesOf 5 = 1 := by kernel_rfl
theorem byte_of (z : Int) (h : (Lit.int .u8 z).wf = true) : ((UInt8.ofNat z.toNat).toNat : Int) = z := by
  have h1 : (IntKind.u8.min ≤ z ∧ z ≤ IntKind.u8.max) := by simpa [Lit.wf] using h
  have h2 : IntKind.u8.min = 0 := by decide
  have h3 : IntKind.u8.max = 255 := by decide
  rw [h2, h3] at h1
  have : (UInt8.ofNat z.toNat).toNat = z.toNat := by simp [UInt8.toNat_ofNat']; omega
  rw [this]; omega
theorem cell_lt {W : World} {a : Addr} {v : Value} (h : W.cell? a = some v) : a.block < W.heap.size := by
  rcases Nat.lt_or_ge a.block W.heap.size with hlt | hge
  · exact hlt
  · exfalso
    have hn : W.heap[a.block]? = none := Array.getElem?_eq_none hge
    simp [World.cell?, hn] at h

/-- One piece, opened. -/
theorem piece_open {H : Type} {enc : TypeId × Value → H} {W : World} {n : Nat} {v0 v1 : Value} {x0 x1 : DataW H × List MemPlace}
    (h0 : DataW.trod enc Tryd.prog W 0 (fun _ => true) true n 30 [v0] = some x0) (h1 : DataW.trod enc Tryd.prog W 0 (fun _ => true) true n 4 [v1] = some x1) :
    ∃ pc : Pc, v0 = .slice pc.ao pc.B.length pc.cap ∧ v1 = .bool pc.cl ∧ (pc.ao = none → pc.cap = 0) ∧ RdB W pc.ao pc.B ∧ (pc.B.length = 0 ∨ ∃ m, pc.B.length ≤ m ∧ m ∈ x0.1.weights Tryd.prog 30) := by
  obtain ⟨b, hb, _⟩ := DataW.trod_bool Tryd.underlying4 h1
  cases hb
  rcases Go.ChangeShapes.open_ints Tryd.underlying30 Tryd.underlying5 (by kernel_rfl) h0 with ⟨hv, _⟩ | ⟨a, len, cap, zs, hv, _, hlc, _, hzl, hx, hcells, hwf⟩
  · cases hv
    exact ⟨⟨[], none, 0, b⟩, rfl, rfl, fun _ => rfl, fun k z hk => (by cases hk), .inl rfl⟩
  · cases hv
    have hle : len ≤ zs.length := by rw [hzl]; split <;> omega
    have hlen : ((zs.take len).map fun z => UInt8.ofNat z.toNat).length = len := by rw [List.length_map, List.length_take]; omega
    refine ⟨⟨(zs.take len).map fun z => UInt8.ofNat z.toNat, some a, cap, b⟩, by rw [hlen], rfl, fun h => (by cases h), fun k z hk => ?_, .inr ⟨zs.length, ?_, ?_⟩⟩
    · rw [List.getElem?_map, List.getElem?_take] at hk
      split at hk
      · rename_i hkl
        cases hz : zs[k]? with
        | none => rw [hz] at hk; cases hk
        | some y =>
          rw [hz] at hk
          cases hk
          have hkz : k < zs.length := (List.getElem?_eq_some_iff.1 hz).1
          have hc := hcells k hkz
          have hy : zs.getD k 0 = y := by simp [List.getD, hz]
          rw [hy] at hc
          have hlt := cell_lt hc
          rw [add_blk] at hlt
          exact ⟨a, rfl, hlt, by rw [byte_of y (hwf y (List.mem_of_getElem? hz))]; exact hc⟩
      · cases hk
    · show ((zs.take len).map fun z => UInt8.ofNat z.toNat).length ≤ _
      rw [hlen]; exact hle
    · rw [hx]
      have e : (lits .u8 (zs.take len) : List (DataW H)).length + (lits .u8 (zs.drop len) : List (DataW H)).length = zs.length := by simp [lits]; omega
      simp only [DataW.weights, Tryd.underlying30, bytes5, e, Nat.mul_one]
      exact List.mem_cons_self

/-- All pieces, opened. -/
theorem pieces_open {H : Type} {enc : TypeId × Value → H} {W : World} {v : Value} {d : DataW H} {ps : List MemPlace} (h : DataW.Trod enc Tryd.prog W 0 (fun _ => true) true 29 v d ps) (hv : ∃ a b c, v = .slice a b c)
    (hsz : (DataW.weightsEach Tryd.prog [29] [d]).all (· ≤ reachBytes) = true) :
    ∃ (lo : Option Addr) (lcap : Nat) (P : List Pc), v = .slice lo P.length lcap ∧ InP W lo P ∧ ∀ (k : Nat) (pc : Pc), P[k]? = some pc → pc.B.length ≤ 1125899906842624 := by
  obtain ⟨sa, sl, sc, rfl⟩ := hv
  obtain ⟨m, hm⟩ := h
  rcases open_slice_pairs Tryd.underlying29 Tryd.underlying32 (by kernel_rfl) rfl rfl (by kernel_rfl) (by kernel_rfl) hm with ⟨hv, _⟩ | ⟨a, len, cap, m', n, V0, V1, D0, D1, P0, P1, hv, _, hlc, _, hmm, hd, hcells⟩
  · have hv' : [Value.slice sa sl sc] = [.slice none 0 0] := hv
    cases hv'
    exact ⟨none, 0, [], rfl, fun i pc hi => (by cases hi), fun k pc hk => (by cases hk)⟩
  · have hv' : [Value.slice sa sl sc] = [.slice (some a) len cap] := hv
    cases hv'
    have hm' : m' = sc := hmm
    have hd' : d = .slice ((List.range sl).map fun i => .agg [D0 i, D1 i]) ((List.range (m' - sl)).map fun j => .agg [D0 (sl + j), D1 (sl + j)]) := congrArg Prod.fst hd
    have hex : ∀ i : Fin sl, ∃ pc : Pc, V0 i.1 = .slice pc.ao pc.B.length pc.cap ∧ V1 i.1 = .bool pc.cl ∧ (pc.ao = none → pc.cap = 0) ∧ RdB W pc.ao pc.B ∧ (pc.B.length = 0 ∨ ∃ m, pc.B.length ≤ m ∧ m ∈ (D0 i.1).weights Tryd.prog 30) := fun i => by
      obtain ⟨_, _, h0, h1⟩ := hcells i.1 (by omega)
      exact piece_open h0 h1
    refine ⟨some a, sc, List.ofFn fun i => Classical.choose (hex i), by rw [List.length_ofFn], fun i pc hi => ?_, fun i pc hi => ?_⟩
    · rw [List.getElem?_ofFn] at hi
      split at hi
      · rename_i hil
        cases hi
        obtain ⟨e0, e1, e2, e3, _⟩ := Classical.choose_spec (hex ⟨i, hil⟩)
        obtain ⟨c0, c1, _, _⟩ := hcells i (by omega)
        have hlt := cell_lt c0
        rw [add_blk] at hlt
        exact ⟨a, rfl, hlt, by rw [c0]; exact congrArg some e0, by rw [c1]; exact congrArg some e1, e2, e3⟩
      · cases hi
    · rw [List.getElem?_ofFn] at hi
      split at hi
      · rename_i hil
        cases hi
        obtain ⟨_, _, _, _, e4⟩ := Classical.choose_spec (hex ⟨i, hil⟩)
        rcases e4 with e4 | ⟨q, h1, h2⟩
        · omega
        · have hq : q ∈ DataW.weightsEach Tryd.prog [29] [d] := by
            refine DataW.weights_mem_each (j := 0) rfl rfl q ?_
            rw [hd']
            simp only [DataW.weights, Tryd.underlying29, List.mem_cons, List.mem_append]
            refine Or.inr (Or.inl (weights_all (d := .agg [D0 i, D1 i]) (List.mem_map.2 ⟨i, List.mem_range.2 hil, rfl⟩) ?_))
            simp only [DataW.weights, Tryd.underlying32, DataW.weightsEach, List.map_cons, List.mem_append]
            exact Or.inl h2
          have := List.all_eq_true.1 hsz q hq
          have hr := reachBytes_lt
          simp at this
          omega
      · cases hi

set_option maxRecDepth 100000 in
theorem scans_lifted (os : Os) (started : os.Started) (H : Type) (enc : TypeId × Value → H) :
    ReturnsInHanded {} Tryd.checked os 4 .any (fun w args => (Rows.utfScansSpec.pre enc Tryd.prog Tryd.f4 [] false w args ∧ laidMetH Tryd.prog laid2 w) ∧ sizedMet enc Tryd.prog Tryd.f4 (OpenSpec.ofChange Rows.utfScansSpec) false w args)
      (Rows.utfScansSpec.post enc Tryd.prog Tryd.f4 false true false false) := by
  refine returnsInHanded_of_change_and (C := Tryd.checked) (X := fun w _ => laidMetH Tryd.prog laid2 w) (fun _ _ _ hh h => h.of_heap hh) own started (by kernel_rfl) Tryd.func4
    (ChangeSpec.witness_shaped (enc := enc) (C := Tryd.checked) (os := os) (X := fun w _ => laidMetH Tryd.prog laid2 w) false (World.laidAll Tryd.prog os laid2) #[.slice none 0 0] 8 (World.laidAll_os _ _ _)
      (World.shaped_of_ZipB (by kernel_rfl) (by kernel_rfl)) (by kernel_rfl) (by kernel_rfl) (by kernel_rfl)
      (by rw [MakeChecks.laidMetH_plain _ _ _ (by kernel_rfl)]; exact laidMet_laidAll _ (by kernel_rfl) (by kernel_rfl))) ?_
  intro W base args ds gs before hval0 hW _ hsz0 hL _
  have hval : ∀ (j : Nat) t v, Tryd.f4.params[j]? = some t → args[j]? = some v → Value.okWide Tryd.prog W .any base t v := hval0
  have hW' := hW
  obtain ⟨p, q, hA0, hV, rfl, hfz, hnd⟩ := hW
  have hA : DataW.TrodAll enc Tryd.prog W 0 (fun _ => true) true Tryd.f4.params.toList args.toList ds p := hA0
  rw [Tryd.params4] at hA hval
  obtain ⟨v0, d0, rfl, rfl, h0⟩ := trodAll_one hA
  obtain ⟨rfl, rfl⟩ := trodVars_none hV
  have hsz : (DataW.weightsEach Tryd.prog [29] [d0]).all (· ≤ reachBytes) = true := hsz0
  have k0 := h0
  have lt0 : ∀ x ∈ p, x.block < W.heap.size := by obtain ⟨m, hm⟩ := k0; exact DataW.trod_lt m _ _ _ hm
  obtain ⟨hT, h2⟩ := tabs_of_laid hL
  obtain ⟨lo, lcap, P, rfl, hP, hPs⟩ := pieces_open k0 (okWide_slice Tryd.underlying29 (hval 0 29 v0 rfl rfl)) hsz
  clear hA0 hval0
  refine (scans_walk lo lcap P W hT h2 hP hPs).mono fun e W' ⟨he, bel⟩ => ?_
  subst he
  exact ⟨_, rfl, _, _, _, [], _, [], hW', trodAll_mk1 (shut_bool Tryd.underlying4 _), trodAll_mk1 (Below.trod laidOut (by kernel_rfl) (of_decide_eq_true (by kernel_rfl)) k0 bel lt0), rfl, bel.frame _, fun h => by cases h⟩

theorem scans_holds : Rows.UtfScansSaid :=
  OpenClaim.holds_of_wide 4 Tryd.f4 rfl rfl rfl rfl rfl rfl rfl ⟨rfl, rfl, rfl, rfl, rfl⟩ rfl rfl rfl rfl rfl (by kernel_rfl) Tryd.func4 (by kernel_rfl)
    (of_decide_eq_true (by kernel_rfl)) (by unfold Func.isWrapper; first | (rw [if_pos (by decide +kernel)]; kernel_rfl) | (rw [if_neg (by decide +kernel)]; exact ⟨rfl, rfl⟩))
    (fun os started H enc _ => scans_lifted os started H enc)

theorem utfScans_proved : Rows.UtfScansCardSaid :=
  Claim7.holds_tied_plain_at .later [] [.data, .pinned] true Rows.utfScansCard.stood.harness false
    scans_holds (fun _ h => by cases h) (by kernel_rfl) (fun _ h => by cases h) utfScans_row_tie rfl ⟨rfl, rfl⟩ (by kernel_rfl) rfl
    (fun f fn hf hfn => by
      obtain rfl : f = 4 := Option.some.inj ((show Tryd.prog.funcNamed Rows.utfScansRow.func = some 4 by kernel_rfl).symm.trans hf) |>.symm
      obtain rfl : fn = Tryd.f4 := (Option.some.inj (Tryd.func4.symm.trans hfn)).symm
      exact ⟨by kernel_rfl, fun j t ht => by
        rw [Tryd.params4] at ht
        have hm : t ∈ [29] := by simpa using Array.mem_of_getElem? ht
        have hall : ([29].all fun u => !Tryd.prog.wantsStandIn u) = true := by kernel_rfl
        exact (show Tryd.prog.wantsStandIn t = false by simpa using List.all_eq_true.1 hall t hm)⟩)
    (by kernel_rfl)
#print axioms utfScans_proved
end Go.Proofs.YtflehkdijfhmgabDoor
