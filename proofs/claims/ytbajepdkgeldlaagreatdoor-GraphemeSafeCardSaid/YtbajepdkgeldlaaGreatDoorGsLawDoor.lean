/- Proved: GraphemeSafe answers true for every three texts and every place: whether the place is safe is what the document finds of the classes ahead and behind, and at a safe place nothing ahead of the text or behind it changes whether it is a bound (texts of more than a hundred and twenty bytes in all are only looked at by the closing check); and the arguments read behind the call as they did. Condition: the listed package-level variables of Go's library (the two tables of package unicode/utf8) begin as the program's text lays them (the card ties them). -/
import Derived.ShutString
import Derived.Test.YtbajepdkgeldlaaGreatDoorTie
import Derived.Test.YtbajepdkgeldlaaGreatDoorCards
import Derived.Test.YtbajepdkgeldlaaGreatDoorSGsW
import Derived.Test.YtbajepdkgeldlaaGreatDoorSBrLaid
namespace Go.Proofs.YtbajepdkgeldlaaGreatDoor
open Go.ChangeShapes Go.WideShapes Go.ChangeAt Go.RowKit
open Go.ChangeMaps (open_string shut_string)
theorem laidOutS : laidOutB Tryz.prog = true := by kernel_rfl
set_option maxHeartbeats 2000000 in
set_option maxRecDepth 100000 in
theorem graphemeSafe_lifted (os : Os) (started : os.Started) (H : Type) (enc : TypeId × Value -> H) :
  ReturnsInHanded {} Tryz.checked os 7 .any (fun w args => (Rows.graphemeSafeSpec.pre enc Tryz.prog Tryz.f7 [] false w args /\ laidMetH Tryz.prog laid7 w) /\ sizedMet enc Tryz.prog Tryz.f7 (OpenSpec.ofChange Rows.graphemeSafeSpec) false w args)
   (Rows.graphemeSafeSpec.post enc Tryz.prog Tryz.f7 false true false false) := by
 refine wrap7 (C := Tryz.checked) (X := fun w _ => laidMetH Tryz.prog laid7 w) (fun _ _ _ hh h => h.of_heap hh) ownk started (by kernel_rfl) Tryz.func7
  (ChangeSpec.witness_shaped (enc := enc) (C := Tryz.checked) (os := os) (X := fun w _ => laidMetH Tryz.prog laid7 w) false (World.laidAll Tryz.prog os laid7) #[.string ⟨#[]⟩, .string ⟨#[]⟩, .string ⟨#[]⟩, .int .i64 0] 8 (World.laidAll_os _ _ _)
   (World.shaped_of_ZipB (by kernel_rfl) (by kernel_rfl)) (by kernel_rfl) (by kernel_rfl) (by kernel_rfl)
   (by rw [MakeChecks.laidMetH_plain _ _ _ (by kernel_rfl)]; exact laidMet_laidAll _ (by kernel_rfl) (by kernel_rfl))) ?_
 intro W base args ds gs before hval0 hW hsh hsz0 hL
 have hval : ∀ (j : Nat) t v, Tryz.f7.params[j]? = some t -> args[j]? = some v -> Value.okWide Tryz.prog W .any base t v := hval0
 have hW' := hW
 obtain ⟨p, q, hA0, hV, rfl, hfz, hnd⟩ := hW
 have hA : DataW.TrodAll enc Tryz.prog W 0 (fun _ => true) true Tryz.f7.params.toList args.toList ds p := hA0
 rw [Tryz.params7] at hA hval
 obtain ⟨v0, v1, v2, v3, d0, d1, d2, d3, p0, p1, p2, p3, rfl, rfl, rfl, h0, h1, h2, h3⟩ := trodAll_four hA
 obtain ⟨rfl, rfl⟩ := trodVars_none hV
 have hsz : (DataW.weightsEach Tryz.prog [9, 9, 9, 3] [d0, d1, d2, d3]).all (· <= reachBytes) = true := hsz0
 have k0 := h0
 have k1 := h1
 have k2 := h2
 have k3 := h3
 have lt0 : ∀ x ∈ p0, x.block < W.heap.size := by obtain ⟨m, hm⟩ := k0; exact DataW.trod_lt m _ _ _ hm
 have lt1 : ∀ x ∈ p1, x.block < W.heap.size := by obtain ⟨m, hm⟩ := k1; exact DataW.trod_lt m _ _ _ hm
 have lt2 : ∀ x ∈ p2, x.block < W.heap.size := by obtain ⟨m, hm⟩ := k2; exact DataW.trod_lt m _ _ _ hm
 have lt3 : ∀ x ∈ p3, x.block < W.heap.size := by obtain ⟨m, hm⟩ := k3; exact DataW.trod_lt m _ _ _ hm
 have htb := tb_of_laid hL hsh
 obtain ⟨s0, rfl, rfl, rfl, ws0⟩ := open_string Tryz.underlying9 (hval 0 9 v0 rfl rfl) h0
 obtain ⟨a, rfl⟩ : ∃ l : List UInt8, s0 = ⟨l.toArray⟩ := ⟨s0.data.toList, by simp⟩
 have hl0 : a.length <= 1000000000000000 := by
  have h := List.all_eq_true.1 hsz a.length (by simp [DataW.weightsEach, DataW.weights])
  have h' : a.length <= reachBytes := by simpa using h
  unfold reachBytes at h'
  omega
 obtain ⟨s1, rfl, rfl, rfl, ws1⟩ := open_string Tryz.underlying9 (hval 1 9 v1 rfl rfl) h1
 obtain ⟨s, rfl⟩ : ∃ l : List UInt8, s1 = ⟨l.toArray⟩ := ⟨s1.data.toList, by simp⟩
 have hl1 : s.length <= 1000000000000000 := by
  have h := List.all_eq_true.1 hsz s.length (by simp [DataW.weightsEach, DataW.weights])
  have h' : s.length <= reachBytes := by simpa using h
  unfold reachBytes at h'
  omega
 obtain ⟨s2, rfl, rfl, rfl, ws2⟩ := open_string Tryz.underlying9 (hval 2 9 v2 rfl rfl) h2
 obtain ⟨b, rfl⟩ : ∃ l : List UInt8, s2 = ⟨l.toArray⟩ := ⟨s2.data.toList, by simp⟩
 have hl2 : b.length <= 1000000000000000 := by
  have h := List.all_eq_true.1 hsz b.length (by simp [DataW.weightsEach, DataW.weights])
  have h' : b.length <= reachBytes := by simpa using h
  unfold reachBytes at h'
  omega
 obtain ⟨z, rfl, _, wz3⟩ := open_int Tryz.underlying3 (hval 3 3 v3 rfl rfl) h3
 clear hA0 hval0
 refine (Br.gs_walk a s b z hl0 hl1 hl2 W htb).mono fun e W' ⟨he, bel⟩ => ?_
 subst he
 exact ⟨_, rfl, _, _, _, [], _, [], hW', trodAll_mk1 (shut_bool Tryz.underlying4 _), trodAll_mk4 (Below.trod laidOutS (by kernel_rfl) (of_decide_eq_true (by kernel_rfl)) k0 bel lt0) (Below.trod laidOutS (by kernel_rfl) (of_decide_eq_true (by kernel_rfl)) k1 bel lt1) (Below.trod laidOutS (by kernel_rfl) (of_decide_eq_true (by kernel_rfl)) k2 bel lt2) (Below.trod laidOutS (by kernel_rfl) (of_decide_eq_true (by kernel_rfl)) k3 bel lt3), rfl, bel.frame _, fun h => by cases h⟩
theorem graphemeSafe_holds : Rows.GraphemeSafeSaid :=
 OpenClaim.holds_of_wide 7 Tryz.f7 rfl rfl rfl rfl rfl rfl rfl ⟨rfl, rfl, rfl, rfl, rfl⟩ rfl rfl rfl rfl rfl (by kernel_rfl) Tryz.func7 (by kernel_rfl)
  (of_decide_eq_true (by kernel_rfl)) (by unfold Func.isWrapper; first | (rw [if_pos (by decide +kernel)]; kernel_rfl) | (rw [if_neg (by decide +kernel)]; exact ⟨rfl, rfl⟩))
  (fun os started H enc _ => graphemeSafe_lifted os started H enc)
theorem graphemeSafe_proved : Rows.GraphemeSafeCardSaid :=
 Claim7.holds_tied_plain_at .later [] [.data, .pinned] true Rows.graphemeSafeCard.stood.harness false
  graphemeSafe_holds (fun _ h => by cases h) (by kernel_rfl) (fun _ h => by cases h) graphemeSafe_row_tie rfl ⟨rfl, rfl⟩ (by kernel_rfl) rfl
  (fun f fn hf hfn => by
   obtain rfl : f = 7 := Option.some.inj ((show Tryz.prog.funcNamed Rows.graphemeSafeRow.func = some 7 by kernel_rfl).symm.trans hf) |>.symm
   obtain rfl : fn = Tryz.f7 := (Option.some.inj (Tryz.func7.symm.trans hfn)).symm
   exact ⟨by kernel_rfl, fun j t ht => by
    rw [Tryz.params7] at ht
    have hm : t ∈ [9, 9, 9, 3] := by simpa using Array.mem_of_getElem? ht
    have hall : ([9, 9, 9, 3].all fun u => !Tryz.prog.wantsStandIn u) = true := by kernel_rfl
    exact (show Tryz.prog.wantsStandIn t = false by simpa using List.all_eq_true.1 hall t hm)⟩)
  (by kernel_rfl)
#print axioms graphemeSafe_proved
end Go.Proofs.YtbajepdkgeldlaaGreatDoor
