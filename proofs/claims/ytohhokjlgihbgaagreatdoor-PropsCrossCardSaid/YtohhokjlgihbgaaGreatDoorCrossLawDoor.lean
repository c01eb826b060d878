/- Proved: PropsCross answers true for every two texts and every list of numbers: of the two databases that props.New reads out of them Cross makes the one that the document makes, with its names, ranges, text, sets and classes, or tells the document's error; two numbers have one class of it just if they have one of both (texts of over 4000 bytes and lists of over 60 numbers are only looked at by the closing check); its arguments read behind the call as they did. Condition: the listed package-level variables of Go's library begin as the program's text lays them (the card ties them). -/
import Derived.Test.YtohhokjlgihbgaaGreatDoorFLaid4
import Derived.Test.YtohhokjlgihbgaaGreatDoorFStands
import Derived.ChangeArms
import Derived.OpenShut
import Derived.Test.YtohhokjlgihbgaaGreatDoorTie
import Derived.Test.YtohhokjlgihbgaaGreatDoorCards
import Derived.SevenTiedAt
import Derived.Carry
import Derived.ShutString
namespace Go.Proofs.YtohhokjlgihbgaaGreatDoor
open Go.ChangeShapes Go.WideShapes Go.ChangeAt Go.RowKit Go.Deep
open Go.ChangeMaps (open_string shut_string)

set_option maxRecDepth 100000 in
theorem propsCross_lifted (os : Os) (started : os.Started) (H : Type) (enc : TypeId × Value → H) :
    ReturnsInHanded {} Tryz.checked os 7 .any (fun w args => (Rows.propsCrossSpec.pre enc Tryz.prog Tryz.f7 [] false w args ∧ laidMetH Tryz.prog laid2 w) ∧ sizedMet enc Tryz.prog Tryz.f7 (OpenSpec.ofChange Rows.propsCrossSpec) false w args)
      (Rows.propsCrossSpec.post enc Tryz.prog Tryz.f7 false true false false) := by
  refine wrap4 (C := Tryz.checked) (X := fun w _ => laidMetH Tryz.prog laid2 w) (fun _ _ _ hh h => h.of_heap hh) own started (by kernel_rfl) Tryz.func7
    (ChangeSpec.witness_shaped (enc := enc) (C := Tryz.checked) (os := os) (X := fun w _ => laidMetH Tryz.prog laid2 w) false (World.laidAll Tryz.prog os laid2) #[.string ⟨#[]⟩, .string ⟨#[]⟩, .slice none 0 0] 8 (World.laidAll_os _ _ _)
      (World.shaped_of_ZipB (by kernel_rfl) (by kernel_rfl)) (by kernel_rfl) (by kernel_rfl) (by kernel_rfl)
      (by rw [MakeChecks.laidMetH_plain _ _ _ (by kernel_rfl)]; exact laidMet_laidAll _ (by kernel_rfl) (by kernel_rfl))) ?_
  intro W base args ds gs before hval0 hW hsh hL
  have hval : ∀ (j : Nat) t v, Tryz.f7.params[j]? = some t → args[j]? = some v → Value.okWide Tryz.prog W .any base t v := hval0
  have hW' := hW
  obtain ⟨p, q, hA0, hV, rfl, hfz, hnd⟩ := hW
  have hA : DataW.TrodAll enc Tryz.prog W 0 (fun _ => true) true Tryz.f7.params.toList args.toList ds p := hA0
  rw [Tryz.params7] at hA hval
  obtain ⟨v0, v1, v2, d0, d1, d2, p0, p1, p2, rfl, rfl, rfl, h0, h1, h2⟩ := trodAll_three hA
  obtain ⟨rfl, rfl⟩ := trodVars_none hV
  obtain ⟨m, hTb⟩ := tabs_of_laid hL hsh
  obtain ⟨s, rfl, rfl, rfl, ws⟩ := open_string Tryz.underlying9 (hval 0 9 v0 rfl rfl) h0
  obtain ⟨s2, rfl, rfl, rfl, ws2⟩ := open_string Tryz.underlying9 (hval 1 9 v1 rfl rfl) h1
  have k1 := h2
  have lt1 : ∀ x ∈ p2, x.block < W.heap.size := by obtain ⟨m, hm⟩ := k1; exact DataW.trod_lt m _ _ _ hm
  obtain ⟨ao, ac, zs, rfl, hz, hzl⟩ := runes_open k1 (okWide_slice Tryz.underlying22 (hval 2 22 v2 rfl rfl))
  clear hA0 hval0
  have hws : s.data.toList.length ≤ 9223372036854775807 := by
    have h5 : s.size ≤ maxLen := ws
    unfold maxLen at h5
    have h6 : s.data.toList.length = s.size := by simp
    omega
  have hws2 : s2.data.toList.length ≤ 9223372036854775807 := by
    have h5 : s2.size ≤ maxLen := ws2
    unfold maxLen at h5
    have h6 : s2.data.toList.length = s2.size := by simp
    omega
  refine (cross_walk s.data.toList s2.data.toList ao ac zs m W hTb hz hws hws2 hzl).mono fun e W' ⟨he, bel⟩ => ?_
  subst he
  exact ⟨_, rfl, _, _, _, [], _, [], hW', trodAll_mk1 (shut_bool Tryz.underlying4 _), trodAll_mk3 (shut_string Tryz.underlying9 ws) (shut_string Tryz.underlying9 ws2) (Below.trod laidOut (by kernel_rfl) (of_decide_eq_true (by kernel_rfl)) k1 bel lt1), rfl, bel.frame _, fun h => by cases h⟩

theorem propsCross_holds : Rows.PropsCrossSaid :=
  OpenClaim.holds_of_wide 7 Tryz.f7 rfl rfl rfl rfl rfl rfl rfl ⟨rfl, rfl, rfl, rfl, rfl⟩ rfl rfl rfl rfl rfl (by kernel_rfl) Tryz.func7 (by kernel_rfl)
    (of_decide_eq_true (by kernel_rfl)) (by unfold Func.isWrapper; first | (rw [if_pos (by decide +kernel)]; kernel_rfl) | (rw [if_neg (by decide +kernel)]; exact ⟨rfl, rfl⟩))
    (fun os started H enc _ => propsCross_lifted os started H enc)

theorem propsCross_proved : Rows.PropsCrossCardSaid :=
  Claim7.holds_tied_plain_at .later [] [.data, .data, .data, .data, .sentinel, .sentinel, .pinned, .pinned] true Rows.propsCrossCard.stood.harness true
    propsCross_holds (fun _ h => by cases h) (by kernel_rfl) (fun _ h => by cases h) propsCross_row_tie rfl ⟨rfl, rfl⟩ (by kernel_rfl) rfl
    (fun f fn hf hfn => by
      obtain rfl : f = 7 := Option.some.inj ((show Tryz.prog.funcNamed Rows.propsCrossRow.func = some 7 by kernel_rfl).symm.trans hf) |>.symm
      obtain rfl : fn = Tryz.f7 := (Option.some.inj (Tryz.func7.symm.trans hfn)).symm
      exact ⟨by kernel_rfl, fun j t ht => by
        rw [Tryz.params7] at ht
        have hm : t ∈ [9, 9, 22] := by simpa using Array.mem_of_getElem? ht
        have hall : ([9, 9, 22].all fun u => !Tryz.prog.wantsStandIn u) = true := by kernel_rfl
        exact (show Tryz.prog.wantsStandIn t = false by simpa using List.all_eq_true.1 hall t hm)⟩)
    (by kernel_rfl)
#print axioms propsCross_proved
end Go.Proofs.YtohhokjlgihbgaaGreatDoor
