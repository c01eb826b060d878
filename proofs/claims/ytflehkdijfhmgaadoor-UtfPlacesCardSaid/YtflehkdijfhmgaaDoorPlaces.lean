/- Proved: UtfPlaces answers true for every text and every place: whether a place is an edge, the edge ahead of it and the one behind it are those of the document's list of edges (texts of over 2000 bytes are only looked at by the closing check), and its arguments read behind the call as they did. Condition: the two tables of package unicode/utf8 begin as the program's text lays them (the card ties them). -/
import Derived.Test.YtflehkdijfhmgaaDoorEdges
import Derived.Test.YtflehkdijfhmgaaDoorLaid
import Derived.Test.YtflehkdijfhmgaaDoorTie
import Derived.Test.YtflehkdijfhmgaaDoorCards
import Derived.OpenShut
import Derived.ShutString
import Derived.Lay
import Derived.SevenTiedAt
namespace Go.Proofs.YtflehkdijfhmgaaDoor
open Go.ChangeShapes Go.WideShapes Go.ChangeAt Go.RowKit
open Go.ChangeMaps (open_string shut_string)

theorem begin_eq (l : List UInt8) (p : Nat) (z : Int) (w : World) (hz : z = p) (hp : p < l.length) (hl : l.length ≤ 1000000000000) (hT : Lib.Utf8Tabs 0 1 w) (h2 : 2 ≤ w.heap.size) :
    Calls Tryd.prog 55 #[.string ⟨l.toArray⟩, .int .i64 z] w fun e w' => e = .returned (.int .i64 (bgF l p 4)) ∧ Below w.heap.size w w' := by
  subst hz
  exact begin_any l p w hp hl hT h2

set_option maxHeartbeats 400000 in
theorem back_any (l : List UInt8) (p : Int) (w : World) (hl : l.length ≤ 1000000000000) (hT : Lib.Utf8Tabs 0 1 w) (h2 : 2 ≤ w.heap.size) :
    Calls Tryd.prog 37 #[.string ⟨l.toArray⟩, .int .i64 p] w fun e w' => e = .returned (.int .i64 (backE l p)) ∧ Below w.heap.size w w' := by
  have HT := hid hT
  clear hT
  by_cases h1 : p ≤ 0
  · have HR := hid (show backE l p = 0 from if_pos h1)
    go_enter Tryd.func37, Tryd.ntmps37
    go_wp2
    go_ret
    exact ⟨by rw [HR.out]; rfl, Below.refl _ _⟩
  by_cases h3 : (l.length : Int) < p
  · have HR := hid (show backE l p = l.length from (if_neg h1).trans (if_pos h3))
    go_enter Tryd.func37, Tryd.ntmps37
    go_wp2
    go_ret
    exact ⟨by rw [HR.out]; rfl, Below.refl _ _⟩
  · have HR := hid (show backE l p = bgF l (p.toNat - 1) 4 from (if_neg h1).trans (if_neg h3))
    go_enter Tryd.func37, Tryd.ntmps37
    go_wp2_with (go_at_call 55; refine (begin_eq l (p.toNat - 1) _ _ (by omega) (by omega) hl (by exact HT.out) (by exact h2)).mono ?_; rintro e w1 ⟨rfl, hb⟩)
    go_ret
    exact ⟨by rw [HR.out]; rfl, hb⟩

theorem bgF_lt (l : List UInt8) (q : Nat) (hq : q < l.length) : bgF l q 4 < l.length := by
  obtain ⟨e, U, V, _, _, h1, _, h3, _⟩ := edg_parts l q hq
  omega

set_option maxHeartbeats 400000 in
theorem on_any (l : List UInt8) (p : Int) (w : World) (hl : l.length ≤ 1000000000000) (hT : Lib.Utf8Tabs 0 1 w) (h2 : 2 ≤ w.heap.size) :
    Calls Tryd.prog 39 #[.string ⟨l.toArray⟩, .int .i64 p] w fun e w' => e = .returned (.int .i64 (onE l p)) ∧ Below w.heap.size w w' := by
  have HT := hid hT
  clear hT
  by_cases h1 : p < 0
  · have HR := hid (show onE l p = 0 from if_pos h1)
    go_enter Tryd.func39, Tryd.ntmps39
    go_wp2
    go_ret
    exact ⟨by rw [HR.out]; rfl, Below.refl _ _⟩
  by_cases h3 : (l.length : Int) ≤ p
  · have HR := hid (show onE l p = l.length from (if_neg h1).trans (if_pos h3))
    go_enter Tryd.func39, Tryd.ntmps39
    go_wp2
    go_ret
    exact ⟨by rw [HR.out]; rfl, Below.refl _ _⟩
  · have HR := hid (show onE l p = (bgF l p.toNat 4 : Int) + wid l (bgF l p.toNat 4) from (if_neg h1).trans (if_neg h3))
    have hlt := bgF_lt l p.toNat (by omega)
    have h4 := wid_le4 l (bgF l p.toNat 4)
    unfold wid at h4
    go_enter Tryd.func39, Tryd.ntmps39
    go_wp2_with fail
    refine (begin_eq l p.toNat _ _ (by omega) (by omega) hl (by exact HT.out) (by exact h2)).mono ?_
    rintro e w1 ⟨rfl, hb⟩
    have HT1 := hid (tabs_below HT.out h2 hb)
    obtain ⟨f, hf⟩ : ∃ f, f = bgF l p.toNat 4 := ⟨_, rfl⟩
    rw [← hf] at hlt h4 ⊢
    have HF := hid hf
    clear hf
    go_wp2_with fail
    refine (decode_eq _ (l.drop f) _ (ext_drop l f) (by exact HT1.out)).mono ?_
    rintro e w2 ⟨rfl, hb2⟩
    have HW := hid (show wid l f = (dec (l.drop f)).2 from rfl)
    generalize (dec (l.drop f)).1 = rr at *
    generalize (dec (l.drop f)).2 = nn at *
    have HB := hid (hb.trans (hb2.mono hb.size))
    clear hb hb2
    go_wp2
    go_ret
    exact ⟨by rw [HR.out, ← HF.out, HW.out]; rfl, HB.out⟩

set_option maxHeartbeats 400000 in
theorem places_walk (l : List UInt8) (p : Int) (w : World) (hT : Lib.Utf8Tabs 0 1 w) (h2 : 2 ≤ w.heap.size) :
    Calls Tryd.prog 7 #[.string ⟨l.toArray⟩, .int .i64 p] w fun e w' => e = .returned (.bool true) ∧ Below w.heap.size w w' := by
  have HT := hid hT
  clear hT
  by_cases hl : (2000 : Int) < l.length
  · go_enter Tryd.func7, Tryd.ntmps7
    go_wp2_with (go_at_call 9; refine (live_any _ (by exact HT.out) (by exact h2)).mono ?_; rintro e w1 ⟨rfl, hb⟩)
    go_ret
    exact ⟨rfl, hb⟩
  · have hl' : l.length ≤ 1000000000000 := by omega
    go_enter Tryd.func7, Tryd.ntmps7
    go_wp2_with fail
    refine (is_any l p _ hl' (by exact HT.out) h2).mono ?_
    rintro e w1 ⟨rfl, hb1⟩
    have HT1 := hid (tabs_below HT.out h2 hb1)
    have g1 : 2 ≤ w1.heap.size := by have := hb1.size; omega
    go_wp2_with fail
    refine (ris_any l p _ hl').mono ?_
    rintro e w2 ⟨rfl, hb2⟩
    rw [is_eq]
    have HT2 := hid (tabs_below HT1.out g1 hb2)
    have g2 : 2 ≤ w2.heap.size := by have := hb2.size; omega
    have hB2 : Below w.heap.size w w2 := hb1.trans (hb2.mono hb1.size)
    clear hb1 hb2 HT HT1 g1
    go_wp2_with fail
    refine (back_any l p _ hl' (by exact HT2.out) g2).mono ?_
    rintro e w3 ⟨rfl, hb3⟩
    have HT3 := hid (tabs_below HT2.out g2 hb3)
    have g3 : 2 ≤ w3.heap.size := by have := hb3.size; omega
    have hB3 : Below w.heap.size w w3 := hB2.trans (hb3.mono hB2.size)
    clear hb3 HT2 g2 hB2
    go_wp2_with fail
    refine (rback_any l p _ hl').mono ?_
    rintro e w4 ⟨rfl, hb4⟩
    rw [back_eq]
    have HT4 := hid (tabs_below HT3.out g3 hb4)
    have g4 : 2 ≤ w4.heap.size := by have := hb4.size; omega
    have hB4 : Below w.heap.size w w4 := hB3.trans (hb4.mono hB3.size)
    clear hb4 HT3 g3 hB3
    go_wp2_with fail
    refine (on_any l p _ hl' (by exact HT4.out) g4).mono ?_
    rintro e w5 ⟨rfl, hb5⟩
    have HT5 := hid (tabs_below HT4.out g4 hb5)
    have g5 : 2 ≤ w5.heap.size := by have := hb5.size; omega
    have hB5 : Below w.heap.size w w5 := hB4.trans (hb5.mono hB4.size)
    clear hb5 HT4 g4 hB4
    go_wp2_with fail
    refine (ron_any l p _ hl').mono ?_
    rintro e w6 ⟨rfl, hb6⟩
    rw [on_eq]
    have HT6 := hid (tabs_below HT5.out g5 hb6)
    have g6 : 2 ≤ w6.heap.size := by have := hb6.size; omega
    have hB6 : Below w.heap.size w w6 := hB5.trans (hb6.mono hB5.size)
    clear hb6 HT5 g5 hB5
    go_wp2_with fail
    refine (live_any _ (by exact HT6.out) g6).mono ?_
    rintro e w7 ⟨rfl, hb7⟩
    go_wp2
    go_ret
    exact ⟨rfl, hB6.trans (hb7.mono hB6.size)⟩

theorem str_list (s : ByteArray) : ∃ l : List UInt8, s = ⟨l.toArray⟩ := ⟨s.data.toList, by cases s; rfl⟩

set_option maxRecDepth 100000 in
theorem places_lifted (os : Os) (started : os.Started) (H : Type) (enc : TypeId × Value → H) :
    ReturnsInHanded {} Tryd.checked os 7 .any (fun w args => (Rows.utfPlacesSpec.pre enc Tryd.prog Tryd.f7 [] false w args ∧ laidMetH Tryd.prog laid2 w) ∧ sizedMet enc Tryd.prog Tryd.f7 (OpenSpec.ofChange Rows.utfPlacesSpec) false w args)
      (Rows.utfPlacesSpec.post enc Tryd.prog Tryd.f7 false true false false) := by
  refine returnsInHanded_of_change_and (C := Tryd.checked) (X := fun w _ => laidMetH Tryd.prog laid2 w) (fun _ _ _ hh h => h.of_heap hh) own started (by kernel_rfl) Tryd.func7
    (ChangeSpec.witness_shaped (enc := enc) (C := Tryd.checked) (os := os) (X := fun w _ => laidMetH Tryd.prog laid2 w) false (World.laidAll Tryd.prog os laid2) #[.string ⟨#[]⟩, .int .i64 0] 8 (World.laidAll_os _ _ _)
      (World.shaped_of_ZipB (by kernel_rfl) (by kernel_rfl)) (by kernel_rfl) (by kernel_rfl) (by kernel_rfl)
      (by rw [MakeChecks.laidMetH_plain _ _ _ (by kernel_rfl)]; exact laidMet_laidAll _ (by kernel_rfl) (by kernel_rfl))) ?_
  intro W base args ds gs before hval0 hW _ _ hL _
  have hval : ∀ (j : Nat) t v, Tryd.f7.params[j]? = some t → args[j]? = some v → Value.okWide Tryd.prog W .any base t v := hval0
  have hW' := hW
  obtain ⟨p, q, hA0, hV, rfl, hfz, hnd⟩ := hW
  have hA : DataW.TrodAll enc Tryd.prog W 0 (fun _ => true) true Tryd.f7.params.toList args.toList ds p := hA0
  rw [Tryd.params7] at hA hval
  obtain ⟨v0, v1, d0, d1, p0, p1, rfl, rfl, rfl, h0, h1⟩ := trodAll_two hA
  obtain ⟨rfl, rfl⟩ := trodVars_none hV
  obtain ⟨s, rfl, rfl, rfl, ws⟩ := open_string Tryd.underlying9 (hval 0 9 v0 rfl rfl) h0
  obtain ⟨x, rfl, rfl, rfl, wx⟩ := open_int Tryd.underlying3 (hval 1 3 v1 rfl rfl) h1
  obtain ⟨hT, h2⟩ := tabs_of_laid hL
  clear hA0 hval0
  obtain ⟨l, rfl⟩ := str_list s
  refine (places_walk l x W hT h2).mono fun e W' ⟨he, bel⟩ => ?_
  subst he
  exact ⟨_, rfl, _, _, _, [], _, [], hW', trodAll_mk1 (shut_bool Tryd.underlying4 _), trodAll_mk2 (shut_string Tryd.underlying9 ws) (shut_int Tryd.underlying3 wx), rfl, bel.frame _, fun h => by cases h⟩

theorem places_holds : Rows.UtfPlacesSaid :=
  OpenClaim.holds_of_wide 7 Tryd.f7 rfl rfl rfl rfl rfl rfl rfl ⟨rfl, rfl, rfl, rfl, rfl⟩ rfl rfl rfl rfl rfl (by kernel_rfl) Tryd.func7 (by kernel_rfl)
    (of_decide_eq_true (by kernel_rfl)) (by unfold Func.isWrapper; first | (rw [if_pos (by decide +kernel)]; kernel_rfl) | (rw [if_neg (by decide +kernel)]; exact ⟨rfl, rfl⟩))
    (fun os started H enc _ => places_lifted os started H enc)

theorem utfPlaces_proved : Rows.UtfPlacesCardSaid :=
  Claim7.holds_tied_plain_at .later [] [.data, .pinned] true Rows.utfPlacesCard.stood.harness false
    places_holds (fun _ h => by cases h) (by kernel_rfl) (fun _ h => by cases h) utfPlaces_row_tie rfl ⟨rfl, rfl⟩ (by kernel_rfl) rfl
    (fun f fn hf hfn => by
      obtain rfl : f = 7 := Option.some.inj ((show Tryd.prog.funcNamed Rows.utfPlacesRow.func = some 7 by kernel_rfl).symm.trans hf) |>.symm
      obtain rfl : fn = Tryd.f7 := (Option.some.inj (Tryd.func7.symm.trans hfn)).symm
      exact ⟨by kernel_rfl, fun j t ht => by
        rw [Tryd.params7] at ht
        have hm : t ∈ [9, 3] := by simpa using Array.mem_of_getElem? ht
        have hall : ([9, 3].all fun u => !Tryd.prog.wantsStandIn u) = true := by kernel_rfl
        exact (show Tryd.prog.wantsStandIn t = false by simpa using List.all_eq_true.1 hall t hm)⟩)
    (by kernel_rfl)
#print axioms utfPlaces_proved
end Go.Proofs.YtflehkdijfhmgaaDoor
