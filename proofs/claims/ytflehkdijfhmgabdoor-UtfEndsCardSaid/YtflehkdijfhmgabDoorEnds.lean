/- Proved: UtfEnds answers true for every text: Last tells the runes of the text from its end on, each as Runes has it, with its width, and Back finds where it begins (texts of over 500 bytes are only looked at by the closing check), and its argument reads behind the call as it did. Condition: the two tables of package unicode/utf8 begin as the program's text lays them (the card ties them). -/
import Derived.Test.YtflehkdijfhmgabDoorRunes
import Derived.Test.YtflehkdijfhmgabDoorLastMath
import Derived.Test.YtflehkdijfhmgabDoorEdgeLists
import Derived.Test.YtflehkdijfhmgabDoorLive
import Derived.Test.YtflehkdijfhmgabDoorLaid
import Derived.Test.YtflehkdijfhmgabDoorTie
import Derived.Test.YtflehkdijfhmgabDoorCards
import Derived.OpenShut
import Derived.ShutString
import Derived.Lay
import Derived.SevenTiedAt
namespace Go.Proofs.YtflehkdijfhmgabDoor
open Go.ChangeShapes Go.WideShapes Go.ChangeAt Go.RowKit
open Go.ChangeMaps (open_string shut_string)

theorem begin_eq (l : List UInt8) (p : Nat) (z : Int) (w : World) (hz : z = p) (hp : p < l.length) (hl : l.length ≤ 1000000000000) (hT : Lib.Utf8Tabs 0 1 w) (h2 : 2 ≤ w.heap.size) :
    Calls Tryd.prog 25 #[.string ⟨l.toArray⟩, .int .i64 z] w fun e w' => e = .returned (.int .i64 (bgF l p 4)) ∧ Below w.heap.size w w' := by
  subst hz
  exact begin_any l p w hp hl hT h2

set_option maxHeartbeats 400000 in
theorem back_any (l : List UInt8) (p : Int) (w : World) (hl : l.length ≤ 1000000000000) (hT : Lib.Utf8Tabs 0 1 w) (h2 : 2 ≤ w.heap.size) :
    Calls Tryd.prog 9 #[.string ⟨l.toArray⟩, .int .i64 p] w fun e w' => e = .returned (.int .i64 (backE l p)) ∧ Below w.heap.size w w' := by
  have HT := hid hT
  clear hT
  by_cases h1 : p ≤ 0
  · have HR := hid (show backE l p = 0 from if_pos h1)
    go_enter Tryd.func9, Tryd.ntmps9
    go_wp2
    go_ret
    exact ⟨by rw [HR.out]; rfl, Below.refl _ _⟩
  by_cases h3 : (l.length : Int) < p
  · have HR := hid (show backE l p = l.length from (if_neg h1).trans (if_pos h3))
    go_enter Tryd.func9, Tryd.ntmps9
    go_wp2
    go_ret
    exact ⟨by rw [HR.out]; rfl, Below.refl _ _⟩
  · have HR := hid (show backE l p = bgF l (p.toNat - 1) 4 from (if_neg h1).trans (if_neg h3))
    go_enter Tryd.func9, Tryd.ntmps9
    go_wp2_with (go_at_call 25; refine (begin_eq l (p.toNat - 1) _ _ (by omega) (by omega) hl (by exact HT.out) (by exact h2)).mono ?_; rintro e w1 ⟨rfl, hb⟩)
    go_ret
    exact ⟨by rw [HR.out]; rfl, hb⟩

theorem ends_form {w : World} {base e size n : Nat} {v : Value} {xs : List Value} (h : w.ownsRow base e size v n xs) : ∃ ao cap, v = .slice ao n cap ∧ (0 < n → ∃ g, ao = some ⟨g, 0, none⟩ ∧ base ≤ g ∧ g < w.heap.size) := by
  rcases h.2 with ⟨hv, h0⟩ | ⟨g, cap, cur, hv, hb, hg, _⟩
  · exact ⟨none, 0, by rw [hv, h0], fun hn => by omega⟩
  · exact ⟨_, cap, hv, fun _ => ⟨g, rfl, hb, (Array.getElem?_eq_some_iff.1 hg).1⟩⟩

/-- The cells of a row of runes. -/
theorem runes_cells {w : World} {B : Nat} {v : Value} {E : List (Int × Int)} (h : w.ownsRow B 21 1 v E.length (r32 E)) : ∃ ao cap, v = .slice ao E.length cap ∧
    ∀ (k : Nat) (z : Int × Int), E[k]? = some z → ∃ g, ao = some ⟨g, 0, none⟩ ∧ g < w.heap.size ∧ w.cell? ⟨g, k, none⟩ = some (.int .i32 z.2) := by
  obtain ⟨ao, cap, rfl, hao⟩ := ends_form h
  refine ⟨ao, cap, rfl, fun k z hk => ?_⟩
  have hkl : k < E.length := (List.getElem?_eq_some_iff.1 hk).1
  obtain ⟨g, hg, _, hlt⟩ := hao (by omega)
  have hc := h.cells (g := g) (by rw [hg]; rfl) k (.int .i32 z.2) (by unfold r32; rw [List.getElem?_map, hk]; rfl)
  rw [show (⟨g, 0, none⟩ : Addr).add k = ⟨g, k, none⟩ by unfold Addr.add; split <;> simp_all] at hc
  exact ⟨g, hg, hlt, hc⟩

theorem ext_take (l : List UInt8) (t : Nat) : (⟨l.toArray⟩ : ByteArray).extract 0 t = ⟨(l.take t).toArray⟩ := by
  apply ByteArray.ext
  simp [ByteArray.data_extract]

theorem prs_nil_of (l : List UInt8) (h : prs l = []) : l = [] := by
  by_cases hl : l = []
  · exact hl
  · obtain ⟨e, n, c, _, _, _, _, _, h6⟩ := last_step l hl
    rw [h6] at h; simp at h

theorem last_eq (l : List UInt8) (c n : Nat) (h : decLast l = (c, n)) (w : World) (hl : l.length ≤ 9223372036854775807) (hT : Lib.Utf8Tabs 0 1 w) :
    Calls Tryd.prog 8 #[.string ⟨l.toArray⟩] w fun e w' => e = .returned (.tuple #[.int .i32 c, .int .i64 n]) ∧ Below w.heap.size w w' := by
  have := last_any l w hl hT
  rw [h] at this
  exact this
theorem back_eqn (l : List UInt8) (p z : Int) (h : backE l p = z) (w : World) (hl : l.length ≤ 1000000000000) (hT : Lib.Utf8Tabs 0 1 w) (h2 : 2 ≤ w.heap.size) :
    Calls Tryd.prog 9 #[.string ⟨l.toArray⟩, .int .i64 p] w fun e w' => e = .returned (.int .i64 z) ∧ Below w.heap.size w w' := by
  subst h; exact back_any l p w hl hT h2

set_option maxHeartbeats 1000000 in
theorem ends_walk (l : List UInt8) (w : World) (hT : Lib.Utf8Tabs 0 1 w) (h2 : 2 ≤ w.heap.size) :
    Calls Tryd.prog 3 #[.string ⟨l.toArray⟩] w fun e w' => e = .returned (.bool true) ∧ Below w.heap.size w w' := by
  have HT := hid hT
  clear hT
  by_cases hl : (500 : Int) < l.length
  · go_enter Tryd.func3, Tryd.ntmps3
    go_wp2_with (go_at_call 6; refine (live_any _ (by exact HT.out) (by exact h2)).mono ?_; rintro e w1 ⟨rfl, hb⟩)
    go_ret
    exact ⟨rfl, hb⟩
  · have hl' : l.length ≤ 1000000000000 := by omega
    go_enter Tryd.func3, Tryd.ntmps3
    go_wp2_with fail
    refine (runes_any l _ hl').mono ?_
    rintro e w1 ⟨v, rfl, hown, hb1⟩
    obtain ⟨ao, cap, rfl, hcell⟩ := runes_cells hown
    have hE := prs_len l
    obtain ⟨E, hEq⟩ : ∃ E, E = prs l := ⟨_, rfl⟩
    rw [← hEq] at hcell hE ⊢
    have HC := hid hcell
    have HE := hid hEq
    have HT1 := hid (tabs_below HT.out h2 hb1)
    have g1 : 2 ≤ w1.heap.size := by have := hb1.size; omega
    have HB1 := hid hb1
    clear hcell hEq hown HT hb1
    go_wp2
    go_loopw [4, 5] (fun s i wr => ∃ (r : List UInt8) (k : Nat) (z : Int), s = .string ⟨r.toArray⟩ ∧ i = .int .i64 z ∧ z = (k : Int) - 1 ∧ k ≤ E.length ∧ r.length ≤ 500 ∧ Hid (prs r = E.take k) ∧ Hid (Below w1.heap.size w1 wr)) (fun _ i _ => (intOf i + 1).toNat)
    case atStart => exact ⟨l, E.length, _, rfl, rfl, rfl, Nat.le_refl _, by omega, by show prs l = E.take E.length; rw [← HE.out]; simp, Below.refl _ _⟩
    case round =>
      obtain ⟨r, k, z, rfl, rfl, hz, hk, hr5, HP, HB⟩ := hrel
      have HTr := hid (tabs_below HT1.out g1 HB.out)
      have gr : 2 ≤ wr.heap.size := by have := HB.out.size; omega
      by_cases hk0 : k = 0
      · subst hk0
        have hz0 : z < 0 := by omega
        clear hz hk
        have hr0 : r = [] := prs_nil_of r (by rw [HP.out]; rfl)
        subst hr0
        clear HP
        go_wp2_with fail
        refine (last_eq [] 0 0 rfl _ (by simp) (by exact HTr.out)).mono ?_
        rintro e w2 ⟨rfl, hb2⟩
        have HT2 := hid (tabs_below HTr.out gr hb2)
        have g2 : 2 ≤ w2.heap.size := by have := hb2.size; omega
        have HB2 := hid (HB.out.trans (hb2.mono HB.out.size))
        clear hb2
        go_wp2_with fail
        refine (live_any _ (by exact HT2.out) g2).mono ?_
        rintro e w3 ⟨rfl, hb3⟩
        have HB3 := hid (HB2.out.trans (hb3.mono HB2.out.size))
        go_wp2
        go_ret
        exact ⟨rfl, HB1.out.trans (HB3.out.mono HB1.out.size)⟩
      · obtain ⟨k', rfl⟩ : ∃ k', k = k' + 1 := ⟨k - 1, by omega⟩
        obtain rfl : z = k' := by omega
        clear hz hk0
        have hrne : r ≠ [] := fun e => by
          subst e
          have := congrArg List.length HP.out
          rw [List.length_take] at this
          have h0 : (prs ([] : List UInt8)).length = 0 := rfl
          omega
        obtain ⟨e, n, c, q1, q2, q3, q4, q5, q6⟩ := last_step r hrne
        have hek : E[k']? = some ((e : Int), (c : Int)) := by
          have h1 : (E.take (k' + 1))[k']? = E[k']? := by rw [List.getElem?_take]; simp
          have h2 := congrArg List.length q6
          rw [HP.out, List.length_take, List.length_append] at h2
          simp at h2
          rw [← h1, ← HP.out, q6, List.getElem?_append_right (by omega)]
          have : k' - (prs (r.take e)).length = 0 := by omega
          rw [this]; rfl
        have HN := hid (show prs (r.take e) = E.take k' by
          have h2 := congrArg List.length q6
          rw [HP.out, List.length_take, List.length_append] at h2
          simp at h2
          have h3 : (prs r).take k' = prs (r.take e) := by
            rw [q6, List.take_append_of_le_length (by omega), List.take_of_length_le (by omega)]
          rw [← h3, HP.out, List.take_take]
          congr 1
          omega)
        have HBK := hid (show backE r r.length = (e : Int) by
          unfold backE
          rw [if_neg (by omega), if_neg (by omega)]
          rw [show ((r.length : Int)).toNat - 1 = r.length - 1 by omega, q5])
        have HL := hid q1
        obtain ⟨g, rfl, hg, hcw1⟩ := HC.out k' _ hek
        have HCW := hid hcw1
        clear q1 q5 q6 hek HP hrne hcw1
        go_wp2_with fail
        refine (last_eq r c n HL.out _ (by omega) (by exact HTr.out)).mono ?_
        rintro e' w2 ⟨rfl, hb2⟩
        have HT2 := hid (tabs_below HTr.out gr hb2)
        have g2 : 2 ≤ w2.heap.size := by have := hb2.size; omega
        have HB2 := hid (HB.out.trans (hb2.mono HB.out.size))
        have hcw2 : w2.cell? ⟨g, k', none⟩ = some (.int .i32 c) := (HB2.out.cell (p := ⟨g, k', none⟩) hg).trans HCW.out
        clear hb2
        go_wp2_with fail
        refine (back_eqn r _ e HBK.out _ (by omega) (by exact HT2.out) g2).mono ?_
        rintro e' w3 ⟨rfl, hb3⟩
        have HB3 := hid (HB2.out.trans (hb3.mono HB2.out.size))
        clear hb3 hcw2
        go_wp2
        · rename_i hbad
          have t1 : ((e : Int) != (r.length : Int) - n) = false := by simp; omega
          rw [t1] at hbad
          exfalso
          rcases hbad with hbad | hbad
          · omega
          · cases hbad
        go_roundw
        case rel => exact ⟨r.take e, k', _, by rw [show r.length - n = e by omega, ext_take], rfl, rfl, by omega, by simp; omega, HN, HB3⟩
        case measure => simp [intOf]

theorem str_list (s : ByteArray) : ∃ l : List UInt8, s = ⟨l.toArray⟩ := ⟨s.data.toList, by cases s; rfl⟩

set_option maxRecDepth 100000 in
theorem ends_lifted (os : Os) (started : os.Started) (H : Type) (enc : TypeId × Value → H) :
    ReturnsInHanded {} Tryd.checked os 3 .any (fun w args => (Rows.utfEndsSpec.pre enc Tryd.prog Tryd.f3 [] false w args ∧ laidMetH Tryd.prog laid2 w) ∧ sizedMet enc Tryd.prog Tryd.f3 (OpenSpec.ofChange Rows.utfEndsSpec) false w args)
      (Rows.utfEndsSpec.post enc Tryd.prog Tryd.f3 false true false false) := by
  refine returnsInHanded_of_change_and (C := Tryd.checked) (X := fun w _ => laidMetH Tryd.prog laid2 w) (fun _ _ _ hh h => h.of_heap hh) own started (by kernel_rfl) Tryd.func3
    (ChangeSpec.witness_shaped (enc := enc) (C := Tryd.checked) (os := os) (X := fun w _ => laidMetH Tryd.prog laid2 w) false (World.laidAll Tryd.prog os laid2) #[.string ⟨#[]⟩] 8 (World.laidAll_os _ _ _)
      (World.shaped_of_ZipB (by kernel_rfl) (by kernel_rfl)) (by kernel_rfl) (by kernel_rfl) (by kernel_rfl)
      (by rw [MakeChecks.laidMetH_plain _ _ _ (by kernel_rfl)]; exact laidMet_laidAll _ (by kernel_rfl) (by kernel_rfl))) ?_
  intro W base args ds gs before hval0 hW _ _ hL _
  have hval : ∀ (j : Nat) t v, Tryd.f3.params[j]? = some t → args[j]? = some v → Value.okWide Tryd.prog W .any base t v := hval0
  have hW' := hW
  obtain ⟨p, q, hA0, hV, rfl, hfz, hnd⟩ := hW
  have hA : DataW.TrodAll enc Tryd.prog W 0 (fun _ => true) true Tryd.f3.params.toList args.toList ds p := hA0
  rw [Tryd.params3] at hA hval
  obtain ⟨v0, d0, rfl, rfl, h0⟩ := trodAll_one hA
  obtain ⟨rfl, rfl⟩ := trodVars_none hV
  obtain ⟨s, rfl, rfl, rfl, ws⟩ := open_string Tryd.underlying9 (hval 0 9 v0 rfl rfl) h0
  obtain ⟨hT, h2⟩ := tabs_of_laid hL
  clear hA0 hval0
  obtain ⟨l, rfl⟩ := str_list s
  refine (ends_walk l W hT h2).mono fun e W' ⟨he, bel⟩ => ?_
  subst he
  exact ⟨_, rfl, _, _, _, [], _, [], hW', trodAll_mk1 (shut_bool Tryd.underlying4 _), trodAll_mk1 (shut_string Tryd.underlying9 ws), rfl, bel.frame _, fun h => by cases h⟩

theorem ends_holds : Rows.UtfEndsSaid :=
  OpenClaim.holds_of_wide 3 Tryd.f3 rfl rfl rfl rfl rfl rfl rfl ⟨rfl, rfl, rfl, rfl, rfl⟩ rfl rfl rfl rfl rfl (by kernel_rfl) Tryd.func3 (by kernel_rfl)
    (of_decide_eq_true (by kernel_rfl)) (by unfold Func.isWrapper; first | (rw [if_pos (by decide +kernel)]; kernel_rfl) | (rw [if_neg (by decide +kernel)]; exact ⟨rfl, rfl⟩))
    (fun os started H enc _ => ends_lifted os started H enc)

theorem utfEnds_proved : Rows.UtfEndsCardSaid :=
  Claim7.holds_tied_plain_at .later [] [.data, .pinned] true Rows.utfEndsCard.stood.harness false
    ends_holds (fun _ h => by cases h) (by kernel_rfl) (fun _ h => by cases h) utfEnds_row_tie rfl ⟨rfl, rfl⟩ (by kernel_rfl) rfl
    (fun f fn hf hfn => by
      obtain rfl : f = 3 := Option.some.inj ((show Tryd.prog.funcNamed Rows.utfEndsRow.func = some 3 by kernel_rfl).symm.trans hf) |>.symm
      obtain rfl : fn = Tryd.f3 := (Option.some.inj (Tryd.func3.symm.trans hfn)).symm
      exact ⟨by kernel_rfl, fun j t ht => by
        rw [Tryd.params3] at ht
        have hm : t ∈ [9] := by simpa using Array.mem_of_getElem? ht
        have hall : ([9].all fun u => !Tryd.prog.wantsStandIn u) = true := by kernel_rfl
        exact (show Tryd.prog.wantsStandIn t = false by simpa using List.all_eq_true.1 hall t hm)⟩)
    (by kernel_rfl)
#print axioms utfEnds_proved
end Go.Proofs.YtflehkdijfhmgabDoor
