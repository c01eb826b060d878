/- Proved: UtfRunes answers true for every text: its first and last rune, its runes, their number, its units, whether it is valid, its faults and its clean form are the document's; and what Runes gives is the caller's own (texts of over 2000 bytes are only looked at by the closing check); its argument reads behind the call as it did. Condition: the two tables of package unicode/utf8 begin as the program's text lays them (the card ties them). -/
import Derived.Test.YtflehkdijfhmgaaDoorClean
import Derived.Test.YtflehkdijfhmgaaDoorUnits
import Derived.Test.YtflehkdijfhmgaaDoorFaults
import Derived.Test.YtflehkdijfhmgaaDoorLaid
import Derived.Test.YtflehkdijfhmgaaDoorLive
import Derived.Test.YtflehkdijfhmgaaDoorTie
import Derived.Test.YtflehkdijfhmgaaDoorCards
import Derived.OpenShut
import Derived.ShutString
import Derived.Lay
import Derived.SevenTiedAt
namespace Go.Proofs.YtflehkdijfhmgaaDoor
open Go.ChangeShapes Go.WideShapes Go.ChangeAt Go.RowKit
open Go.ChangeMaps (open_string shut_string)

theorem urunes (l : List UInt8) (w : World) (hl : l.length ≤ 1000000000000) :
    Calls Tryd.prog 14 #[.string ⟨l.toArray⟩] w fun e W' => ∃ v, e = .returned v ∧ W'.ownsRow w.heap.size 21 1 v (rns l).length ((rns l).map (Value.int .i32)) ∧ Below w.heap.size w W' := by
  refine (runes_any l w hl).mono ?_
  rintro e W' ⟨v, he, ho, hb⟩
  refine ⟨v, he, ?_, hb⟩
  have e1 : (prs l).length = (rns l).length := by simp [prs, rns]
  have e2 : r32 (prs l) = (rns l).map (Value.int .i32) := by simp [r32, prs, rns]
  rw [← e1, ← e2]; exact ho
theorem udec (l : List UInt8) (a b : Nat) (h : dec l = (a, b)) (w : World) (hT : Lib.Utf8Tabs 0 1 w) :
    Calls Tryd.prog 10 #[.string ⟨l.toArray⟩] w fun e w' => e = .returned (.tuple #[.int .i32 a, .int .i64 b]) ∧ Below w.heap.size w w' := by
  have := decode_any l w hT
  rw [h] at this; exact this
theorem urdec (l : List UInt8) (a b : Nat) (h : dec l = (a, b)) (w : World) (hl : l.length ≤ 1000000000000) :
    Calls Tryd.prog 11 #[.string ⟨l.toArray⟩] w fun e w' => e = .returned (.tuple #[.int .i32 a, .int .i64 b]) ∧ Below w.heap.size w w' := by
  have := rdec_any l w hl
  rw [h] at this
  exact this.mono fun _ _ ⟨x, y⟩ => ⟨x, by rw [y]; exact Below.refl _ _⟩
theorem ulast (l : List UInt8) (a b : Nat) (h : decLast l = (a, b)) (w : World) (hl : l.length ≤ 9223372036854775807) (hT : Lib.Utf8Tabs 0 1 w) :
    Calls Tryd.prog 12 #[.string ⟨l.toArray⟩] w fun e w' => e = .returned (.tuple #[.int .i32 a, .int .i64 b]) ∧ Below w.heap.size w w' := by
  have := last_any l w hl hT
  rw [h] at this; exact this
theorem urlast (l : List UInt8) (a b : Nat) (h : decLast l = (a, b)) (w : World) (hl : l.length ≤ 1000000000000) :
    Calls Tryd.prog 13 #[.string ⟨l.toArray⟩] w fun e w' => e = .returned (.tuple #[.int .i32 a, .int .i64 b]) ∧ Below w.heap.size w w' := by
  have := rlast_any l w hl
  rw [h] at this; exact this
theorem ucount (l : List UInt8) (n : Nat) (h : (rns l).length = n) (w : World) (hl : l.length ≤ 1000000000000) :
    Calls Tryd.prog 17 #[.string ⟨l.toArray⟩] w fun e w' => e = .returned (.int .i64 n) ∧ Below w.heap.size w w' := by
  have := count_any l w (by omega)
  rw [count_len, h] at this; exact this
theorem uunits (l : List UInt8) (n : Nat) (h : un (rns l) = n) (w : World) (hl : l.length ≤ 1000000000000) :
    Calls Tryd.prog 18 #[.string ⟨l.toArray⟩] w fun e w' => e = .returned (.int .i64 n) ∧ Below w.heap.size w w' := by
  have := units_any l w hl
  rw [h] at this; exact this
theorem urunits (l : List UInt8) (n : Nat) (h : un (rns l) = n) (w : World) (hl : l.length ≤ 1000000000000) :
    Calls Tryd.prog 19 #[.string ⟨l.toArray⟩] w fun e w' => e = .returned (.int .i64 n) ∧ Below w.heap.size w w' := by
  have := runits_any l w hl
  rw [h] at this; exact this

theorem uclean (l S : List UInt8) (h : cln l = S) (w : World) (hl : l.length ≤ 1000000000) (hT : Lib.Utf8Tabs 0 1 w) :
    Calls Tryd.prog 24 #[.string ⟨l.toArray⟩] w fun e w' => e = .returned (.string ⟨S.toArray⟩) ∧ Below w.heap.size w w' := by
  subst h; exact clean_any l w hl hT
theorem urclean (l S : List UInt8) (h : cln l = S) (w : World) (hl : l.length ≤ 1000000000000) :
    Calls Tryd.prog 25 #[.string ⟨l.toArray⟩] w fun e w' => e = .returned (.string ⟨S.toArray⟩) ∧ Below w.heap.size w w' := by
  subst h; exact rclean_any l w hl

set_option maxHeartbeats 2000000 in
theorem runesl_walk (l : List UInt8) (w : World) (hT : Lib.Utf8Tabs 0 1 w) (h2 : 2 ≤ w.heap.size) :
    Calls Tryd.prog 4 #[.string ⟨l.toArray⟩] w fun e w' => e = .returned (.bool true) ∧ Below w.heap.size w w' := by
  have HT := hid hT
  clear hT
  by_cases hl : (2000 : Int) < l.length
  · go_enter Tryd.func4, Tryd.ntmps4
    go_wp2_with (go_at_call 9; refine (live_any _ (by exact HT.out) (by exact h2)).mono ?_; rintro e w1 ⟨rfl, hb⟩)
    go_ret
    exact ⟨rfl, hb⟩
  have hl' : l.length ≤ 1000000000000 := by omega
  obtain ⟨da, db, hd⟩ : ∃ a b, dec l = (a, b) := ⟨_, _, rfl⟩
  obtain ⟨la, lb, hla⟩ : ∃ a b, decLast l = (a, b) := ⟨_, _, rfl⟩
  have HD := hid hd
  have HL := hid hla
  have hrl : (rns l).length ≤ l.length := by unfold rns; simpa using mks_le l
  have hfl : (flt l).length ≤ l.length := by
    have h1 := mks_le l
    have h3 := List.length_filter_le (fun m : Mk => m.bad) (mks 0 l)
    unfold flt; simp at h3 ⊢; omega
  obtain ⟨N, hN⟩ : ∃ n, (rns l).length = n := ⟨_, rfl⟩
  obtain ⟨U, hU⟩ : ∃ n, un (rns l) = n := ⟨_, rfl⟩
  obtain ⟨M, hM⟩ : ∃ n, (flt l).length = n := ⟨_, rfl⟩
  have HN := hid hN
  have HU := hid hU
  have HM := hid hM
  rw [hN] at hrl
  rw [hM] at hfl
  clear hd hla hN hU hM
  go_enter Tryd.func4, Tryd.ntmps4
  go_wp2_with fail
  refine (udec l da db HD.out _ (by exact HT.out)).mono ?_
  rintro e w1 ⟨rfl, hb⟩
  have HB1 := hid hb
  clear hb
  go_wp2_with fail
  refine (urdec l da db HD.out _ hl').mono ?_
  rintro e w2 ⟨rfl, hb⟩
  have HB2 := hid (HB1.out.trans (hb.mono HB1.out.size))
  clear hb HB1
  go_wp2_with fail
  refine (ulast l la lb HL.out _ (by omega) (tabs_below HT.out h2 HB2.out)).mono ?_
  rintro e w3 ⟨rfl, hb⟩
  have HB3 := hid (HB2.out.trans (hb.mono HB2.out.size))
  clear hb HB2
  go_wp2_with fail
  refine (urlast l la lb HL.out _ hl').mono ?_
  rintro e w4 ⟨rfl, hb⟩
  have HB4 := hid (HB3.out.trans (hb.mono HB3.out.size))
  clear hb HB3
  go_wp2_with fail
  refine (urunes l _ hl').mono ?_
  rintro e w5 ⟨v, rfl, ho5, hb⟩
  have HB5 := hid (HB4.out.trans (hb.mono HB4.out.size))
  have hs4 := HB4.out.size
  clear hb
  have hform := owns_form ho5
  rw [HN.out] at hform
  obtain ⟨ao, cap, rfl, hao⟩ := hform
  have hrow : 0 < N → ∃ g cur, ao = some ⟨g, 0, none⟩ ∧ w4.heap.size ≤ g ∧ w5.heap[g]? = some (.cells cur 21 (0, 0)) ∧ N ≤ cur.size := fun hp => by
    rcases ho5.2 with ⟨hv, h0⟩ | ⟨g, c, cur, hv, hbg, hg, h1, h3, h4, _⟩
    · rw [HN.out] at h0; omega
    · injection hv with e1 e2 e3
      rw [HN.out] at e2 h1
      exact ⟨g, cur, e1, hbg, hg, by omega⟩
  have HROW := hid hrow
  have HO5 := hid ho5
  clear ho5 hao hrow
  go_wp2_with fail
  refine (rrunes_any l _ hl').mono ?_
  rintro e w6 ⟨v6, rfl, ho6, hb⟩
  have hB56 := hb
  have HR1 := hid (Reads.of_row (row_below HO5.out hb))
  have HR2 := hid (Reads.of_row ho6)
  clear ho6 hb
  go_wp2_with fail
  refine (alike_any _ _ (rns l) _ (by rw [HN.out]; omega) HR1.out HR2.out).mono ?_
  rintro e w7 ⟨rfl, hb⟩
  have hB57 := hid (hB56.trans (hb.mono hB56.size))
  clear hb HR1 HR2 hB56
  go_wp2_with fail
  refine (ucount l N HN.out _ hl').mono ?_
  rintro e w8 ⟨rfl, hb⟩
  have hB58 := hid (hB57.out.trans (hb.mono hB57.out.size))
  clear hb hB57
  go_wp2_with fail
  refine (uunits l U HU.out _ hl').mono ?_
  rintro e w9 ⟨rfl, hb⟩
  have hB59 := hid (hB58.out.trans (hb.mono hB58.out.size))
  clear hb hB58
  go_wp2_with fail
  refine (urunits l U HU.out _ hl').mono ?_
  rintro e w10 ⟨rfl, hb⟩
  have hB510 := hid (hB59.out.trans (hb.mono hB59.out.size))
  clear hb hB59
  have HMV : Hid (decide (flt l = []) = decide (M = 0)) := by
    show decide (flt l = []) = decide (M = 0)
    rw [← HM.out]
    exact decide_eq_decide.2 List.length_eq_zero_iff.symm
  go_wp2_with fail
  refine (valid_eqb l (decide (M = 0)) HMV.out _ hl' (tabs_below HT.out h2 (HB5.out.trans (hB510.out.mono HB5.out.size)))).mono ?_
  rintro e w11 ⟨rfl, hb⟩
  have hB511 := hid (hB510.out.trans (hb.mono hB510.out.size))
  clear hb hB510
  go_wp2_with fail
  refine (rfaults_any l _ hl').mono ?_
  rintro e w12 ⟨v12, rfl, ho12, hb⟩
  have hB512 := hid (hB511.out.trans (hb.mono hB511.out.size))
  have hf12 := owns_form ho12
  rw [HM.out] at hf12
  obtain ⟨ao12, cap12, rfl, _⟩ := hf12
  clear hb hB511 ho12
  have hmd : ((M : Int) == 0) = decide (M = 0) := by
    by_cases h : M = 0
    · subst h; rfl
    · rw [decide_eq_false h]; exact beq_eq_false_iff_ne.2 (by omega)
  go_wp2_with fail
  refine (faults_any l _ hl').mono ?_
  rintro e w13 ⟨v13, rfl, ho13, hb⟩
  have hB513 := hid (hB512.out.trans (hb.mono hB512.out.size))
  have HO13 := hid ho13
  clear hb hB512 ho13
  go_wp2_with fail
  refine (rfaults_any l _ hl').mono ?_
  rintro e w14 ⟨v14, rfl, ho14, hb⟩
  have hB514 := hid (hB513.out.trans (hb.mono hB513.out.size))
  have HR1 := hid (Reads.of_row (row_below HO13.out hb))
  have HR2 := hid (Reads.of_row ho14)
  clear hb hB513 ho14 HO13
  go_wp2_with fail
  refine (places_any _ _ (flt l) _ (by rw [HM.out]; omega) HR1.out HR2.out).mono ?_
  rintro e w15 ⟨rfl, hb⟩
  have hB515 := hid (hB514.out.trans (hb.mono hB514.out.size))
  clear hb hB514 HR1 HR2
  obtain ⟨S, hS⟩ : ∃ S, cln l = S := ⟨_, rfl⟩
  have HS := hid hS
  clear hS
  go_wp2_with fail
  refine (uclean l S HS.out _ (by omega) (tabs_below HT.out h2 (HB5.out.trans (hB515.out.mono HB5.out.size)))).mono ?_
  rintro e w16 ⟨rfl, hb⟩
  have hB516 := hid (hB515.out.trans (hb.mono hB515.out.size))
  clear hb hB515
  go_wp2_with fail
  refine (urclean l S HS.out _ hl').mono ?_
  rintro e w17 ⟨rfl, hb⟩
  have hB517 := hid (hB516.out.trans (hb.mono hB516.out.size))
  have HB17 := hid (HB5.out.trans (hB517.out.mono HB5.out.size))
  have HROW17 : Hid (0 < N → ∃ g cur, ao = some ⟨g, 0, none⟩ ∧ w4.heap.size ≤ g ∧ w17.heap[g]? = some (Obj.cells cur 21 (0, 0)) ∧ N ≤ cur.size) := fun hp => by
    obtain ⟨g, cur, h1, h3, h4, h5⟩ := HROW.out hp
    exact ⟨g, cur, h1, h3, (hB517.out.block g (Array.getElem?_eq_some_iff.1 h4).1).trans h4, h5⟩
  clear hb hB516 hB517 HROW HO5 HB4 HB5 HMV
  go_wp2
  go_loopw [12] (fun i wr => ∃ k : Nat, i = .int .i64 k ∧ k ≤ N ∧ Hid (Below w.heap.size w wr) ∧ Hid (0 < N → ∃ g cur, ao = some ⟨g, 0, none⟩ ∧ w4.heap.size ≤ g ∧ wr.heap[g]? = some (Obj.cells cur 21 (0, 0)) ∧ N ≤ cur.size)) (fun i _ => N - (intOf i).toNat)
  case atStart => exact ⟨0, rfl, by omega, HB17, HROW17⟩
  case round =>
    clear HB17 HROW17
    obtain ⟨k, rfl, hk, HBr, HRr⟩ := hrel
    by_cases hlt : k < N
    · obtain ⟨g, cur, rfl, hg4, hgc, hN⟩ := HRr.out (by omega)
      have hc : wr.cell? ⟨g, k, none⟩ = some cur[k] := by rw [cell_of_row wr g k cur 21 (0, 0) hgc]; simp
      have hf : wr.frozen? ⟨g, k, none⟩ = false := frozen_of_row wr g k cur 21 hgc
      have HROW2 : Hid (0 < N → ∃ g' cur', (some ⟨g, 0, none⟩ : Option Addr) = some ⟨g', 0, none⟩ ∧ w4.heap.size ≤ g' ∧ (wr.setCell ⟨g, k, none⟩ (.int .i32 (-9))).heap[g']? = some (Obj.cells cur' 21 (0, 0)) ∧ N ≤ cur'.size) := fun _ =>
        ⟨g, _, rfl, hg4, Lib.heap_setCell_same (i := k) hgc (.int .i32 (-9)), by simpa using hN⟩
      have HB2 := hid (HBr.out.setCell (p := ⟨g, k, none⟩) (Nat.le_trans hs4 hg4) (.int .i32 (-9)))
      generalize cur[k] = ck at hc
      clear HBr HRr hgc hN
      go_wp2
      go_roundw
      case rel => exact ⟨k + 1, by go_num, by omega, HB2, HROW2⟩
      case measure => simp [intOf]; omega
    · go_wp2_with fail
      refine (urunes l _ hl').mono ?_
      rintro e w18 ⟨v18, rfl, ho18, hb⟩
      have HB18 := hid (HBr.out.trans (hb.mono HBr.out.size))
      have HO18 := hid ho18
      clear hb ho18
      go_wp2_with fail
      refine (rrunes_any l _ hl').mono ?_
      rintro e w19 ⟨v19, rfl, ho19, hb⟩
      have HB19 := hid (HB18.out.trans (hb.mono HB18.out.size))
      have HR1 := hid (Reads.of_row (row_below HO18.out hb))
      have HR2 := hid (Reads.of_row ho19)
      clear hb ho19
      go_wp2_with fail
      refine (alike_any _ _ (rns l) _ (by rw [HN.out]; omega) HR1.out HR2.out).mono ?_
      rintro e w20 ⟨rfl, hb⟩
      have HB20 := hid (HB19.out.trans (hb.mono HB19.out.size))
      clear hb
      go_wp2_with fail
      refine (live_any _ (tabs_below HT.out h2 HB20.out) (by have := HB20.out.size; omega)).mono ?_
      rintro e w21 ⟨rfl, hb⟩
      have HB21 := hid (HB20.out.trans (hb.mono HB20.out.size))
      clear hb
      go_wp2
      go_ret
      exact ⟨rfl, HB21.out⟩

theorem str_list (s : ByteArray) : ∃ l : List UInt8, s = ⟨l.toArray⟩ := ⟨s.data.toList, by cases s; rfl⟩

set_option maxRecDepth 100000 in
theorem runesl_lifted (os : Os) (started : os.Started) (H : Type) (enc : TypeId × Value → H) :
    ReturnsInHanded {} Tryd.checked os 4 .any (fun w args => (Rows.utfRunesSpec.pre enc Tryd.prog Tryd.f4 [] false w args ∧ laidMetH Tryd.prog laid2 w) ∧ sizedMet enc Tryd.prog Tryd.f4 (OpenSpec.ofChange Rows.utfRunesSpec) false w args)
      (Rows.utfRunesSpec.post enc Tryd.prog Tryd.f4 false true false false) := by
  refine returnsInHanded_of_change_and (C := Tryd.checked) (X := fun w _ => laidMetH Tryd.prog laid2 w) (fun _ _ _ hh h => h.of_heap hh) own started (by kernel_rfl) Tryd.func4
    (ChangeSpec.witness_shaped (enc := enc) (C := Tryd.checked) (os := os) (X := fun w _ => laidMetH Tryd.prog laid2 w) false (World.laidAll Tryd.prog os laid2) #[.string ⟨#[]⟩] 8 (World.laidAll_os _ _ _)
      (World.shaped_of_ZipB (by kernel_rfl) (by kernel_rfl)) (by kernel_rfl) (by kernel_rfl) (by kernel_rfl)
      (by rw [MakeChecks.laidMetH_plain _ _ _ (by kernel_rfl)]; exact laidMet_laidAll _ (by kernel_rfl) (by kernel_rfl))) ?_
  intro W base args ds gs before hval0 hW _ _ hL _
  have hval : ∀ (j : Nat) t v, Tryd.f4.params[j]? = some t → args[j]? = some v → Value.okWide Tryd.prog W .any base t v := hval0
  have hW' := hW
  obtain ⟨p, q, hA0, hV, rfl, hfz, hnd⟩ := hW
  have hA : DataW.TrodAll enc Tryd.prog W 0 (fun _ => true) true Tryd.f4.params.toList args.toList ds p := hA0
  rw [Tryd.params4] at hA hval
  obtain ⟨v0, d0, rfl, rfl, h0⟩ := trodAll_one hA
  obtain ⟨rfl, rfl⟩ := trodVars_none hV
  obtain ⟨s, rfl, rfl, rfl, ws⟩ := open_string Tryd.underlying9 (hval 0 9 v0 rfl rfl) h0
  obtain ⟨hT, h2⟩ := tabs_of_laid hL
  clear hA0 hval0
  obtain ⟨l, rfl⟩ := str_list s
  refine (runesl_walk l W hT h2).mono fun e W' ⟨he, bel⟩ => ?_
  subst he
  exact ⟨_, rfl, _, _, _, [], _, [], hW', trodAll_mk1 (shut_bool Tryd.underlying4 _), trodAll_mk1 (shut_string Tryd.underlying9 ws), rfl, bel.frame _, fun h => by cases h⟩

theorem runesl_holds : Rows.UtfRunesSaid :=
  OpenClaim.holds_of_wide 4 Tryd.f4 rfl rfl rfl rfl rfl rfl rfl ⟨rfl, rfl, rfl, rfl, rfl⟩ rfl rfl rfl rfl rfl (by kernel_rfl) Tryd.func4 (by kernel_rfl)
    (of_decide_eq_true (by kernel_rfl)) (by unfold Func.isWrapper; first | (rw [if_pos (by decide +kernel)]; kernel_rfl) | (rw [if_neg (by decide +kernel)]; exact ⟨rfl, rfl⟩))
    (fun os started H enc _ => runesl_lifted os started H enc)

theorem utfRunes_proved : Rows.UtfRunesCardSaid :=
  Claim7.holds_tied_plain_at .later [] [.data, .pinned] true Rows.utfRunesCard.stood.harness false
    runesl_holds (fun _ h => by cases h) (by kernel_rfl) (fun _ h => by cases h) utfRunes_row_tie rfl ⟨rfl, rfl⟩ (by kernel_rfl) rfl
    (fun f fn hf hfn => by
      obtain rfl : f = 4 := Option.some.inj ((show Tryd.prog.funcNamed Rows.utfRunesRow.func = some 4 by kernel_rfl).symm.trans hf) |>.symm
      obtain rfl : fn = Tryd.f4 := (Option.some.inj (Tryd.func4.symm.trans hfn)).symm
      exact ⟨by kernel_rfl, fun j t ht => by
        rw [Tryd.params4] at ht
        have hm : t ∈ [9] := by simpa using Array.mem_of_getElem? ht
        have hall : ([9].all fun u => !Tryd.prog.wantsStandIn u) = true := by kernel_rfl
        exact (show Tryd.prog.wantsStandIn t = false by simpa using List.all_eq_true.1 hall t hm)⟩)
    (by kernel_rfl)
#print axioms utfRunes_proved
end Go.Proofs.YtflehkdijfhmgaaDoor
