/- Proved: WidthFits answers true for every text, every number of cells and every Cells: the column behind what Cut tells is the one that it tells, and at most the cells asked (or the start); what it tells is a beginning of the text; what Plain tells has no tab at the beginning of a letter, and, where the text has no rune of the class Mark, it is as wide as the text (texts that are longer than the law asks, and Cells that are refused, are only looked at by the closing check); and the arguments read behind the call as they did. Condition: the listed package-level variables of Go's library (the two tables of package unicode/utf8) begin as the program's text lays them (the card ties them). -/
import Derived.Test.YtlfegdpclappiaaDoorFtMainJoint
import Derived.Test.YtlfegdpclappiaaDoorFtLaid
import Derived.Test.YtlfegdpclappiaaDoorTie
import Derived.Test.YtlfegdpclappiaaDoorCards
import Derived.SevenTiedAt
import Derived.Carry
import Derived.ShutString
import Derived.ChangeShapes
import Derived.Lib.SmallJoins
namespace Go.Proofs.YtlfegdpclappiaaDoor
open Go.ChangeShapes Go.WideShapes Go.ChangeAt Go.RowKit
open Go.ChangeMaps (open_string shut_string)
open Go.Joins (open_agg3 shut_agg3)

theorem str_list (s : ByteArray) : ∃ l : List UInt8, s = ⟨l.toArray⟩ := ⟨s.data.toList, by simp⟩
set_option maxHeartbeats 2000000 in
set_option maxRecDepth 100000 in
theorem widthFits_lifted (os : Os) (started : os.Started) (H : Type) (enc : TypeId × Value → H) :
    ReturnsInHanded {} Tryd.checked os 6 .any (fun w args => (Rows.widthFitsSpec.pre enc Tryd.prog Tryd.f6 [] false w args ∧ laidMetH Tryd.prog laid7 w) ∧ sizedMet enc Tryd.prog Tryd.f6 (OpenSpec.ofChange Rows.widthFitsSpec) false w args)
      (Rows.widthFitsSpec.post enc Tryd.prog Tryd.f6 false true false false) := by
  refine wrap7 (C := Tryd.checked) (X := fun w _ => laidMetH Tryd.prog laid7 w) (fun _ _ _ hh h => h.of_heap hh) ownk started (by kernel_rfl) Tryd.func6
    (ChangeSpec.witness_shaped (enc := enc) (C := Tryd.checked) (os := os) (X := fun w _ => laidMetH Tryd.prog laid7 w) false (World.laidAll Tryd.prog os laid7) #[.string ⟨#[]⟩, .int .i64 0, .agg #[.int .i64 1, .int .i64 8, .int .i64 0]] 8 (World.laidAll_os _ _ _)
      (World.shaped_of_ZipB (by kernel_rfl) (by kernel_rfl)) (by kernel_rfl) (by kernel_rfl) (by kernel_rfl)
      (by rw [MakeChecks.laidMetH_plain _ _ _ (by kernel_rfl)]; exact laidMet_laidAll _ (by kernel_rfl) (by kernel_rfl))) ?_
  intro W base args ds gs before hval0 hW hsh hsz0 hL
  have hval : ∀ (j : Nat) t v, Tryd.f6.params[j]? = some t → args[j]? = some v → Value.okWide Tryd.prog W .any base t v := hval0
  have hW' := hW
  obtain ⟨p, q, hA0, hV, rfl, hfz, hnd⟩ := hW
  have hA : DataW.TrodAll enc Tryd.prog W 0 (fun _ => true) true Tryd.f6.params.toList args.toList ds p := hA0
  rw [Tryd.params6] at hA hval
  obtain ⟨v0, v1, v2, d0, d1, d2, p0, p1, p2, rfl, rfl, rfl, h0, h1, h2⟩ := trodAll_three hA
  obtain ⟨rfl, rfl⟩ := trodVars_none hV
  have hsz : (DataW.weightsEach Tryd.prog [9, 3, 36] [d0, d1, d2]).all (· ≤ reachBytes) = true := hsz0
  obtain ⟨s, rfl, rfl, rfl, ws⟩ := open_string Tryd.underlying9 (hval 0 9 v0 rfl rfl) h0
  obtain ⟨z, rfl, rfl, rfl, wz⟩ := open_int Tryd.underlying3 (hval 1 3 v1 rfl rfl) h1
  obtain ⟨x0, x1, x2, y0, y1, y2, n, rfl, rfl, rfl, k0, k1, k2⟩ := open_agg3 Tryd.underlying36 (by kernel_rfl) (by kernel_rfl) (hval 2 36 v2 rfl rfl) h2
  obtain ⟨a, ea, rfl, wa⟩ := DataW.trod_int Tryd.underlying3 k0
  obtain ⟨b, eb, rfl, wb⟩ := DataW.trod_int Tryd.underlying3 k1
  obtain ⟨c, ec, rfl, wc⟩ := DataW.trod_int Tryd.underlying3 k2
  obtain rfl : x0 = .int .i64 a := by simpa using ea
  obtain rfl : x1 = .int .i64 b := by simpa using eb
  obtain rfl : x2 = .int .i64 c := by simpa using ec
  obtain ⟨l, rfl⟩ := str_list s
  have hls : l.length ≤ 281474976710656 := by
    have h := List.all_eq_true.1 hsz l.length (by simp [DataW.weightsEach, DataW.weights])
    have h' : l.length ≤ reachBytes := by simpa using h
    unfold reachBytes at h'
    omega
  clear hA0 hval0
  refine (fits_main l z a b c W hls (tabs_of_laid hL hsh) (tb_of_laid hL hsh)).mono fun e W' ⟨he, bel⟩ => ?_
  subst he
  have i0 : ∃ n, DataW.trod enc Tryd.prog W' 0 (fun b => decide (b < W.heap.size)) true n 3 [.int .i64 a] = some (.lit (.int .i64 a), []) := shut_int Tryd.underlying3 wa
  have i1 : ∃ n, DataW.trod enc Tryd.prog W' 0 (fun b => decide (b < W.heap.size)) true n 3 [.int .i64 b] = some (.lit (.int .i64 b), []) := shut_int Tryd.underlying3 wb
  have i2 : ∃ n, DataW.trod enc Tryd.prog W' 0 (fun b => decide (b < W.heap.size)) true n 3 [.int .i64 c] = some (.lit (.int .i64 c), []) := shut_int Tryd.underlying3 wc
  exact ⟨_, rfl, _, _, _, [], _, [], hW', trodAll_mk1 (shut_bool Tryd.underlying4 _), trodAll_mk3 (shut_string Tryd.underlying9 ws) (shut_int Tryd.underlying3 wz) (shut_agg3 Tryd.underlying36 (by kernel_rfl) (by kernel_rfl) i0 i1 i2), rfl, bel.frame _, fun h => by cases h⟩

theorem widthFits_holds : Rows.WidthFitsSaid :=
  OpenClaim.holds_of_wide 6 Tryd.f6 rfl rfl rfl rfl rfl rfl rfl ⟨rfl, rfl, rfl, rfl, rfl⟩ rfl rfl rfl rfl rfl (by kernel_rfl) Tryd.func6 (by kernel_rfl)
    (of_decide_eq_true (by kernel_rfl)) (by unfold Func.isWrapper; first | (rw [if_pos (by decide +kernel)]; kernel_rfl) | (rw [if_neg (by decide +kernel)]; exact ⟨rfl, rfl⟩))
    (fun os started H enc _ => widthFits_lifted os started H enc)

theorem widthFits_proved : Rows.WidthFitsCardSaid :=
  Claim7.holds_tied_plain_at .later [] [.data, .pinned] true Rows.widthFitsCard.stood.harness false
    widthFits_holds (fun _ h => by cases h) (by kernel_rfl) (fun _ h => by cases h) widthFits_row_tie rfl ⟨rfl, rfl⟩ (by kernel_rfl) rfl
    (fun f fn hf hfn => by
      obtain rfl : f = 6 := Option.some.inj ((show Tryd.prog.funcNamed Rows.widthFitsRow.func = some 6 by kernel_rfl).symm.trans hf) |>.symm
      obtain rfl : fn = Tryd.f6 := (Option.some.inj (Tryd.func6.symm.trans hfn)).symm
      exact ⟨by kernel_rfl, fun j t ht => by
        rw [Tryd.params6] at ht
        have hm : t ∈ [9, 3, 36] := by simpa using Array.mem_of_getElem? ht
        have hall : ([9, 3, 36].all fun u => !Tryd.prog.wantsStandIn u) = true := by kernel_rfl
        exact (show Tryd.prog.wantsStandIn t = false by simpa using List.all_eq_true.1 hall t hm)⟩)
    (by kernel_rfl)
#print axioms widthFits_proved
end Go.Proofs.YtlfegdpclappiaaDoor
