/- What the walks share: hidden facts, rows of numbers, and the contracts of Decode, Last, Count, begin and Is (package utf). -/
import Derived.Test.YtlfegdpclappiaaDoorShelf
import Derived.Test.YtlfegdpclappiaaDoorUMath
import Derived.Deep.AppendLies
import Derived.WalkKit
import Derived.WalkSpells
import Derived.WalkLawsBesides
import Derived.Deep.QuietTactic
import Derived.BigQuiet
import Derived.WalkSmall
namespace Go.Proofs.YtlfegdpclappiaaDoor
open Go.RowKit

theorem hid {p : Prop} (h : p) : Hid p := h
theorem add_blk (a : Addr) (k : Nat) : (a.add k).block = a.block := by unfold Addr.add; split <;> rfl
theorem tabs_below {w w' : World} (h : Lib.Utf8Tabs 0 1 w) (hs : 2 ≤ w.heap.size) (hb : Below w.heap.size w w') : Lib.Utf8Tabs 0 1 w' :=
  ⟨fun c hc => (hb.cell (p := ⟨0, c, none⟩) (by show 0 < w.heap.size; omega)).trans (h.1 c hc), fun i hi => ⟨(hb.cell (p := ⟨1, 2 * i, none⟩) (by show 1 < w.heap.size; omega)).trans (h.2 i hi).1, (hb.cell (p := ⟨1, 2 * i + 1, none⟩) (by show 1 < w.heap.size; omega)).trans (h.2 i hi).2⟩⟩
set_option maxHeartbeats 400000 in
theorem decode_any (l : List UInt8) (w : World) (hT : Lib.Utf8Tabs 0 1 w) :
    Calls Tryd.prog 37 #[.string ⟨l.toArray⟩] w fun e w' => e = .returned (.tuple #[.int .i32 (dec l).1, .int .i64 (dec l).2]) ∧ Below w.heap.size w w' := by
  by_cases h : l = []
  · subst h
    go_enter Tryd.func37, Tryd.ntmps37
    go_wp2
    go_ret2
    exact ⟨rfl, Below.refl _ _⟩
  · have hd : dec l = Lib.decodeGo ⟨l.toArray⟩ := if_neg h
    rw [hd]
    have he : l.isEmpty = false := by simpa using h
    clear hd h
    have HT := hid hT
    clear hT
    go_enter Tryd.func37, Tryd.ntmps37
    go_wp2_with (go_at_call 59; refine (Tryd.utf8_DecodeRuneInString _ _ (by exact HT.out)).mono ?_; rintro e w1 ⟨rfl, hb⟩)
    go_ret2
    exact ⟨rfl, hb⟩
theorem decode_eq (s : ByteArray) (l : List UInt8) (w : World) (hs : s = ⟨l.toArray⟩) (hT : Lib.Utf8Tabs 0 1 w) :
    Calls Tryd.prog 37 #[.string s] w fun e w' => e = .returned (.tuple #[.int .i32 (dec l).1, .int .i64 (dec l).2]) ∧ Below w.heap.size w w' := by
  subst hs
  exact decode_any l w hT
set_option maxHeartbeats 400000 in
theorem last_any (l : List UInt8) (w : World) (hl : l.length ≤ 9223372036854775807) (hT : Lib.Utf8Tabs 0 1 w) :
    Calls Tryd.prog 82 #[.string ⟨l.toArray⟩] w fun e w' => e = .returned (.tuple #[.int .i32 (decLast l).1, .int .i64 (decLast l).2]) ∧ Below w.heap.size w w' := by
  by_cases h : l = []
  · subst h
    go_enter Tryd.func82, Tryd.ntmps82
    go_wp2
    go_ret2
    exact ⟨rfl, Below.refl _ _⟩
  · have hd : decLast l = Lib.decodeLastL l := if_neg h
    rw [hd]
    have he : l.isEmpty = false := by simpa using h
    clear hd h
    have HT := hid hT
    have hs' : (⟨l.toArray⟩ : ByteArray).size ≤ 9223372036854775807 := by show l.toArray.size ≤ _; simpa using hl
    have HS := hid hs'
    clear hT hs'
    go_enter Tryd.func82, Tryd.ntmps82
    go_wp2_with (go_at_call 86; refine (Tryd.utf8_DecodeLastRuneInString ⟨l.toArray⟩ _ HS.out (by exact HT.out)).mono ?_; rintro e w1 ⟨rfl, hb⟩)
    go_ret2
    exact ⟨rfl, hb⟩
set_option maxHeartbeats 400000 in
theorem count_any (l : List UInt8) (w : World) (hl : l.length < 9223372036854775807) :
    Calls Tryd.prog 27 #[.string ⟨l.toArray⟩] w fun e w' => e = .returned (.int .i64 (Lib.runeCount ⟨l.toArray⟩)) ∧ Below w.heap.size w w' := by
  have hs' : (⟨l.toArray⟩ : ByteArray).size < 9223372036854775807 := by show l.toArray.size < _; simpa using hl
  have HS := hid hs'
  clear hs'
  go_enter Tryd.func27, Tryd.ntmps27
  go_wp2_with (go_at_call 53; refine (Tryd.utf8_RuneCountInString ⟨l.toArray⟩ _ HS.out).mono ?_; rintro e w1 ⟨rfl, pos, rfl⟩)
  go_ret
  exact ⟨rfl, (Below.refl _ _).alloc (Nat.le_refl _) _⟩
theorem start_eq (b q : Int) (w : World) (hb : b = q) (h0 : 0 ≤ q) (h1 : q < 256) :
    Calls Tryd.prog 58 #[.int .u8 b] w fun e w' => e = .returned (.bool (Lib.runeStart q)) ∧ w' = w := by
  subst hb
  exact Tryd.utf8_RuneStart b w h0 h1
set_option maxRecDepth 100000 in
set_option maxHeartbeats 400000 in
theorem begin_any (l : List UInt8) (p : Nat) (w : World) (hp : p < l.length) (hl : l.length ≤ 1000000000000) (hT : Lib.Utf8Tabs 0 1 w) (h2 : 2 ≤ w.heap.size) :
    Calls Tryd.prog 36 #[.string ⟨l.toArray⟩, .int .i64 p] w fun e w' => e = .returned (.int .i64 (bgF l p 4)) ∧ Below w.heap.size w w' := by
  have HT := hid hT
  clear hT
  go_enter Tryd.func36, Tryd.ntmps36
  go_wp2
  go_loopw [5] (fun fr wr => ∃ (f : Nat) (z : Int), fr = .int .i64 z ∧ z = (p : Int) - (4 - f) ∧ f ≤ 4 ∧ -1 ≤ z ∧ Hid (bgF l p f = bgF l p 4) ∧ Below w.heap.size w wr) (fun fr _ => (intOf fr + 1).toNat)
  case atStart => exact ⟨4, _, rfl, by omega, by omega, by omega, rfl, Below.refl _ _⟩
  case round =>
    obtain ⟨f, z, rfl, hz, hf4, hz1, HF, hB⟩ := hrel
    by_cases hf : p < 4 - f
    · have HR := hid (HF.out.symm.trans (bgF_out l p f hf))
      obtain rfl : z = -1 := by omega
      clear hz
      go_wp2
      go_ret
      exact ⟨by rw [HR.out]; rfl, hB⟩
    cases f with
    | zero =>
      have HR := hid (HF.out.symm)
      have hz' : z = (p : Int) - 4 := by omega
      have HZ := hid hz'
      have c1 : ¬ (p : Int) - 4 < z := by omega
      clear hz hz'
      by_cases c2 : 0 ≤ z
      all_goals
        go_wp2
        go_ret
        exact ⟨by rw [HR.out]; rfl, hB⟩
    | succ f =>
      obtain ⟨t, ht⟩ : ∃ t : Nat, t + (3 - f) = p := ⟨p - (3 - f), by omega⟩
      obtain rfl : z = t := by omega
      have hlt : t < l.length := by omega
      have c1 : (p : Int) - 4 < t := by omega
      have htp : t ≤ p := by omega
      have hsz : t < (⟨l.toArray⟩ : ByteArray).size := by show t < l.toArray.size; simpa using hlt
      have HZ := hid hz
      have HTP := hid ht
      obtain ⟨b0, b1⟩ := byt_bd l t
      have HT1 := hid (tabs_below HT.out h2 hB)
      have hw2 : 2 ≤ wr.heap.size := by have := hB.size; omega
      clear hz ht hf
      cases hr : Lib.runeStart (byt l t) with
      | false =>
        have HM := hid (bgF_more l p f t HTP.out hr)
        go_wp2_with (go_at_call 58; refine (start_eq _ (byt l t) _ (byt_eq l t hsz) b0 b1).mono ?_; rintro e w' ⟨rfl, rfl⟩)
        go_roundw
        case rel => exact ⟨f, _, rfl, by have := HZ.out; omega, by omega, by omega, (HM.out.symm.trans HF.out), hB⟩
        case measure => simp [intOf]
      | true =>
        have h4 := dec_le4 (l.drop t)
        by_cases hn : p < t + (dec (l.drop t)).2
        · have HR := hid (HF.out.symm.trans (bgF_in l p f t HTP.out hr hn))
          go_wp2_with (go_at_call 58; refine (start_eq _ (byt l t) _ (byt_eq l t hsz) b0 b1).mono ?_; rintro e w' ⟨rfl, rfl⟩)
          refine (decode_eq _ (l.drop t) _ (ext_drop l t) (by exact HT1.out)).mono ?_
          rintro e w1 ⟨rfl, hb⟩
          generalize (dec (l.drop t)).1 = rr at *
          generalize (dec (l.drop t)).2 = nn at *
          clear hr HT1 HT HF HZ HTP b0 b1 hsz
          go_wp2
          go_ret
          exact ⟨by rw [HR.out]; rfl, hB.trans (hb.mono hB.size)⟩
        · have HR := hid (HF.out.symm.trans (bgF_off l p f t HTP.out hr hn))
          go_wp2_with (go_at_call 58; refine (start_eq _ (byt l t) _ (byt_eq l t hsz) b0 b1).mono ?_; rintro e w' ⟨rfl, rfl⟩)
          refine (decode_eq _ (l.drop t) _ (ext_drop l t) (by exact HT1.out)).mono ?_
          rintro e w1 ⟨rfl, hb⟩
          generalize (dec (l.drop t)).1 = rr at *
          generalize (dec (l.drop t)).2 = nn at *
          clear hr HT1 HT HF HZ HTP b0 b1 hsz
          go_wp2
          go_ret
          exact ⟨by rw [HR.out]; rfl, hB.trans (hb.mono hB.size)⟩
end Go.Proofs.YtlfegdpclappiaaDoor
