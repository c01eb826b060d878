/- GsW: parts of the proof, joined. -/
import Derived.Test.YtbajepdkgeldlaaGreatDoorSGsMath
namespace Go.Proofs.YtbajepdkgeldlaaGreatDoor.Br
open Go.RowKit Wt
set_option maxHeartbeats 2000000 in
theorem rcnt_any (l : List UInt8) (w : World) (hl : l.length <= 1000000) : Calls Tryz.prog 80 #[.string ⟨l.toArray⟩] w fun e w' => (∃ n : Nat, n <= l.length /\ e = .returned (.int .i64 n)) /\ Below w.heap.size w w' := by
 have HSZ := hid (show (⟨l.toArray⟩ : ByteArray).size = l.length by show l.toArray.size = _; simp)
 have HB0 := hid ((Below.refl w.heap.size w).alloc (Nat.le_refl _) (.stringIter ⟨l.toArray⟩ 0))
 have HIT0 := hid (World.iter_heap w ⟨l.toArray⟩ 0)
 go_enter Tryz.func80, Tryz.ntmps80
 go_wp2
 go_loopw [2] (fun v wr => ∃ t n : Nat, v = .int .i64 n /\ n <= t /\ t <= l.length /\ Hid (wr.heap[w.heap.size]? = some (.stringIter ⟨l.toArray⟩ t)) /\ Hid (Below w.heap.size w wr)) (fun _ wr => l.length - wr.iterPos w.heap.size)
 case atStart => exact ⟨0, 0, rfl, Nat.le_refl _, Nat.zero_le _, HIT0, HB0⟩
 case round =>
  obtain ⟨t, n, rfl, hn, ht, HI, HB⟩ := hrel
  have hin : w.heap.size < wr.heap.size := (Array.getElem?_eq_some_iff.1 HI.out).1
  by_cases hlt : t < l.length
  ·have hnx := Dc.run_next_at (P := Tryz.prog) wr w.heap.size ⟨l.toArray⟩ t 0 HI.out (by rw [HSZ.out]; exact hlt)
   rw [decode_place l t hlt] at hnx
   have d1 := dec_ge _ (drop_ne l t hlt)
   have d3 := dec_le _ (drop_ne l t hlt)
   obtain ⟨nn, hnn⟩ : ∃ nn, nn = (dec (l.drop t)).2 := ⟨_, rfl⟩
   obtain ⟨rr, hrr⟩ : ∃ rr, rr = (dec (l.drop t)).1 := ⟨_, rfl⟩
   rw [<- hnn] at hnx d1 d3
   rw [<- hrr] at hnx
   have d4 : t + nn <= l.length := by simp at d3; omega
   obtain ⟨w1, hw1⟩ : ∃ w1, w1 = wr.putObj w.heap.size (.stringIter ⟨l.toArray⟩ (t + nn)) := ⟨_, rfl⟩
   rw [<- hw1] at hnx
   have HI1 := hid (show w1.heap[w.heap.size]? = some (.stringIter ⟨l.toArray⟩ (t + nn)) by rw [hw1]; exact World.putObj_heap_same hin)
   have HB1 := hid (show Below w.heap.size w w1 by rw [hw1]; exact HB.out.trans ⟨rfl, rfl, rfl, by simp [World.putObj], fun j hj => World.putObj_heap_other (by omega)⟩)
   have HM := hid (show l.length - wr.iterPos w.heap.size = l.length - t by unfold World.iterPos; rw [HI.out])
   clear hnn hrr hw1 HI HB d3
   go_wp2
   go_roundw
   case rel => exact ⟨t + nn, n + 1, by go_num, by omega, d4, HI1, HB1⟩
   case measure =>
    rw [HM.out]
    unfold World.iterPos
    rw [HI1.out]
    show l.length - (t + nn) < l.length - t
    omega
  ·have hnx := Dc.run_next_stop (P := Tryz.prog) wr w.heap.size ⟨l.toArray⟩ t 0 HI.out (by rw [HSZ.out]; exact hlt)
   clear hlt
   go_wp2
   go_ret
   exact ⟨⟨n, by omega, rfl⟩, HB.out⟩
theorem cnt_any (l : List UInt8) (w : World) (hl : l.length <= 1000000) : Calls Tryz.prog 37 #[.string ⟨l.toArray⟩] w fun e w' => (∃ n : Nat, n <= l.length /\ e = .returned (.int .i64 n)) /\ Below w.heap.size w w' := by
 go_enter Tryz.func37, Tryz.ntmps37
 go_wp2_with fail
 refine (rcnt_any l w hl).mono ?_
 rintro e w1 ⟨⟨n, hn, rfl⟩, be⟩
 have HB := hid be
 clear be
 go_wp2
 go_ret
 exact ⟨⟨n, hn, rfl⟩, HB.out⟩
theorem cat_eq (s t : List UInt8) : (⟨s.toArray⟩ : ByteArray) ++ ⟨t.toArray⟩ = ⟨(s ++ t).toArray⟩ := by
 apply ByteArray.ext
 simp
set_option maxHeartbeats 8000000 in
set_option maxRecDepth 100000 in
theorem gs_main (a s b : List UInt8) (z : Int) (hl : a.length + s.length + b.length <= 120) (w : World) (ht : TbW w) :
  Calls Tryz.prog 7 #[.string ⟨a.toArray⟩, .string ⟨s.toArray⟩, .string ⟨b.toArray⟩, .int .i64 z] w fun e w' => e = .returned (.bool true) /\ Below w.heap.size w w' := by
 have HT := hid ht
 clear ht
 have hl1 : ¬ (120 : Int) < (a.length : Int) + (s.length : Int) + (b.length : Int) := by omega
 obtain ⟨t, htt⟩ : ∃ t, t = a ++ s ++ b := ⟨_, rfl⟩
 have htl : t.length <= 120 := by rw [htt, List.length_append, List.length_append]; omega
 have HCat := hid (cat_eq a s)
 have HCat2 := hid (show (⟨(a ++ s).toArray⟩ : ByteArray) ++ ⟨b.toArray⟩ = ⟨t.toArray⟩ by rw [cat_eq, htt])
 obtain ⟨g, hg⟩ : ∃ g, g = gsafe s z := ⟨_, rfl⟩
 obtain ⟨q1, hq1⟩ : ∃ q, q = isE t (a.length : Int) := ⟨_, rfl⟩
 obtain ⟨q2, hq2⟩ : ∃ q, q = isE t ((a.length : Int) + (s.length : Int)) := ⟨_, rfl⟩
 obtain ⟨x1, hx1⟩ : ∃ q, q = (!t.isEmpty && (gbd t).any fun x => (x : Int) == (a.length : Int) + z) := ⟨_, rfl⟩
 obtain ⟨x2, hx2⟩ : ∃ q, q = (!s.isEmpty && (gbd s).any fun x => (x : Int) == z) := ⟨_, rfl⟩
 have HEq := hid (show g = true -> q1 = true -> q2 = true -> x1 = x2 from fun h h1 h2 => by
  subst htt
  rw [hx1, hx2]
  exact safe_law a s b z (hq1.symm.trans h1) (by rw [Int.natCast_add]; exact hq2.symm.trans h2) (hg.symm.trans h))
 have HZ := hid (show g = true -> 0 <= z /\ z <= s.length from fun h => by
  have h1 : gsafe s z = true := hg.symm.trans h
  cases e : isE s z with
  | true => exact isE_bd e
  | false => unfold gsafe at h1; rw [if_pos (.inr e)] at h1; cases h1)
 have HS := hid (hg ▸ safe_any s z w HT.out (by omega))
 have HD := hid (fun (X : Nat) (W : World) (h : BrAt Dc.grU Dc.grW Pt.grRs true X W) => show Calls Tryz.prog 35 #[.pointer (some ⟨X, 0, none⟩), .string ⟨s.toArray⟩, .int .i64 z] W fun e w' => e = .returned (.bool g) /\ Below W.heap.size W w' from by
  rw [hg, safe_same]
  exact rsafe_any s z X W (by omega) h)
 have HI1 := hid (fun (W : World) (h : TbW W) => hq1 ▸ is_any t (a.length : Int) W (by omega) h.tabs h.two)
 have HI2 := hid (fun (W : World) (h : TbW W) => hq2 ▸ is_any t ((a.length : Int) + (s.length : Int)) W (by omega) h.tabs h.two)
 have HX1 := hid (fun (W : World) (h : TbW W) => hx1 ▸ gis_any t ((a.length : Int) + z) W h (by omega))
 have HX2 := hid (fun (W : World) (h : TbW W) => hx2 ▸ gis_any s z W h (by omega))
 have HC0 := hid (fun (W : World) => cnt_any t W (by omega))
 have HC1 := hid (fun (W : World) => cnt_any a W (by omega))
 have HC2 := hid (fun (W : World) => cnt_any s W (by omega))
 have HC3 := hid (fun (W : World) => cnt_any b W (by omega))
 clear hg hq1 hq2 hx1 hx2 htt
 go_enter Tryz.func7, Tryz.ntmps7
 go_wp2_with fail
 refine HS.out.mono ?_
 rintro e w1 ⟨rfl, hb1⟩
 have HB1 := hid hb1
 clear hb1 HS
 go_wp2_with fail
 refine (new11_any w1).mono ?_
 rintro e w2 ⟨hb2, X, rfl, hX⟩
 have HB2 := hid (HB1.out.trans (hb2.mono HB1.out.size))
 have HX := hid (HD.out X w2 hX)
 clear hb2 hX HD HB1
 go_wp2_with fail
 refine HX.out.mono ?_
 rintro e w3 ⟨rfl, hb3⟩
 have HB3 := hid (HB2.out.trans (hb3.mono HB2.out.size))
 clear hb3 HX HB2
 go_wp2_with fail
 rw [HCat.out, HCat2.out]
 refine (HI1.out w3 (HT.out.below HB3.out)).mono ?_
 rintro e w4 ⟨rfl, hb4⟩
 have HB4 := hid (HB3.out.trans (hb4.mono HB3.out.size))
 clear hb4 HB3 HI1
 cases q1 with
 | false =>
  have HW4 := hid HB4.out
  cases g with
  | false =>
   go_wp2_with fail
   refine (lives11 w4 (HT.out.below HW4.out)).mono ?_
   rintro e w99 ⟨rfl, hb9⟩
   have HB9 := hid (HW4.out.trans (hb9.mono HW4.out.size))
   clear hb9
   go_wp2
   go_ret
   exact ⟨rfl, HB9.out⟩
  | true =>
   go_wp2_with fail
   refine (lives11 w4 (HT.out.below HW4.out)).mono ?_
   rintro e w99 ⟨rfl, hb9⟩
   have HB9 := hid (HW4.out.trans (hb9.mono HW4.out.size))
   clear hb9
   go_wp2
   go_ret
   exact ⟨rfl, HB9.out⟩
 | true =>
  have HW4 := hid HB4.out
  have ew1 : IntKind.i64.wrap ((a.length : Int) + (s.length : Int)) = (a.length : Int) + (s.length : Int) := by unfold IntKind.wrap IntKind.bits IntKind.signed; simp; omega
  go_wp2_with fail
  refine (HI2.out w4 (HT.out.below HW4.out)).mono ?_
  rintro e w5 ⟨rfl, hb4⟩
  have HW5 := hid (HW4.out.trans (hb4.mono HW4.out.size))
  clear hb4
  cases q2 with
  | false =>
   cases g with
   | false =>
    go_wp2_with fail
    refine (lives11 w5 (HT.out.below HW5.out)).mono ?_
    rintro e w99 ⟨rfl, hb9⟩
    have HB9 := hid (HW5.out.trans (hb9.mono HW5.out.size))
    clear hb9
    go_wp2
    go_ret
    exact ⟨rfl, HB9.out⟩
   | true =>
    go_wp2_with fail
    refine (lives11 w5 (HT.out.below HW5.out)).mono ?_
    rintro e w99 ⟨rfl, hb9⟩
    have HB9 := hid (HW5.out.trans (hb9.mono HW5.out.size))
    clear hb9
    go_wp2
    go_ret
    exact ⟨rfl, HB9.out⟩
  | true =>
   go_wp2_with fail
   refine (HC0.out w5).mono ?_
   rintro e w6 ⟨⟨n0, hn0, rfl⟩, hb4⟩
   have HW6 := hid (HW5.out.trans (hb4.mono HW5.out.size))
   clear hb4
   go_wp2_with fail
   refine (HC1.out w6).mono ?_
   rintro e w7 ⟨⟨n1, hn1, rfl⟩, hb4⟩
   have HW7 := hid (HW6.out.trans (hb4.mono HW6.out.size))
   clear hb4
   go_wp2_with fail
   refine (HC2.out w7).mono ?_
   rintro e w8 ⟨⟨n2, hn2, rfl⟩, hb4⟩
   have HW8 := hid (HW7.out.trans (hb4.mono HW7.out.size))
   clear hb4
   go_wp2_with fail
   refine (HC3.out w8).mono ?_
   rintro e w9 ⟨⟨n3, hn3, rfl⟩, hb4⟩
   have HW9 := hid (HW8.out.trans (hb4.mono HW8.out.size))
   clear hb4
   have ew2 : IntKind.i64.wrap ((n1 : Int) + (n2 : Int)) = (n1 : Int) + (n2 : Int) := by unfold IntKind.wrap IntKind.bits IntKind.signed; simp; omega
   have ew3 : IntKind.i64.wrap ((n1 : Int) + (n2 : Int) + (n3 : Int)) = (n1 : Int) + (n2 : Int) + (n3 : Int) := by unfold IntKind.wrap IntKind.bits IntKind.signed; simp; omega
   obtain ⟨u0, hu0⟩ : ∃ u : Int, u = (n1 : Int) + (n2 : Int) + (n3 : Int) := ⟨_, rfl⟩
   rw [<- hu0] at ew3
   by_cases hq : (n0 : Int) = u0
   ·cases g with
    | false =>
     go_wp2_with fail
     refine (lives11 w9 (HT.out.below HW9.out)).mono ?_
     rintro e w99 ⟨rfl, hb9⟩
     have HB9 := hid (HW9.out.trans (hb9.mono HW9.out.size))
     clear hb9
     go_wp2
     go_ret
     exact ⟨rfl, HB9.out⟩
    | true =>
     have hz := HZ.out (by trivial)
     have he : x1 = x2 := HEq.out (by trivial) (by trivial) (by trivial)
     have ew4 : IntKind.i64.wrap ((a.length : Int) + z) = (a.length : Int) + z := by unfold IntKind.wrap IntKind.bits IntKind.signed; simp; omega
     subst he
     go_wp2_with fail
     refine (HX1.out w9 (HT.out.below HW9.out)).mono ?_
     rintro e w10 ⟨rfl, hb4⟩
     have HW10 := hid (HW9.out.trans (hb4.mono HW9.out.size))
     clear hb4
     go_wp2_with fail
     refine (HX2.out w10 (HT.out.below HW10.out)).mono ?_
     rintro e w11 ⟨rfl, hb4⟩
     have HW11 := hid (HW10.out.trans (hb4.mono HW10.out.size))
     clear hb4
     go_wp2_with fail
     refine (lives11 w11 (HT.out.below HW11.out)).mono ?_
     rintro e w99 ⟨rfl, hb9⟩
     have HB9 := hid (HW11.out.trans (hb9.mono HW11.out.size))
     clear hb9
     go_wp2
     go_ret
     exact ⟨rfl, HB9.out⟩
   ·cases g with
    | false =>
     go_wp2_with fail
     refine (lives11 w9 (HT.out.below HW9.out)).mono ?_
     rintro e w99 ⟨rfl, hb9⟩
     have HB9 := hid (HW9.out.trans (hb9.mono HW9.out.size))
     clear hb9
     go_wp2
     go_ret
     exact ⟨rfl, HB9.out⟩
    | true =>
     go_wp2_with fail
     refine (lives11 w9 (HT.out.below HW9.out)).mono ?_
     rintro e w99 ⟨rfl, hb9⟩
     have HB9 := hid (HW9.out.trans (hb9.mono HW9.out.size))
     clear hb9
     go_wp2
     go_ret
     exact ⟨rfl, HB9.out⟩
set_option maxRecDepth 100000 in
theorem gs_walk (a s b : List UInt8) (z : Int) (ha : a.length <= 1000000000000000) (hs : s.length <= 1000000000000000) (hb : b.length <= 1000000000000000) (w : World) (ht : TbW w) :
  Calls Tryz.prog 7 #[.string ⟨a.toArray⟩, .string ⟨s.toArray⟩, .string ⟨b.toArray⟩, .int .i64 z] w fun e w' => e = .returned (.bool true) /\ Below w.heap.size w w' := by
 by_cases h0 : a.length + s.length + b.length <= 120
 ·exact gs_main a s b z h0 w ht
 ·have HL := hid (lives11 w ht)
  have h1 : (120 : Int) < (a.length : Int) + (s.length : Int) + (b.length : Int) := by omega
  clear ht
  go_enter Tryz.func7, Tryz.ntmps7
  go_wp2_with fail
  refine HL.out.mono ?_
  rintro e w1 ⟨rfl, hb⟩
  have HB := hid hb
  clear hb HL
  go_wp2
  go_ret
  exact ⟨rfl, HB.out⟩
end Go.Proofs.YtbajepdkgeldlaaGreatDoor.Br
