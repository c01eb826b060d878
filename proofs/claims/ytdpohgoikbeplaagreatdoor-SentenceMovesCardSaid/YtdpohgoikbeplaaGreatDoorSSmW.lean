/- SmW: parts of the proof, joined. -/
import Derived.Test.YtdpohgoikbeplaaGreatDoorSSbW
import Derived.Test.YtdpohgoikbeplaaGreatDoorSGmDoc
namespace Go.Proofs.YtdpohgoikbeplaaGreatDoor.Sn
open Go.RowKit Wt Br
theorem arn_sbs (z : Int) (l : List UInt8) : arn z (sbd l) = arn z (sbs l) := by
 unfold sbs
 by_cases h : l = []
 ·rw [if_pos h, h]; rfl
 ·rw [if_neg h]
theorem abv_sbs (z : Int) (l : List UInt8) : abv z l.length (sbd l) = abv z l.length (sbs l) := by
 unfold sbs
 by_cases h : l = []
 ·rw [if_pos h, h]
  show (if z < ((0 : Nat) : Int) then 0 else 0) = 0
  split <;> rfl
 ·rw [if_neg h]
theorem blw_sbs (z : Int) (l : List UInt8) : blw z 0 (sbd l) = blw z 0 (sbs l) := by
 unfold sbs
 by_cases h : l = []
 ·rw [if_pos h, h]
  show (if ((0 : Nat) : Int) < z then 0 else 0) = 0
  split <;> rfl
 ·rw [if_neg h]
def anyE (z : Int) (D : List Nat) : Bool := D.any fun x => (x : Int) == z
theorem is_sbs (z : Int) (l : List UInt8) : (!l.isEmpty && (sbd l).any fun x => (x : Int) == z) = anyE z (sbs l) := by
 unfold sbs anyE
 by_cases h : l = []
 ·rw [if_pos h, h]; rfl
 ·rw [if_neg h, show l.isEmpty = false by simpa using h]; rfl
theorem any_take {D : List Nat} {i x : Nat} {z : Int} (h : D[i]? = some x) : anyE z (D.take (i + 1)) = (anyE z (D.take i) || ((x : Int) == z)) := by
 obtain ⟨h1, h2⟩ := List.getElem?_eq_some_iff.1 h
 unfold anyE
 rw [List.take_succ_eq_append_getElem h1, List.any_append, h2]
 simp
theorem ls_any {w w' : World} {L : List Nat} {e : Ending} (h : Pt.LsQ w L e w') : ∃ vo vc, e = .returned (.slice vo L.length vc) /\ (L.length = 0 \/ ∃ g, vo = some ⟨g, 0, none⟩) /\ Pt.RdI w' vo (L.map fun (x : Nat) => (x : Int)) /\ Below w.heap.size w w' := by
 obtain ⟨vo, vc, rfl, ho, hb⟩ := h
 refine ⟨vo, vc, rfl, ?_, Pt.rdi_own ho rfl, hb⟩
 rcases ho.2 with ⟨_, h2⟩ | ⟨g, _, _, h1, _⟩
 ·exact .inl h2
 ·cases h1
  exact .inr ⟨g, rfl⟩
set_option maxHeartbeats 8000000 in
set_option maxRecDepth 100000 in
theorem sm_main (l : List UInt8) (z : Int) (hl : l.length <= 100) (w : World) (ht : TbW w) :
  Calls Tryz.prog 9 #[.string ⟨l.toArray⟩, .int .i64 z] w fun e w' => e = .returned (.bool true) /\ Below w.heap.size w w' := by
 have HT := hid ht
 have hD9 : (sbs l).length <= 101 := by have := sbs_len l; omega
 clear ht
 have hl1 : ¬ (100 : Int) < (l.length : Int) := by omega
 have HG3 := hid (fun (X : Nat) (W : World) (h : Br.BrAt Dc.snU Dc.snW Pt.snRs false X W) => sbounds9 X l (by omega) W h)
 have HA := hid (fun (W : World) (h : Below w.heap.size w W) => saro_any l z W (HT.out.below h) (by omega))
 have HI := hid (fun (W : World) (h : Below w.heap.size w W) => sis_any l z W (HT.out.below h) (by omega))
 have HNx := hid (fun (W : World) (h : Below w.heap.size w W) => snext_any l z W (HT.out.below h) (by omega))
 have HPv := hid (fun (W : World) (h : Below w.heap.size w W) => sprev_any l z W (HT.out.below h) (by omega))
 rw [arn_sbs] at HA
 rw [is_sbs] at HI
 rw [abv_sbs] at HNx
 rw [blw_sbs] at HPv
 obtain ⟨D, hD⟩ : ∃ D, D = sbs l := ⟨_, rfl⟩
 rw [<- hD] at hD9 HA HI HNx HPv HG3
 clear hD
 obtain ⟨n, hn⟩ : ∃ n, n = D.length := ⟨_, rfl⟩
 rw [<- hn] at hD9
 have HN := hid hn
 obtain ⟨p, hp⟩ : ∃ p, p = (arn z D).1 := ⟨_, rfl⟩
 obtain ⟨q, hq⟩ : ∃ q, q = (arn z D).2 := ⟨_, rfl⟩
 have HAd := hid (fun (ao : Option Addr) (ac : Nat) (W : World) (h : Pt.RdI W ao (D.map fun (x : Nat) => (x : Int))) (h0 : n = 0 \/ ∃ g, ao = some ⟨g, 0, none⟩) => around_any ao n ac D z W h hn (by omega) h0)
 have HAb := hid (fun (ao : Option Addr) (ac : Nat) (W : World) (h : Pt.RdI W ao (D.map fun (x : Nat) => (x : Int))) => above_any ao n ac D z l.length W h hn (by omega))
 have HBl := hid (fun (ao : Option Addr) (ac : Nat) (W : World) (h : Pt.RdI W ao (D.map fun (x : Nat) => (x : Int))) => below_any ao n ac D z W h hn (by omega))
 rw [<- hp, <- hq] at HA HAd
 obtain ⟨ab, hab⟩ : ∃ a, a = abv z l.length D := ⟨_, rfl⟩
 obtain ⟨bl, hbl⟩ : ∃ a, a = blw z 0 D := ⟨_, rfl⟩
 rw [<- hab] at HNx HAb
 rw [<- hbl] at HPv HBl
 clear hp hq hab hbl
 go_enter Tryz.func9, Tryz.ntmps9
 go_wp2_with fail
 refine (new13_any w).mono ?_
 rintro e w2 ⟨hb2, X, rfl, hX⟩
 have HB2 := hid hb2
 have HX := hid (HG3.out X w2 hX)
 clear hb2 hX HG3
 go_wp2_with fail
 refine HX.out.mono ?_
 rintro e w3 h3
 obtain ⟨vo, vc, rfl, h0, hr, hb3⟩ := ls_any h3
 rw [<- hn] at h0 ⊢
 have H0 := hid h0
 have HR3 := hid hr
 have HB3 := hid (HB2.out.trans (hb3.mono HB2.out.size))
 clear h3 h0 hr hb3 HX HB2 hn
 go_wp2_with fail
 refine (HA.out w3 HB3.out).mono ?_
 rintro e w4 ⟨rfl, hb4⟩
 have HR4 := hid (HR3.out.below hb4)
 have HB4 := hid (HB3.out.trans (hb4.mono HB3.out.size))
 clear hb4 HR3 HB3 HA
 go_wp2_with fail
 refine (HAd.out vo vc w4 HR4.out H0.out).mono ?_
 rintro e w5 ⟨rfl, hb5⟩
 have HR5 := hid (HR4.out.below hb5)
 have HB5 := hid (HB4.out.trans (hb5.mono HB4.out.size))
 clear hb5 HR4 HB4 HAd
 go_wp2
 go_loopw [10, 11] (fun v y wr => ∃ (i : Nat) (b : Bool), v = .bool b /\ y = .int .i64 i /\ i <= n /\ wr = w5 /\ Hid (b = anyE z (D.take i))) (fun _ y _ => n - (intOf y).toNat)
 case atStart => exact ⟨0, false, rfl, rfl, Nat.zero_le _, rfl, hid rfl⟩
 case round =>
  obtain ⟨i, b, rfl, rfl, hi, rfl, HE⟩ := hrel
  by_cases hlt : i < n
  ·have i0 : (0 : Int) <= (i : Int) := by omega
   have i1 : (i : Int) < (n : Int) := by omega
   have hil : i < D.length := by have := HN.out; omega
   obtain ⟨a, rfl, c1⟩ := rdi_nat HR5.out hil
   obtain ⟨x, hx⟩ : ∃ x, x = D[i] := ⟨_, rfl⟩
   have HXx := hid (show D[i]? = some x by rw [hx]; exact List.getElem?_eq_getElem hil)
   rw [<- hx] at c1
   clear hx hil; have HS := hid (any_take (z := z) HXx.out)
   cases b with
   | true =>
    have HF := hid (show true = anyE z (D.take (i + 1)) by rw [HS.out, <- HE.out]; rfl)
    go_wp2
    go_roundw
    case rel => exact ⟨i + 1, true, rfl, by go_num, by omega, trivial, HF⟩
    case measure => simp [intOf]; omega
   | false =>
    have HF := hid (show ((x : Int) == z) = anyE z (D.take (i + 1)) by rw [HS.out, <- HE.out]; rfl)
    go_wp2
    go_roundw
    case rel => exact ⟨i + 1, ((x : Int) == z), rfl, by go_num, by omega, trivial, HF⟩
    case measure => simp [intOf]; omega
  ·have i1 : ¬ (i : Int) < (n : Int) := by omega
   have HF := hid (show b = anyE z D by rw [HE.out, List.take_of_length_le (by have := HN.out; omega)])
   rw [<- HF.out] at HI
   clear HE HF
   go_wp2_with fail
   refine (HI.out wr HB5.out).mono ?_
   rintro e w6 ⟨rfl, hb6⟩; have HR6 := hid (HR5.out.below hb6)
   have HB6 := hid (HB5.out.trans (hb6.mono HB5.out.size))
   clear hb6 HR5 HB5 HI; have bb : (b == b) = true := by simp
   go_wp2_with fail
   refine (HNx.out w6 HB6.out).mono ?_
   rintro e w7 ⟨rfl, hb7⟩; have HR7 := hid (HR6.out.below hb7)
   have HB7 := hid (HB6.out.trans (hb7.mono HB6.out.size))
   clear hb7 HR6 HB6 HNx
   go_wp2_with fail
   refine (HAb.out vo vc w7 HR7.out).mono ?_
   rintro e w8 ⟨rfl, e8⟩; obtain rfl := e8.symm
   clear e8 HAb
   go_wp2_with fail
   refine (HPv.out w7 HB7.out).mono ?_
   rintro e w8 ⟨rfl, hb8⟩; have HR8 := hid (HR7.out.below hb8)
   have HB8 := hid (HB7.out.trans (hb8.mono HB7.out.size))
   clear hb8 HR7 HB7 HPv
   go_wp2_with fail
   refine (HBl.out vo vc w8 HR8.out).mono ?_
   rintro e w9 ⟨rfl, e9⟩; obtain rfl := e9.symm
   clear e9 HBl
   go_wp2_with fail
   refine (lives13 w8).mono ?_
   rintro e w9 ⟨rfl, hb9⟩; have HB9 := hid (HB8.out.trans (hb9.mono HB8.out.size))
   clear hb9 HB8
   go_wp2
   go_ret; exact ⟨rfl, HB9.out⟩
set_option maxRecDepth 100000 in
theorem sm_walk (l : List UInt8) (z : Int) (w : World) (ht : TbW w) :
  Calls Tryz.prog 9 #[.string ⟨l.toArray⟩, .int .i64 z] w fun e w' => e = .returned (.bool true) /\ Below w.heap.size w w' := by
 by_cases h0 : 100 < l.length
 ·have HL := hid (lives13 w)
  have h1 : (100 : Int) < (l.length : Int) := by omega
  clear ht
  go_enter Tryz.func9, Tryz.ntmps9
  go_wp2_with fail
  refine HL.out.mono ?_
  rintro e w1 ⟨rfl, hb⟩; have HB := hid hb
  clear hb HL
  go_wp2
  go_ret; exact ⟨rfl, HB.out⟩
 ·exact sm_main l z (by omega) w ht
end Go.Proofs.YtdpohgoikbeplaaGreatDoor.Sn
