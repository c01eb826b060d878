/- GsSafe: parts of the proof, joined. -/
import Derived.Test.YtbajepdkgeldlaaGreatDoorSGrTurn
import Derived.Test.YtbajepdkgeldlaaGreatDoorSGsFun
namespace Go.Proofs.YtbajepdkgeldlaaGreatDoor.Br
open Go.RowKit Wt
def gsafeN (l : List UInt8) (p : Nat) : Bool :=
 if p = 0 then gpfirst l == 1 || gpfirst l == 3
 else if p = l.length then gplast l == 2 || gplast l == 3
 else if gbt (gplast (l.take p)) (gpfirst (l.drop p)) ≠ 2 then true
 else if gplast (l.take p) = 13 then !((gcs (l.take p)).all fun x => x == 13)
 else !((gcs (l.take (p - (decLast (l.take p)).2))).all fun x => x == 4)
def gsafe (l : List UInt8) (z : Int) : Bool := if l = [] \/ isE l z = false then false else gsafeN l z.toNat
theorem isE_bd {l : List UInt8} {z : Int} (h : isE l z = true) : 0 <= z /\ z <= l.length := by
 unfold isE at h
 by_cases h0 : z <= 0
 ·rw [if_pos h0] at h
  have : z = 0 := by simpa using h
  omega
 ·rw [if_neg h0] at h
  by_cases h1 : (l.length : Int) <= z
  ·rw [if_pos h1] at h
   have : z = l.length := by simpa using h
   omega
  ·omega
theorem dl_bd (l : List UInt8) (h : l ≠ []) : (decLast l).2 <= l.length := by
 obtain ⟨e, n, c, h1, h2, h3, _⟩ := last_step l h
 rw [h1]
 show n <= _
 omega
set_option maxRecDepth 100000 in
set_option maxHeartbeats 4000000 in
theorem safe_any (l : List UInt8) (z : Int) (w : World) (ht : TbW w) (hl : l.length <= 100000000) :
  Calls Tryz.prog 34 #[.string ⟨l.toArray⟩, .int .i64 z] w fun e w' => e = .returned (.bool (gsafe l z)) /\ Below w.heap.size w w' := by
 have HT := hid ht
 have HI := hid (is_any l z w (by omega) ht.tabs ht.two)
 clear ht
 by_cases hne : l = []
 ·subst hne
  have HV := hid (show gsafe [] z = false from if_pos (.inl rfl))
  rw [HV.out]
  go_enter Tryz.func34, Tryz.ntmps34
  go_wp2
  go_ret
  exact ⟨rfl, Below.refl _ _⟩
 have hie : l.isEmpty = false := by simpa using hne
 by_cases hi : isE l z = true
 ·have hbd := isE_bd hi
  obtain ⟨p, rfl⟩ : ∃ p : Nat, z = p := ⟨z.toNat, by omega⟩
  have HV := hid (show gsafe l p = gsafeN l p by unfold gsafe; rw [if_neg (by rw [hi]; simp [hne])]; rfl)
  rw [HV.out]
  rw [hi] at HI
  have hp2 : p <= l.length := by omega
  clear hbd hi HV
  have HS := hid (fun (W : World) (hT : TbW W) => gstep_any l p W hT (by omega) hp2)
  have HL := hid (fun (W : World) (hT : TbW W) => glast_any (l.take p) W hT (by rw [List.length_take]; omega))
  have HW := hid (fun (h : 0 < p) => show (decLast (l.take p)).2 <= p by have := dl_bd (l.take p) (by intro e; have h9 := congrArg List.length e; rw [List.length_take, List.length_nil] at h9; omega); rw [List.length_take] at this; omega)
  have HF := hid (show gstep l p = if p = l.length then (3, p) else (gpfirst (l.drop p), p + (dec (l.drop p)).2) from rfl)
  have HG := hid (show gsafeN l p = if p = 0 then gpfirst l == 1 || gpfirst l == 3 else if p = l.length then gplast l == 2 || gplast l == 3 else if gbt (gplast (l.take p)) (gpfirst (l.drop p)) ≠ 2 then true else if gplast (l.take p) = 13 then !((gcs (l.take p)).all fun x => x == 13) else !((gcs (l.take (p - (decLast (l.take p)).2))).all fun x => x == 4) from rfl)
  have HD0 := hid (show p = 0 -> l.drop p = l by rintro rfl; rfl)
  have HDl := hid (show p = l.length -> l.take p = l by rintro rfl; exact List.take_length)
  have HNe := hid (show p = 0 -> p ≠ l.length by rintro rfl e; exact hne (List.length_eq_zero_iff.1 e.symm))
  obtain ⟨bv, hbv⟩ : ∃ v, v = (gstep l p).1 := ⟨_, rfl⟩
  obtain ⟨nv, hnv⟩ : ∃ v, v = (gstep l p).2 := ⟨_, rfl⟩
  obtain ⟨av, hav⟩ : ∃ v, v = gplast (l.take p) := ⟨_, rfl⟩
  obtain ⟨mv, hmv⟩ : ∃ v, v = (decLast (l.take p)).2 := ⟨_, rfl⟩
  obtain ⟨gv, hgv⟩ : ∃ v, v = gsafeN l p := ⟨_, rfl⟩
  rw [<- hbv, <- hnv] at HS
  rw [<- hav, <- hmv] at HL
  rw [<- hmv] at HW
  rw [<- hgv, <- hav, <- hmv] at HG
  rw [<- hgv]
  have HB := hid (show p ≠ l.length -> bv = gpfirst (l.drop p) from fun h => by rw [hbv, HF.out, if_neg h])
  have HA := hid hav
  clear hbv hnv hav hmv hgv HF
  go_enter Tryz.func34, Tryz.ntmps34
  go_wp2_with fail
  refine HI.out.mono ?_
  rintro e w1 ⟨rfl, be⟩
  have HB1 := hid be
  clear be HI
  go_wp2_with fail
  refine (HS.out w1 (HT.out.below HB1.out)).mono ?_
  rintro e w2 ⟨rfl, be⟩
  have HB2 := hid (HB1.out.trans (be.mono HB1.out.size))
  clear be HB1 HS
  go_wp2_with fail
  rw [ext_takeP]
  refine (HL.out w2 (HT.out.below HB2.out)).mono ?_
  rintro e w3 ⟨rfl, be⟩
  have HB3 := hid (HB2.out.trans (be.mono HB2.out.size))
  clear be HB2 HL
  by_cases c0 : p = 0
  ·have HV := hid (show gv = (bv == 1 || bv == 3) by have hb := HB.out (HNe.out c0); rw [HD0.out c0] at hb; have hv := HG.out; rw [if_pos c0, <- hb] at hv; exact hv)
   have c0' : (p : Int) = 0 := by omega
   clear HG HB HW HDl HNe HD0 HA hp2
   go_wp2
   all_goals go_ret
   all_goals exact ⟨by rw [HV.out]; first | rfl | simp [*], HB3.out⟩
  have hv := HG.out
  rw [if_neg c0] at hv
  have c0' : ¬ (p : Int) = 0 := by omega
  by_cases c1 : p = l.length
  ·rw [if_pos c1] at hv
   have ha := HA.out
   rw [HDl.out c1] at ha
   rw [<- ha] at hv
   have HV := hid hv
   clear hv ha HG HB HW HD0 HNe HDl HA hp2
   subst c1
   go_wp2
   all_goals go_ret
   all_goals exact ⟨by rw [HV.out]; first | rfl | simp [*], HB3.out⟩
  rw [if_neg c1, <- HB.out c1] at hv
  have c1' : ¬ (p : Int) = (l.length : Int) := by omega
  have hw := HW.out (by omega)
  have hpp : 0 < p := by omega
  clear HG HB HW HD0 HNe HDl HA c0 c1
  obtain ⟨tv, htv⟩ : ∃ v, v = gbt av bv := ⟨_, rfl⟩
  have HGB := hid (htv ▸ gbt_any av bv w3)
  rw [<- htv] at hv
  clear htv
  by_cases c2 : tv = 2
  ·rw [if_neg (by simpa using c2)] at hv
   subst c2
   by_cases c3 : av = 13
   ·rw [if_pos c3] at hv
    have HV := hid hv
    clear hv
    subst c3
    go_wp2_with fail
    refine HGB.out.mono ?_
    rintro e w4 ⟨rfl, hw4⟩
    obtain rfl := hw4.symm
    go_wp2_with fail
    rw [ext_takeP]
    refine (only_any (l.take p) 13 w3).mono ?_
    rintro e w5 ⟨rfl, be⟩
    have HB5 := hid (HB3.out.trans (be.mono HB3.out.size))
    clear be HB3
    go_wp2
    go_ret
    exact ⟨by rw [HV.out]; rfl, HB5.out⟩
   ·rw [if_neg c3] at hv
    have HV := hid hv
    clear hv
    have e1 : IntKind.i64.wrap ((p : Int) - (mv : Int)) = ((p - mv : Nat) : Int) := by unfold IntKind.wrap IntKind.bits IntKind.signed; simp; omega
    go_wp2_with fail
    refine HGB.out.mono ?_
    rintro e w4 ⟨rfl, hw4⟩
    obtain rfl := hw4.symm
    go_wp2_with fail
    rw [ext_takeP]
    refine (only_any (l.take (p - mv)) 4 w3).mono ?_
    rintro e w5 ⟨rfl, be⟩
    have HB5 := hid (HB3.out.trans (be.mono HB3.out.size))
    clear be HB3
    go_wp2
    go_ret
    exact ⟨by rw [HV.out]; rfl, HB5.out⟩
  ·rw [if_pos (by simpa using c2)] at hv
   have HV := hid hv
   clear hv
   go_wp2_with fail
   refine HGB.out.mono ?_
   rintro e w4 ⟨rfl, hw4⟩
   obtain rfl := hw4.symm
   go_wp2
   go_ret
   exact ⟨by rw [HV.out]; first | rfl | simp [*], HB3.out⟩
 ·have hi2 : isE l z = false := by simpa using hi
  have HV := hid (show gsafe l z = false from if_pos (.inr hi2))
  rw [HV.out]
  rw [hi2] at HI
  clear hi
  go_enter Tryz.func34, Tryz.ntmps34
  go_wp2_with fail
  refine HI.out.mono ?_
  rintro e w1 ⟨rfl, be⟩
  have HB1 := hid be
  clear be HI
  go_wp2
  go_ret
  exact ⟨rfl, HB1.out⟩
end Go.Proofs.YtbajepdkgeldlaaGreatDoor.Br
