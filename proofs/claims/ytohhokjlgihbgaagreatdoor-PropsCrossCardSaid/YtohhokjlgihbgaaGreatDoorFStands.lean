/- The contract of stands (package kerflaw04): a database and the document's of the same names and ranges tell the same. -/
import Derived.Test.YtohhokjlgihbgaaGreatDoorFRRanged
import Derived.Test.YtohhokjlgihbgaaGreatDoorFRNew
import Derived.Test.YtohhokjlgihbgaaGreatDoorFLive4
import Derived.Test.YtohhokjlgihbgaaGreatDoorFBkMath2
import Derived.Test.YtohhokjlgihbgaaGreatDoorFCr
import Derived.Test.YtohhokjlgihbgaaGreatDoorFMix
import Derived.Test.YtohhokjlgihbgaaGreatDoorFRLine
import Derived.Test.YtohhokjlgihbgaaGreatDoorFBare
namespace Go.Proofs.YtohhokjlgihbgaaGreatDoor
open Go.RowKit

/-- Names and ranges as New makes them. -/
structure TwP (U : List (List UInt8)) (A : List Tr) : Prop where
  cov : Cov 0 A 1114112
  alt : Alt A
  cls : ∀ g ∈ A, g.2.2 < U.length
  nd : U.Nodup
  one : 1 ≤ U.length
  len : U.length ≤ 64
  nam : NamU U
  al : A.length ≤ 30000
  pw : A.Pairwise fun x y => x.2.1 < y.2.1
  en : ∃ g ∈ A, g.2.1 = 1114111
/-- The database and the document's in memory. -/
structure Twn (m : Int) (P K Q Bd Bq : Nat) (U : List (List UInt8)) (A : List Tr) (nv : Value) (po : Option Addr) (pc : Nat) (nv2 sv2 : Value) (vs2 : List Value) (w : World) : Prop where
  db : DbAt Bd P K U nv (.slice po A.length pc) w
  row : RdK w po (A.map rkT)
  doc : DocAt Bq Q U (dst U.length A) nv2 sv2 vs2 w
  tb : Tbs m w
theorem Twn.below {m : Int} {P K Q Bd Bq : Nat} {U : List (List UInt8)} {A : List Tr} {nv : Value} {po : Option Addr} {pc : Nat} {nv2 sv2 : Value} {vs2 : List Value} {w w' : World} (h : Twn m P K Q Bd Bq U A nv po pc nv2 sv2 vs2 w) (hb : Below w.heap.size w w') : Twn m P K Q Bd Bq U A nv po pc nv2 sv2 vs2 w' :=
  ⟨h.db.below hb, h.row.below hb, h.doc.below hb, h.tb.below hb⟩
theorem idx_nodup (U : List (List UInt8)) (h : U.Nodup) (i : Nat) (hi : i < U.length) : U.idxOf U[i] = i :=
  idx_here U U[i] i hi rfl (fun h5 => by
    obtain ⟨p, hp⟩ := List.mem_iff_getElem?.1 h5
    rw [List.getElem?_take] at hp
    split at hp
    · rename_i hpi
      obtain ⟨h6, h7⟩ := List.getElem?_eq_some_iff.1 hp
      exact List.pairwise_iff_getElem.1 h p i h6 hi hpi h7
    · cases hp)
theorem own_some {w : World} {B e s n : Nat} {v : Value} {xs : List Value} (h : w.ownsRow B e s v n xs) (hn : 0 < n) : ∃ g cap, v = .slice (some ⟨g, 0, none⟩) n cap ∧ B ≤ g := by
  obtain ⟨g, cap, h1, h2, _⟩ := h.form hn
  exact ⟨g, cap, h1, h2⟩
theorem row_at {w : World} {B e s g n cap : Nat} {xs : List Value} (h : w.ownsRow B e s (.slice (some ⟨g, 0, none⟩) n cap) n xs) (j : Nat) (hj : j < n * s) : ∃ v, w.cell? ⟨g, j, none⟩ = some v ∧ w.frozen? ⟨g, j, none⟩ = false := by
  refine ⟨xs[j]'(by rw [h.1]; exact hj), ?_, h.frozenAt j⟩
  rw [h.cellAt j hj, List.getElem?_eq_getElem]
set_option maxRecDepth 100000 in
set_option maxHeartbeats 12000000 in
theorem stands_any (m : Int) (P K Q Bd Bq : Nat) (U : List (List UInt8)) (A : List Tr) (nv : Value) (po : Option Addr) (pc : Nat) (nv2 sv2 : Value) (vs2 : List Value) (ao : Option Addr) (ac : Nat) (E : List Int) (w : World) (hP : TwP U A) (h : Twn m P K Q Bd Bq U A nv po pc nv2 sv2 vs2 w) (hE : RdZ w ao E) (hEl : E.length ≤ 1000) :
    Calls Tryz.prog 13 #[.pointer (some ⟨P, 0, none⟩), .pointer (some ⟨Q, 0, none⟩), .slice ao E.length ac] w fun e w' => e = .returned (.bool true) ∧ Below w.heap.size w w' := by
  obtain ⟨p1, p2, p3, p4, p5, p6, p7, p8, p9, p10⟩ := hP
  have HP := hid h
  obtain ⟨M, hM⟩ : ∃ M, M = w.heap.size := ⟨_, rfl⟩
  have HMW := hid hM
  rw [← hM]
  have HTW := hid (show ∀ W, Below M w W → Twn m P K Q Bd Bq U A nv po pc nv2 sv2 vs2 W from fun W hW => h.below (by rw [← hM]; exact hW))
  have HEW := hid (show ∀ W, Below M w W → RdZ W ao E from fun W hW => hE.below (by rw [← hM]; exact hW))
  have hBL : ∀ b ∈ U, b.length ≤ 1000 := fun b hb => by have h5 := (nam_parts b (p7 b hb)).2.1; omega
  have hST : ∀ c : Int, (stc c A).length ≤ 40000 := fun c => by have h5 := stc_len c A; omega
  have hNF : ∀ c : Nat, nf (stc (c : Int) A) := fun c => (nf_stc A 0 _ (c : Int) p1 p2 (Nat.le_refl _)).1
  obtain ⟨no, nc, rfl, _⟩ := rdn_own h.doc.hN rfl
  have HC0 := hid (show ∀ W, Below M w W → W.cell? ⟨Q, 0, none⟩ = some (.slice no U.length nc) from fun W hW => (HTW.out W hW).doc.c0)
  have HRN := hid (show ∀ W, Below M w W → RdN W no U from fun W hW => by
    obtain ⟨no', nc', e, hr⟩ := rdn_own (HTW.out W hW).doc.hN rfl
    cases e
    exact hr)
  have HNA := hid (show ∀ W, Below M w W → Calls Tryz.prog 19 #[.pointer (some ⟨P, 0, none⟩)] W fun e w' => ∃ v', e = .returned v' ∧ w'.ownsRow W.heap.size 9 1 v' U.length (nms U) ∧ Below W.heap.size W w' from fun W hW => names_any Bd P K U nv _ W (HTW.out W hW).db (by omega) (by omega))
  have HRG := hid (show ∀ W, Below M w W → Calls Tryz.prog 33 #[.pointer (some ⟨P, 0, none⟩)] W fun e w' => ∃ v', e = .returned v' ∧ w'.ownsRow W.heap.size 86 3 v' (rgd A).length (rks (rgd A)) ∧ Below W.heap.size W w' from fun W hW => ranged_any Bd P K U nv po pc A W (HTW.out W hW).db (HTW.out W hW).row (by omega))
  have HRR := hid (show ∀ W, Below M w W → Calls Tryz.prog 42 #[.pointer (some ⟨Q, 0, none⟩)] W fun e w' => ∃ v', e = .returned v' ∧ w'.ownsRow W.heap.size 86 3 v' (rgd A).length (rks (rgd A)) ∧ Below W.heap.size W w' from fun W hW => rranged_any Bq Q U.length U A _ sv2 vs2 W (HTW.out W hW).doc p1 p3 p5 (by omega) (by omega))
  have HTX := hid (show ∀ W, Below M w W → Calls Tryz.prog 25 #[.pointer (some ⟨P, 0, none⟩)] W fun e w' => e = .returned (.string ⟨(tx4 A U U.length).toArray⟩) ∧ Below W.heap.size W w' from fun W hW => text_any Bd P K U nv po pc A W (HTW.out W hW).db (HTW.out W hW).row (by omega) (by omega) (by omega) hBL hST (HTW.out W hW).tb.z (HTW.out W hW).tb.s)
  have HTY := hid (show ∀ W, Below M w W → Calls Tryz.prog 43 #[.pointer (some ⟨Q, 0, none⟩)] W fun e w' => e = .returned (.string ⟨(tx4 A U U.length).toArray⟩) ∧ Below W.heap.size W w' from fun W hW => rtext_any Bq Q U A _ sv2 vs2 W (HTW.out W hW).doc p5 (by omega) hBL hST hNF)
  have HSE := hid (show ∀ (c : Int) W, Below M w W → Calls Tryz.prog 20 #[.pointer (some ⟨P, 0, none⟩), .int .i64 c] W fun e w' => ∃ v', e = .returned v' ∧ w'.ownsRow W.heap.size 84 2 v' (stc c A).length (rgcs (stc c A)) ∧ Below W.heap.size W w' from fun c W hW => set_any Bd P K U nv po pc A c W (HTW.out W hW).db (HTW.out W hW).row (by omega))
  have HRS := hid (show ∀ (c : Int) W, Below M w W → Calls Tryz.prog 44 #[.pointer (some ⟨Q, 0, none⟩), .int .i64 c] W fun e w' => ∃ v', e = .returned v' ∧ w'.ownsRow W.heap.size 84 2 v' (stc c A).length (rgcs (stc c A)) ∧ Below W.heap.size W w' from fun c W hW => rset_any Bq Q U.length U A _ sv2 vs2 c W (HTW.out W hW).doc p3 (by omega))
  have HCL := hid (show ∀ (i : Nat) (hi : i < U.length) W, Below M w W → Calls Tryz.prog 32 #[.pointer (some ⟨P, 0, none⟩), .string ⟨U[i].toArray⟩] W fun e w' => e = .returned (.tuple #[.int .i64 (i : Int), .bool true]) ∧ w' = W from fun i hi W hW => by
    have h5 := class_any Bd P K U nv _ U[i] W (HTW.out W hW).db (by have h6 := hBL U[i] (List.getElem_mem hi); omega) p4
    rw [if_pos (List.getElem_mem hi), decide_eq_true (List.getElem_mem hi), idx_nodup U p4 i hi] at h5
    exact h5)
  have HCE := hid (show ∀ W, Below M w W → Calls Tryz.prog 32 #[.pointer (some ⟨P, 0, none⟩), .string ⟨#[]⟩] W fun e w' => e = .returned (.tuple #[.int .i64 0, .bool false]) ∧ w' = W from fun W hW => by
    have hn : ([] : List UInt8) ∉ U := fun h5 => (nam_parts _ (p7 _ h5)).1 rfl
    have h5 := class_any Bd P K U nv _ [] W (HTW.out W hW).db (by decide) p4
    rw [if_neg hn, decide_eq_false hn] at h5
    exact h5)
  have HGT := hid (show ∀ (z : Int) W, Below M w W → Calls Tryz.prog 24 #[.pointer (some ⟨P, 0, none⟩), .int .i32 z] W fun e w' => e = .returned (.int .i64 (gtp (instd z) A : Nat)) ∧ Below W.heap.size W w' from fun z W hW => get_any Bd P K U nv po pc A z W (HTW.out W hW).db (HTW.out W hW).row (by omega) p9 p10)
  have HGR := hid (show ∀ (z : Int) W, Below M w W → Calls Tryz.prog 45 #[.pointer (some ⟨Q, 0, none⟩), .int .i32 z] W fun e w' => e = .returned (.int .i64 (gtp (instd z) A : Nat)) ∧ w' = W from fun z W hW => rget_any Bq Q U.length U A _ sv2 vs2 z W (HTW.out W hW).doc p1 p3 (by omega) (by omega))
  have HSL := hid (show ∀ c : Int, (stc c A).length ≤ 40000 from hST)
  have HRL := hid (show (rgd A).length ≤ 30000 by have h5 := rgd_len A; omega)
  obtain ⟨T, hT⟩ : ∃ T, T = tx4 A U U.length := ⟨_, rfl⟩
  obtain ⟨L, hL⟩ : ∃ L, L = rgd A := ⟨_, rfl⟩
  obtain ⟨n, hn⟩ : ∃ n, n = U.length := ⟨_, rfl⟩
  rw [← hT] at HTX HTY
  rw [← hL] at HRG HRR HRL
  have HUN := hid hn
  rw [← hn] at HC0 HNA
  have hn64 : n ≤ 64 := by omega
  have HBM := hid (show ∀ (W W' : World), Below M w W → Below W.heap.size W W' → Below M w W' from fun _ _ hW hb => hW.trans (hb.mono (by have h5 := hW.size; omega)))
  have HB0 := hid (show Below M w w by rw [hM]; exact Below.refl _ _)
  obtain ⟨nr, hnr⟩ : ∃ nr, nr = L.length := ⟨_, rfl⟩
  have HNR := hid hnr
  rw [← hnr] at HRG HRR HRL
  have hnr3 := HRL.out
  clear p1 p2 p3 p4 p5 p6 p7 p8 p9 p10 h hE hM hBL hST hNF hT hL hn hnr HP HRL
  go_enter Tryz.func13, Tryz.ntmps13
  go_wp2_with fail
  refine (HNA.out w HB0.out).mono ?_
  rintro e w1 ⟨v1, rfl, o1, b1⟩
  have HB1 := hid (HBM.out _ _ HB0.out b1)
  obtain ⟨xo, xc, rfl, rx⟩ := rdn_own o1 HUN.out
  rw [← HMW.out] at o1
  have HO1 := hid o1
  have HX1 := hid rx
  clear b1 o1 rx
  go_wp2_with fail
  refine (HRG.out w1 HB1.out).mono ?_
  rintro e w2 ⟨v2, rfl, o2, b2⟩
  have HB2 := hid (HBM.out _ _ HB1.out b2)
  have HO1b := hid (own_keep HO1.out b2)
  have HX1b := hid (HX1.out.below b2)
  obtain ⟨yo, yc, rfl⟩ := own_form o2
  have HY2 := hid (show RdK w2 yo (L.map rkT) from rd_own o2)
  have HO2 := hid (own_mono o2 (show M ≤ w1.heap.size by have h5 := HB1.out.size; have h6 := HMW.out; omega))
  have c0 := HC0.out w2 HB2.out
  have HTS := hid (texts_same xo no xc nc n U w2 HX1b.out (HRN.out w2 HB2.out) HUN.out (by omega))
  clear b2 o2 HO1 HX1
  go_wp2_with fail
  refine HTS.out.mono ?_
  rintro e w3 ⟨rfl, b3⟩
  have HB3 := hid (HBM.out _ _ HB2.out b3)
  have HO13 := hid (own_keep HO1b.out b3)
  have HO23 := hid (own_keep HO2.out b3)
  have HY3 := hid (HY2.out.below b3)
  clear b3 HTS HO1b HO2 HY2 c0
  go_wp2_with fail
  refine (HRR.out w3 HB3.out).mono ?_
  rintro e w4 ⟨v4, rfl, o4, b4⟩
  have HB4 := hid (HBM.out _ _ HB3.out b4)
  obtain ⟨zo, zc, rfl⟩ := own_form o4
  have HRSm := hid (ranged_same yo zo yc zc nr (L.map rkT) w4 (HY3.out.below b4) (rd_own o4) (by rw [HNR.out, List.length_map]) (by omega))
  have HO14 := hid (own_keep HO13.out b4)
  have HO24 := hid (own_keep HO23.out b4)
  clear b4 o4 HO13 HO23 HY3
  go_wp2_with fail
  refine HRSm.out.mono ?_
  rintro e w5 ⟨rfl, b5⟩
  have HB5 := hid (HBM.out _ _ HB4.out b5)
  have HO15 := hid (own_keep HO14.out b5)
  have HO25 := hid (own_keep HO24.out b5)
  clear b5 HRSm HO14 HO24
  go_wp2_with fail
  refine (HTX.out w5 HB5.out).mono ?_
  rintro e w6 ⟨rfl, b6⟩
  have HB6 := hid (HBM.out _ _ HB5.out b6)
  have HO16 := hid (own_keep HO15.out b6)
  have HO26 := hid (own_keep HO25.out b6)
  clear b6 HO15 HO25
  go_wp2_with fail
  refine (HTY.out w6 HB6.out).mono ?_
  rintro e w7 ⟨rfl, b7⟩
  have HB7 := hid (HBM.out _ _ HB6.out b7)
  have HO17 := hid (own_keep HO16.out b7)
  have HO27 := hid (own_keep HO26.out b7)
  clear b7 HO16 HO26
  go_wp2
  go_loopw [9, 10, 11] (fun x _ _ wr => ∃ c : Int, -1 ≤ c ∧ c ≤ (n : Int) + 1 ∧ x = .int .i64 c ∧ Hid (wr.ownsRow M 9 1 (.slice xo n xc) n (nms U)) ∧ Hid (wr.ownsRow M 86 3 (.slice yo nr yc) nr (rks L)) ∧ Hid (Below M w wr)) (fun x _ _ _ => ((n : Int) + 1 - intOf x).toNat)
  case atStart => exact ⟨-1, by omega, by omega, rfl, HO17, HO27, HB7⟩
  case round =>
    clear HO17 HO27 HB7
    obtain ⟨c, hc1, hc2, rfl, HOa, HOb, HBr⟩ := hrel
    have c0 := HC0.out wr HBr.out
    by_cases hlt : c ≤ (n : Int)
    · have HS1 := hid (HSE.out c wr HBr.out)
      have HS2 := hid (HRS.out c)
      have hsl := HSL.out c
      obtain ⟨G, hG⟩ : ∃ G, G = stc c A := ⟨_, rfl⟩
      rw [← hG] at HS1 HS2 hsl
      clear hG
      go_wp2_with fail
      refine HS1.out.mono ?_
      rintro e w8 ⟨v8, rfl, o8, b8⟩
      have HB8 := hid (HBM.out _ _ HBr.out b8)
      obtain ⟨go, gc, rfl, rg⟩ := rdr_row o8
      have HOa8 := hid (own_keep HOa.out b8)
      have HOb8 := hid (own_keep HOb.out b8)
      have HO8 := hid (own_mono o8 (show M ≤ wr.heap.size by have h5 := HBr.out.size; have h6 := HMW.out; omega))
      have HRG8 := hid rg
      clear b8 o8 rg HS1 HOa HOb c0
      go_wp2_with fail
      refine (HS2.out w8 HB8.out).mono ?_
      rintro e w9 ⟨v9, rfl, o9, b9⟩
      have HB9 := hid (HBM.out _ _ HB8.out b9)
      obtain ⟨fo, fc, rfl, rf⟩ := rdr_row o9
      have HSM := hid (same2_any go fo gc fc G G w9 (HRG8.out.below b9) rf (by omega))
      rw [decide_eq_true (rfl : G = G)] at HSM
      have HOa9 := hid (own_keep HOa8.out b9)
      have HOb9 := hid (own_keep HOb8.out b9)
      have HO9 := hid (own_keep HO8.out b9)
      clear b9 o9 rf HOa8 HOb8 HO8 HRG8 HS2
      go_wp2_with fail
      refine HSM.out.mono ?_
      rintro e w10 ⟨rfl, b10⟩
      have HB10 := hid (HBM.out _ _ HB9.out b10)
      have HOa10 := hid (own_keep HOa9.out b10)
      have HOb10 := hid (own_keep HOb9.out b10)
      have HO10 := hid (own_keep HO9.out b10)
      obtain ⟨gl, hgl⟩ : ∃ gl, gl = G.length := ⟨_, rfl⟩
      rw [← hgl] at HO10 hsl ⊢
      clear b10 HSM HOa9 HOb9 HO9 hgl
      go_wp2
      go_loopw [11] (fun y wr => ∃ (k : Nat) (xs : List Value), k ≤ gl ∧ y = .int .i64 (k : Int) ∧ Hid (wr.ownsRow M 84 2 (.slice go gl gc) gl xs) ∧ Hid (wr.ownsRow M 9 1 (.slice xo n xc) n (nms U)) ∧ Hid (wr.ownsRow M 86 3 (.slice yo nr yc) nr (rks L)) ∧ Hid (Below M w wr)) (fun y _ => gl - (intOf y).toNat)
      case atStart => exact ⟨0, _, by omega, rfl, HO10, HOa10, HOb10, HB10⟩
      case round =>
        clear HO10 HOa10 HOb10 HB10
        obtain ⟨k, xs, hk, rfl, HOg, HOa, HOb, HBq⟩ := hrel
        by_cases hkl : k < gl
        · obtain ⟨g, cap, e, hMg⟩ := own_some HOg.out (by omega)
          cases e
          obtain ⟨u0, t0, f0⟩ := row_at HOg.out (k * 2) (by omega)
          obtain ⟨u1, t1, f1⟩ := row_at HOg.out (k * 2 + 1) (by omega)
          have k3 : (k : Int) < (gl : Int) := by omega
          have k0 : (0 : Int) ≤ (k : Int) := by omega
          have HOn := hid (((HOg.out.stored (k * 2) (.int .i32 0)).1.stored (k * 2 + 1) (.int .i32 0)).1)
          have hb := row_blk HOg.out (x := g) rfl
          obtain ⟨cs, hcs⟩ := hb
          have HOa' := hid (ownsRow_setCell_other (ownsRow_setCell_other HOa.out (a := ⟨g, k * 2, none⟩) (row_other HOa.out g _ 84 hcs (by decide)) (.int .i32 0)) (a := ⟨g, k * 2 + 1, none⟩) (row_other HOa.out g _ 84 hcs (by decide)) (.int .i32 0))
          have HOb' := hid (ownsRow_setCell_other (ownsRow_setCell_other HOb.out (a := ⟨g, k * 2, none⟩) (row_other HOb.out g _ 84 hcs (by decide)) (.int .i32 0)) (a := ⟨g, k * 2 + 1, none⟩) (row_other HOb.out g _ 84 hcs (by decide)) (.int .i32 0))
          have HBn := hid ((HBq.out.setCell (p := ⟨g, k * 2, none⟩) hMg (.int .i32 0)).setCell (p := ⟨g, k * 2 + 1, none⟩) hMg (.int .i32 0))
          clear hcs HOg HOa HOb HBq
          go_wp2
          go_roundw
          case rel => exact ⟨k + 1, _, by omega, by go_num, HOn, HOa', HOb', HBn⟩
          case measure => simp [intOf]; omega
        · have k3 : ¬ (k : Int) < (gl : Int) := by omega
          go_wp2
          go_roundw
          case rel => exact ⟨c + 1, by omega, by omega, by go_num, HOa, HOb, HBq⟩
          case measure => simp [intOf]; omega
    · have hlt' : ¬ c ≤ (n : Int) := hlt
      have hlt2 : (n : Int) < c := by omega
      go_wp2
      go_loopw [12, 13, 14] (fun x _ _ wr => ∃ (i : Nat) (xs : List Value), i ≤ n ∧ x = .int .i64 (i : Int) ∧ Hid (wr.ownsRow M 9 1 (.slice xo n xc) n xs) ∧ Hid (wr.ownsRow M 86 3 (.slice yo nr yc) nr (rks L)) ∧ Hid (Below M w wr)) (fun x _ _ _ => n - (intOf x).toNat)
      case atStart => exact ⟨0, _, by omega, rfl, HOa, HOb, HBr⟩
      case round =>
        clear HOa HOb HBr hlt hlt' hlt2 hc1 hc2 c0
        obtain ⟨i, xs, hi, rfl, HOa, HOb, HBr⟩ := hrel
        have c0 := HC0.out wr HBr.out
        by_cases hin : i < n
        · have hiU : i < U.length := by have h5 := HUN.out; omega
          have i3 : (i : Int) < (n : Int) := by omega
          have i0 : (0 : Int) ≤ (i : Int) := by omega
          obtain ⟨a, rfl, ha, a0⟩ := HRN.out wr HBr.out i U[i] (List.getElem?_eq_getElem hiU)
          have HC := hid (HCL.out i hiU wr HBr.out)
          generalize U[i] = u at a0 HC
          obtain ⟨g, cap, e, hMg⟩ := own_some HOa.out (by omega)
          cases e
          obtain ⟨u0, t0, f0⟩ := row_at HOa.out i (by omega)
          have HOn := hid (HOa.out.stored i (.string ⟨#[63]⟩)).1
          obtain ⟨cs, hcs⟩ := row_blk HOa.out (x := g) rfl
          have HOb' := hid (ownsRow_setCell_other HOb.out (a := ⟨g, i, none⟩) (row_other HOb.out g _ 9 hcs (by decide)) (.string ⟨#[63]⟩))
          have HBn := hid (HBr.out.setCell (p := ⟨g, i, none⟩) hMg (.string ⟨#[63]⟩))
          clear hcs hiU
          go_wp2_with fail
          refine HC.out.mono ?_
          rintro e w8 ⟨rfl, hw⟩
          obtain rfl := hw.symm
          clear HC
          go_wp2
          go_roundw
          case rel => exact ⟨i + 1, _, by omega, by go_num, HOn, HOb', HBn⟩
          case measure => simp [intOf]; omega
        · have i3 : ¬ (i : Int) < (n : Int) := by omega
          go_wp2
          go_loopw [15] (fun x wr => ∃ (i : Nat) (xs : List Value), i ≤ nr ∧ x = .int .i64 (i : Int) ∧ Hid (wr.ownsRow M 86 3 (.slice yo nr yc) nr xs) ∧ Hid (Below M w wr)) (fun x _ => nr - (intOf x).toNat)
          case atStart => exact ⟨0, _, by omega, rfl, HOb, HBr⟩
          case round =>
            clear HOa HOb HBr hin i3 hi c0
            obtain ⟨j, xs, hj, rfl, HOb, HBr⟩ := hrel
            by_cases hjn : j < nr
            · have j3 : (j : Int) < (nr : Int) := by omega
              have j0 : (0 : Int) ≤ (j : Int) := by omega
              obtain ⟨g, cap, e, hMg⟩ := own_some HOb.out (by omega)
              cases e
              obtain ⟨u0, t0, f0⟩ := row_at HOb.out (j * 3) (by omega)
              obtain ⟨u1, t1, f1⟩ := row_at HOb.out (j * 3 + 1) (by omega)
              obtain ⟨u2, t2, f2⟩ := row_at HOb.out (j * 3 + 2) (by omega)
              have HOn := hid ((((HOb.out.stored (j * 3) (.int .i32 0)).1.stored (j * 3 + 1) (.int .i32 0)).1.stored (j * 3 + 2) (.int .i64 0)).1)
              have HBn := hid (((HBr.out.setCell (p := ⟨g, j * 3, none⟩) hMg (.int .i32 0)).setCell (p := ⟨g, j * 3 + 1, none⟩) hMg (.int .i32 0)).setCell (p := ⟨g, j * 3 + 2, none⟩) hMg (.int .i64 0))
              clear HOb HBr
              go_wp2
              go_roundw
              case rel => exact ⟨j + 1, _, by omega, by go_num, HOn, HBn⟩
              case measure => simp [intOf]; omega
            · have j3 : ¬ (j : Int) < (nr : Int) := by omega
              clear HOb
              go_wp2
              go_loopw [16] (fun x wr => ∃ i : Nat, i ≤ E.length ∧ x = .int .i64 (i : Int) ∧ Hid (Below M w wr)) (fun x _ => E.length - (intOf x).toNat)
              case atStart => exact ⟨0, by omega, rfl, HBr⟩
              case round =>
                clear HBr hjn j3 hj
                obtain ⟨k, hk, rfl, HBr⟩ := hrel
                by_cases hkE : k < E.length
                · have k3 : (k : Int) < (E.length : Int) := by omega
                  have k0 : (0 : Int) ≤ (k : Int) := by omega
                  obtain ⟨a, rfl, ha, a0⟩ := HEW.out wr HBr.out k E[k] (List.getElem?_eq_getElem hkE)
                  have HCA := hid (show ∀ W, Below M w W → W.cell? (a.add k) = some (.int .i32 E[k]) from fun W hW => by
                    obtain ⟨a', e, _, h5⟩ := HEW.out W hW k E[k] (List.getElem?_eq_getElem hkE)
                    cases e
                    exact h5)
                  generalize E[k] = z at *
                  have HG1 := hid (HGT.out z wr.drew HBr.out.drew)
                  have HG2 := hid (HGR.out z)
                  obtain ⟨G, hG⟩ : ∃ G, G = gtp (instd z) A := ⟨_, rfl⟩
                  rw [← hG] at HG1 HG2
                  have HSW := hid (HCA.out wr.drew HBr.out.drew)
                  clear hG a0
                  go_wp2
                  refine wp_region_mixC [(0, 1), (1, 1), (2, 1), (3, 1), (4, 0), (6, 1), (7, 1), (8, 1), (9, 1), (10, 0), (5, 2), (11, 2), (12, 1)] (fun W => W.cell? (a.add k) = some (.int .i32 z)) (fun _ => True) (fun _ => false) (by kernel_rfl) (by kernel_rfl) (fun j hj => by cases hj) rfl (by kernel_rfl) HSW.out trivial ?_
                  iterate 10 ((first | refine mixC_s ?_ rfl (by kernel_rfl) (fun w' hS => ?_) ?_ | refine mixC_t ?_ rfl (by kernel_rfl) (fun w' hS => ?_) ?_); (rotate_left; (go_simp; with_reducible rfl); rotate_left))
                  refine mixC_go rfl (by kernel_rfl) fun KK hKK => ?_
                  go_simp
                  refine HG1.out.mono ?_
                  rintro e w8 ⟨rfl, b8⟩
                  have HB8 := hid (show Below M w w8 from HBM.out _ _ HBr.out.drew b8)
                  refine hKK _ _ (fun _ => HCA.out w8 HB8.out) trivial ?_
                  clear hKK KK b8 HG1
                  refine mixC_go rfl (by kernel_rfl) fun KK hKK => ?_
                  go_simp
                  refine (HG2.out w8 HB8.out).mono ?_
                  rintro e w9 ⟨rfl, hw⟩
                  obtain rfl := hw.symm
                  refine hKK _ _ (fun _ => HCA.out w8 HB8.out) trivial ?_
                  clear hKK KK HG2
                  refine mixC_t ?_ rfl (by kernel_rfl) (fun w' hS => ?_) ?_; (rotate_left; (go_simp; with_reducible rfl); rotate_left)
                  refine mixC_end (NoPanic.normal ?_)
                  go_wp2
                  go_roundw
                  case rel => exact ⟨k + 1, by omega, by go_num, HB8⟩
                  case measure => simp [intOf]; omega
                · have k3 : ¬ (k : Int) < (E.length : Int) := by omega
                  have HCW := hid (HCE.out wr HBr.out)
                  go_wp2_with fail
                  refine HCW.out.mono ?_
                  rintro e w8 ⟨rfl, hw⟩
                  obtain rfl := hw.symm
                  clear HCW
                  have HNW := hid (HNA.out wr.drew HBr.out.drew)
                  have HQ0 := hid (HC0.out wr.drew HBr.out.drew)
                  go_wp2
                  refine wp_region_mixC [(0, 1), (1, 1), (2, 1), (3, 1), (5, 1), (6, 1), (7, 1), (8, 0), (4, 2), (9, 2), (10, 1), (11, 1), (12, 1), (14, 1), (13, 2), (15, 2), (16, 1), (17, 1), (18, 1)] (fun W => W.cell? ⟨Q, 0, none⟩ = some (.slice no n nc)) (fun _ => True) (fun _ => false) (by kernel_rfl) (by kernel_rfl) (fun j hj => by cases hj) rfl (by kernel_rfl) HQ0.out trivial ?_
                  iterate 8 ((first | refine mixC_s ?_ rfl (by kernel_rfl) (fun w' hS => ?_) ?_ | refine mixC_t ?_ rfl (by kernel_rfl) (fun w' hS => ?_) ?_); (rotate_left; (go_simp; with_reducible rfl); rotate_left))
                  refine mixC_go rfl (by kernel_rfl) fun KK hKK => ?_
                  go_simp
                  refine HNW.out.mono ?_
                  rintro e w9 ⟨v9, rfl, o9, b9⟩
                  have HB9 := hid (show Below M w w9 from HBM.out _ _ HBr.out.drew b9)
                  obtain ⟨qo, qc, rfl, rq⟩ := rdn_own o9 HUN.out
                  have HTS := hid (texts_same qo no qc nc n U w9 rq (HRN.out w9 HB9.out) HUN.out (by omega))
                  refine hKK _ _ (fun _ => HC0.out w9 HB9.out) trivial ?_
                  clear hKK KK b9 o9 rq HNW
                  refine mixC_go rfl (by kernel_rfl) fun KK hKK => ?_
                  go_simp
                  refine HTS.out.mono ?_
                  rintro e w10 ⟨rfl, b10⟩
                  have HB10 := hid (show Below M w w10 from HBM.out _ _ HB9.out b10)
                  refine hKK _ _ (fun _ => HC0.out w10 HB10.out) trivial ?_
                  clear hKK KK b10 HTS
                  iterate 4 (refine mixC_t ?_ rfl (by kernel_rfl) (fun w' hS => ?_) ?_; (rotate_left; (go_simp; with_reducible rfl); rotate_left))
                  refine mixC_go rfl (by kernel_rfl) fun KK hKK => ?_
                  go_simp
                  refine (HTX.out w10 HB10.out).mono ?_
                  rintro e w11 ⟨rfl, b11⟩
                  have HB11 := hid (show Below M w w11 from HBM.out _ _ HB10.out b11)
                  refine hKK _ _ (fun _ => HC0.out w11 HB11.out) trivial ?_
                  clear hKK KK b11
                  refine mixC_go rfl (by kernel_rfl) fun KK hKK => ?_
                  go_simp
                  refine (HTY.out w11 HB11.out).mono ?_
                  rintro e w12 ⟨rfl, b12⟩
                  have HB12 := hid (show Below M w w12 from HBM.out _ _ HB11.out b12)
                  refine hKK _ _ (fun _ => HC0.out w12 HB12.out) trivial ?_
                  clear hKK KK b12
                  iterate 3 (refine mixC_t ?_ rfl (by kernel_rfl) (fun w' hS => ?_) ?_; (rotate_left; (go_simp; with_reducible rfl); rotate_left))
                  refine mixC_end (NoPanic.normal ?_)
                  go_wp2
                  go_ret
                  exact ⟨rfl, HB12.out⟩
end Go.Proofs.YtohhokjlgihbgaaGreatDoor
/- The walk of PropsReads. -/
namespace Go.Proofs.YtohhokjlgihbgaaGreatDoor
open Go.RowKit

theorem twp_of (t : List UInt8) (ht : t.length ≤ 12000) (h0 : (nw t).1.1 = 0) (hr : Rs 0 (nw t).2.2) (hnd : (nw t).2.1.Nodup) (hl : (nw t).2.1.length ≤ 64) : TwP (nw t).2.1 (whl (nw t).2.2) := by
  obtain ⟨g1, g2⟩ := nw_good t h0
  obtain ⟨f1, f2⟩ := nw_four t h0
  obtain ⟨k1, k2, k3, k4⟩ := whl_good _ _ g1 hr
  obtain ⟨s1, s2⟩ := whl_st _ hr
  exact ⟨k1, k2, k3, hnd, (List.getElem?_eq_some_iff.1 g1.1).1, hl, f1, by omega, s1, s2⟩
set_option maxRecDepth 100000 in
set_option maxHeartbeats 4000000 in
theorem reads_walk (t : List UInt8) (ao : Option Addr) (ac : Nat) (E : List Int) (m : Int) (w : World) (h : Tbs m w) (hE : RdZ w ao E) (ht : t.length ≤ 9223372036854775807) (hEl : E.length ≤ 9223372036854775807) :
    Calls Tryz.prog 3 #[.string ⟨t.toArray⟩, .slice ao E.length ac] w fun e w' => e = .returned (.bool true) ∧ Below w.heap.size w w' := by
  have HT := hid h
  have HLV := hid (live_any m)
  have HNU := hid num_any
  have HZ := hid hE
  have HSZ := hid (show (⟨t.toArray⟩ : ByteArray).size = t.length by show t.toArray.size = _; simp)
  clear h hE
  by_cases h1 : (12000 < t.length ∧ t.length ≤ 65536) ∨ 300 < E.length
  · by_cases h2 : 12000 < t.length ∧ t.length ≤ 65536
    · have h2' : (12000 : Int) < (t.length : Int) := by omega
      have h3' : (t.length : Int) ≤ 65536 := by omega
      clear h1 h2
      go_enter Tryz.func3, Tryz.ntmps3
      go_wp2_with fail
      refine (HLV.out w HT.out).mono ?_
      rintro e w1 ⟨rfl, b1⟩
      have HB1 := hid b1
      clear b1
      go_wp2
      go_ret
      exact ⟨rfl, HB1.out⟩
    · have h4 : (300 : Int) < (E.length : Int) := by omega
      by_cases h5 : 12000 < t.length
      · have h5' : (12000 : Int) < (t.length : Int) := by omega
        have h6' : ¬ (t.length : Int) ≤ 65536 := by omega
        clear h1 h2 h5
        go_enter Tryz.func3, Tryz.ntmps3
        go_wp2_with fail
        refine (HLV.out w HT.out).mono ?_
        rintro e w1 ⟨rfl, b1⟩
        have HB1 := hid b1
        clear b1
        go_wp2
        go_ret
        exact ⟨rfl, HB1.out⟩
      · have h5' : ¬ (12000 : Int) < (t.length : Int) := by omega
        clear h1 h2 h5
        go_enter Tryz.func3, Tryz.ntmps3
        go_wp2_with fail
        refine (HLV.out w HT.out).mono ?_
        rintro e w1 ⟨rfl, b1⟩
        have HB1 := hid b1
        clear b1
        go_wp2
        go_ret
        exact ⟨rfl, HB1.out⟩
  have h4 : ¬ (300 : Int) < (E.length : Int) := by omega
  have hE3 : E.length ≤ 300 := by omega
  have ht2 : t.length ≤ 12000 ∨ 65536 < t.length := by omega
  have HNE := hid (new_any t m w HT.out)
  have HRE := hid (fun W => rnew_any t W ht2)
  have HTP := hid (show (nw t).1.1 = 0 → Rs 0 (nw t).2.2 → (nw t).2.1.Nodup → (nw t).2.1.length ≤ 64 → TwP (nw t).2.1 (whl (nw t).2.2) from fun h0 hr hnd hl => by
    refine twp_of t ?_ h0 hr hnd hl
    rcases ht2 with h5 | h5
    · exact h5
    · exfalso
      have h6 : nw t = ((1, 0), [oth], []) := by unfold nw; rw [if_pos h5]
      rw [h6] at h0
      exact absurd h0 (by decide))
  have HST := hid (show t.length ≤ 12000 ∨ (12000 < t.length ∧ 65536 < t.length) by omega)
  obtain ⟨er, her⟩ : ∃ er, er = (nw t).1.1 := ⟨_, rfl⟩
  obtain ⟨ln, hln⟩ : ∃ ln, ln = (nw t).1.2 := ⟨_, rfl⟩
  obtain ⟨U, hU⟩ : ∃ U, U = (nw t).2.1 := ⟨_, rfl⟩
  obtain ⟨S, hS⟩ : ∃ S, S = (nw t).2.2 := ⟨_, rfl⟩
  rw [← her, ← hln, ← hU, ← hS] at HNE
  rw [← her, ← hln, ← hU, ← hS] at HRE
  rw [← her, ← hU, ← hS] at HTP
  clear her hln hU hS h1
  rcases HST.out with hA | ⟨hA, hB⟩
  · have hA' : ¬ (12000 : Int) < (t.length : Int) := by omega
    clear hA HST ht2
    go_enter Tryz.func3, Tryz.ntmps3
    go_wp2_with fail
    refine HNE.out.mono ?_
    rintro e w1 ⟨b1, (⟨hne, rfl⟩ | ⟨he0, P, K, nv, po, pc, rfl, d1, o1, r1, nd1, ln1⟩)⟩
    · have HB1 := hid b1
      have HR1 := hid (HRE.out w1)
      have HL1 := hid (fun W hW => HLV.out W (HT.out.below hW))
      clear b1 HNE HRE HLV
      go_wp2_with fail
      refine HR1.out.mono ?_
      rintro e w2 ⟨b2, (⟨_, rfl⟩ | ⟨he0, _⟩)⟩
      · have HB2 := hid (HB1.out.trans (b2.mono HB1.out.size))
        clear b2 HR1
        go_wp2_with (first | (go_at_call 12; refine (HNU.out _ _).mono ?_; rintro e w3 ⟨rfl, hw⟩; obtain rfl := hw.symm) | fail)
        refine (HL1.out w2 HB2.out).mono ?_
        rintro e w3 ⟨rfl, b3⟩
        have HB3 := hid (HB2.out.trans (b3.mono HB2.out.size))
        clear b3
        go_wp2
        go_ret
        exact ⟨rfl, HB3.out⟩
      · exact absurd he0 hne
    · have HTQ := hid (HTP.out he0 r1 nd1 ln1)
      have HB1 := hid b1
      have HD1 := hid d1
      have HR1' := hid (show RdK w1 po ((whl S).map rkT) from rd_own o1)
      have HR1 := hid (HRE.out w1)
      have HL1 := hid (fun W hW => HLV.out W (HT.out.below hW))
      clear b1 d1 o1 r1 nd1 ln1 HNE HRE HLV HTP
      go_wp2_with fail
      refine HR1.out.mono ?_
      rintro e w2 ⟨b2, (⟨hne, _⟩ | ⟨_, Q, nv2, sv2, vs2, rfl, d2⟩)⟩
      · exact absurd he0 hne
      · have HB2 := hid (HB1.out.trans (b2.mono HB1.out.size))
        have HT2 := hid (show Twn m P K Q w.heap.size w1.heap.size U (whl S) nv po pc nv2 sv2 vs2 w2 from ⟨HD1.out.below b2, HR1'.out.below b2, d2, HT.out.below HB2.out⟩)
        clear b2 d2 HR1 HD1 HR1'
        obtain rfl : er = 0 := he0
        go_wp2_with (first | (go_at_call 12; refine (HNU.out _ _).mono ?_; rintro e w3 ⟨rfl, hw⟩; obtain rfl := hw.symm) | fail)
        refine (HL1.out w2 HB2.out).mono ?_
        rintro e w3 ⟨rfl, b3⟩
        have HB3 := hid (HB2.out.trans (b3.mono HB2.out.size))
        have HT3 := hid (HT2.out.below b3)
        have HSD := hid (stands_any m P K Q w.heap.size w1.heap.size U (whl S) nv po pc nv2 sv2 vs2 ao ac E w3 HTQ.out HT3.out (HZ.out.below HB3.out) (by omega))
        clear b3 HT2 HL1 HT3
        go_wp2_with fail
        refine HSD.out.mono ?_
        rintro e w4 ⟨rfl, b4⟩
        have HB4 := hid (HB3.out.trans (b4.mono HB3.out.size))
        clear b4 HSD
        go_wp2
        go_ret
        exact ⟨rfl, HB4.out⟩
  · have hA' : (12000 : Int) < (t.length : Int) := by omega
    have hB' : ¬ (t.length : Int) ≤ 65536 := by omega
    clear hA hB HST ht2
    go_enter Tryz.func3, Tryz.ntmps3
    go_wp2_with fail
    refine HNE.out.mono ?_
    rintro e w1 ⟨b1, (⟨hne, rfl⟩ | ⟨he0, P, K, nv, po, pc, rfl, d1, o1, r1, nd1, ln1⟩)⟩
    · have HB1 := hid b1
      have HR1 := hid (HRE.out w1)
      have HL1 := hid (fun W hW => HLV.out W (HT.out.below hW))
      clear b1 HNE HRE HLV
      go_wp2_with fail
      refine HR1.out.mono ?_
      rintro e w2 ⟨b2, (⟨_, rfl⟩ | ⟨he0, _⟩)⟩
      · have HB2 := hid (HB1.out.trans (b2.mono HB1.out.size))
        clear b2 HR1
        go_wp2_with (first | (go_at_call 12; refine (HNU.out _ _).mono ?_; rintro e w3 ⟨rfl, hw⟩; obtain rfl := hw.symm) | fail)
        refine (HL1.out w2 HB2.out).mono ?_
        rintro e w3 ⟨rfl, b3⟩
        have HB3 := hid (HB2.out.trans (b3.mono HB2.out.size))
        clear b3
        go_wp2
        go_ret
        exact ⟨rfl, HB3.out⟩
      · exact absurd he0 hne
    · have HTQ := hid (HTP.out he0 r1 nd1 ln1)
      have HB1 := hid b1
      have HD1 := hid d1
      have HR1' := hid (show RdK w1 po ((whl S).map rkT) from rd_own o1)
      have HR1 := hid (HRE.out w1)
      have HL1 := hid (fun W hW => HLV.out W (HT.out.below hW))
      clear b1 d1 o1 r1 nd1 ln1 HNE HRE HLV HTP
      go_wp2_with fail
      refine HR1.out.mono ?_
      rintro e w2 ⟨b2, (⟨hne, _⟩ | ⟨_, Q, nv2, sv2, vs2, rfl, d2⟩)⟩
      · exact absurd he0 hne
      · have HB2 := hid (HB1.out.trans (b2.mono HB1.out.size))
        have HT2 := hid (show Twn m P K Q w.heap.size w1.heap.size U (whl S) nv po pc nv2 sv2 vs2 w2 from ⟨HD1.out.below b2, HR1'.out.below b2, d2, HT.out.below HB2.out⟩)
        clear b2 d2 HR1 HD1 HR1'
        obtain rfl : er = 0 := he0
        go_wp2_with (first | (go_at_call 12; refine (HNU.out _ _).mono ?_; rintro e w3 ⟨rfl, hw⟩; obtain rfl := hw.symm) | fail)
        refine (HL1.out w2 HB2.out).mono ?_
        rintro e w3 ⟨rfl, b3⟩
        have HB3 := hid (HB2.out.trans (b3.mono HB2.out.size))
        have HT3 := hid (HT2.out.below b3)
        have HSD := hid (stands_any m P K Q w.heap.size w1.heap.size U (whl S) nv po pc nv2 sv2 vs2 ao ac E w3 HTQ.out HT3.out (HZ.out.below HB3.out) (by omega))
        clear b3 HT2 HL1 HT3
        go_wp2_with fail
        refine HSD.out.mono ?_
        rintro e w4 ⟨rfl, b4⟩
        have HB4 := hid (HB3.out.trans (b4.mono HB3.out.size))
        clear b4 HSD
        go_wp2
        go_ret
        exact ⟨rfl, HB4.out⟩
end Go.Proofs.YtohhokjlgihbgaaGreatDoor
/- The contract of the document's Cross. -/
namespace Go.Proofs.YtohhokjlgihbgaaGreatDoor
open Go.RowKit

theorem cl32_one (E : List Int) : ∀ v ∈ cl32 E, v.oneCell' = true := fun v hv => by
  unfold cl32 at hv
  obtain ⟨z, _, rfl⟩ := List.mem_map.1 hv
  rfl
/-- append of numbers that lie in a row of their own. -/
theorem wpList_append_z {w : World} {ops : Array Oper} {rest : List Oper} {o : Oper} {a : Act} {Q : Exit → Act → World → Prop} (hgd : o.guard = none) (s x : Operand)
    (ho : o.op = .call { callee := .builtin .append, args := #[s, x], argTypes := #[22, 22] }) (base : Nat) (v : Value) (n : Nat) (xs : List Value) (hs : a.eval s = v) (hown : w.ownsRow base 21 1 v n xs)
    (B2 m : Nat) (v2 : Value) (E : List Int) (hx : a.eval x = v2) (hE : w.ownsRow B2 21 1 v2 m (cl32 E))
    (h63 : n + m ≤ maxLen) (hbytes : (n + m) * 4 ≤ 140737488355328) (hbase : base ≤ w.heap.size)
    (h : ∀ v' w', w'.ownsRow base 21 1 v' (n + m) (xs ++ cl32 E) → w.grownBy w' v.ownBlock → wpList Tryz.prog ops Q rest (a.put o.dst v') w') : wpList Tryz.prog ops Q (o :: rest) a w := by
  obtain ⟨i0, hi, hz0, hz1, hz2⟩ := info_parts Tryz.info21
  have hEl : E.length = m := by have h5 := hE.1; simpa [cl32] using h5
  rcases Nat.eq_zero_or_pos m with h0 | h0
  · subst h0
    have hE0 : E = [] := List.length_eq_zero_iff.1 hEl
    subst hE0
    rcases hE.2 with ⟨h1, _⟩ | ⟨g, cap, cur, h1, _⟩
    · rw [h1] at hx
      exact wpList_append_own_none hgd s x 22 ho base 21 i0 1 Tryz.underlying22 hi v n xs hs hown hx (h v w (by simpa [cl32] using hown) (World.grownBy.refl _ _))
    · rw [h1] at hx
      exact wpList_append_own w hgd s x 22 ho base 21 i0 (.int .i32 0) 1 4 Tryz.underlying22 hi hz0 hz1 hz2 rfl (by decide) v n xs hs hown ⟨g, 0, none⟩ 0 cap [] hx rfl (fun j u hj => by cases hj) (fun v hv => by cases hv) h63 hbytes hbase (fun v' w' a b _ => h v' w' (by simpa [cl32] using a) b)
  · obtain ⟨g, cap, h1, _, _⟩ := hE.form h0
    have hE' := hE
    rw [h1] at hx hE'
    refine wpList_append_own w hgd s x 22 ho base 21 i0 (.int .i32 0) 1 4 Tryz.underlying22 hi hz0 hz1 hz2 rfl (by decide) v n xs hs hown ⟨g, 0, none⟩ m cap (cl32 E) hx (by rw [hE.1]) (fun j u hj => ?_) (cl32_one E) h63 hbytes hbase (fun v' w' a b _ => h v' w' a b)
    have hjm : j < m := by have h5 := (List.getElem?_eq_some_iff.1 hj).1; have h6 := hE.1; omega
    rw [add_zero0, hE'.cellAt j (by omega)]
    exact hj
theorem bgA_succ (c : Nat) (A : List Tr) : bgA (c + 1) A = bgA c A ++ bgs (stc (c : Int) A) := by
  unfold bgA dst
  rw [List.range_succ, List.map_append, List.flatMap_append]
  simp
theorem bgA_zero (A : List Tr) : bgA 0 A = [] := rfl
theorem dst_flat : ∀ (n : Nat) (A : List Tr), (dst n A).flatten.length = (A.filter fun g => decide (g.2.2 < n)).length
  | 0, A => by
    have e : (A.filter fun g => decide (g.2.2 < 0)) = [] := by simp
    rw [e]; rfl
  | n + 1, A => by
    have e1 : dst (n + 1) A = dst n A ++ [stc (n : Int) A] := by unfold dst; rw [List.range_succ, List.map_append]; rfl
    rw [e1, List.flatten_append, List.length_append, dst_flat n A]
    have e2 : [stc (n : Int) A].flatten.length = (A.filter fun g => decide (g.2.2 = n)).length := by
      simp only [List.flatten_cons, List.flatten_nil, List.append_nil]
      unfold stc
      rw [List.length_map]
      congr 1
      refine List.filter_congr (fun x _ => ?_)
      rw [Bool.eq_iff_iff]
      simp
      omega
    rw [e2]
    clear e1 e2
    induction A with
    | nil => rfl
    | cons g R ih =>
      simp only [List.filter_cons, decide_eq_true_eq]
      rcases Nat.lt_trichotomy g.2.2 n with h | h | h
      · rw [if_pos h, if_neg (by omega), if_pos (by omega)]
        simp only [List.length_cons]; omega
      · rw [if_neg (by omega), if_pos h, if_pos (by omega)]
        simp only [List.length_cons]; omega
      · rw [if_neg (by omega), if_neg (by omega), if_neg (by omega)]
        exact ih
theorem cr_flat {A D : List Tr} (hA : Cov 0 A 1114112) (hD : Cov 0 D 1114112) (aA : Alt A) (aD : Alt D) (X : List (List Rg)) (hX : X.length = (crP A D).length) (hd : ∀ (d : Nat) (p : Pr), 1 ≤ d → (crP A D)[d]? = some p → X[d]? = some (andN (stc p.1 A) (stc p.2 D))) : (X.drop 1).flatten.length ≤ (crL A D).length := by
  have e : X.drop 1 = (dst (crP A D).length (crL A D)).drop 1 := by
    apply List.ext_getElem?
    intro k
    rw [List.getElem?_drop, List.getElem?_drop]
    by_cases hk : 1 + k < (crP A D).length
    · rw [hd (1 + k) _ (by omega) (List.getElem?_eq_getElem hk), dst_at _ _ _ hk, cr_set hA hD aA aD (1 + k) _ (List.getElem?_eq_getElem hk)]
    · rw [List.getElem?_eq_none (by omega), List.getElem?_eq_none (by rw [dst_len]; omega)]
  have h1 : ((dst (crP A D).length (crL A D)).drop 1).flatten.length ≤ (dst (crP A D).length (crL A D)).flatten.length := by
    cases dst (crP A D).length (crL A D) with
    | nil => simp
    | cons x L => simp
  rw [dst_flat] at h1
  rw [e]
  exact Nat.le_trans h1 (List.length_filter_le _ _)
theorem doc_name {B Q : Nat} {U : List (List UInt8)} {D : List (List Rg)} {nv sv : Value} {vs : List Value} {w : World} (h : DocAt B Q U D nv sv vs w) (i : Nat) (hi : i < U.length) : ∃ g c, nv = .slice (some ⟨g, 0, none⟩) U.length c ∧ w.cell? ⟨g, i, none⟩ = some (.string ⟨(U.getD i []).toArray⟩) := by
  obtain ⟨g, c, h1, h2, _⟩ := h.hN.form (by omega)
  have h3 := h.hN
  subst h1
  refine ⟨g, c, rfl, ?_⟩
  rw [h3.cellAt i (by omega)]
  unfold nms
  rw [List.getElem?_map, List.getElem?_eq_getElem hi]
  simp [List.getD, hi]
/-- What the document's Cross gives. -/
def crR (U V : List (List UInt8)) (T : List Pr) (Lc : List Tr) (w : World) (e : Ending) (w' : World) : Prop := Below w.heap.size w w' ∧
      ((crE U V T ≠ 0 ∧ e = .returned (.tuple #[.pointer none, .int .i64 (crE U V T)])) ∨
       (crE U V T = 0 ∧ ∃ B Q nv sv vs, e = .returned (.tuple #[.pointer (some ⟨Q, 0, none⟩), .int .i64 0]) ∧ DocAt B Q (crN U V T) (dst T.length Lc) nv sv vs w'))

set_option maxHeartbeats 16000000 in
set_option maxRecDepth 100000 in
theorem rcross_any (Ba Qa Bb Qb : Nat) (U V : List (List UInt8)) (nva sva nvb svb : Value) (vsa vsb : List Value) (A D : List Tr) (w : World) (ha : DocAt Ba Qa U (dst U.length A) nva sva vsa w) (hb : DocAt Bb Qb V (dst V.length D) nvb svb vsb w) (hA : Cov 0 A 1114112) (hD : Cov 0 D 1114112) (aA : Alt A) (aD : Alt D) (cA : ∀ g ∈ A, g.2.2 < U.length) (cD : ∀ g ∈ D, g.2.2 < V.length) (uA : U.length ≤ 64) (uD : V.length ≤ 64) (u1 : 1 ≤ U.length) (v1 : 1 ≤ V.length) (nU : NamU U) (nV : NamU V) (lA : A.length ≤ 30000) (lD : D.length ≤ 30000) (lS : A.length + D.length ≤ 38000) :
    Calls Tryz.prog 29 #[.pointer (some ⟨Qa, 0, none⟩), .pointer (some ⟨Qb, 0, none⟩)] w (crR U V (crP A D) (crL A D) w) := by
  obtain ⟨so, sc, rfl, hrda⟩ := ha.rd
  obtain ⟨so2, sc2, rfl, hrdb⟩ := hb.rd
  have HRA := hid hrda
  have HRB := hid hrdb
  have HDA := hid ha
  have HDB := hid hb
  have cQa := ha.c1
  have cQb := hb.c1
  have hQa := lt_of_heap ha.hQ
  have hQb := lt_of_heap hb.hQ
  rw [dst_len] at cQa cQb
  obtain ⟨nu, hnu⟩ : ∃ nu, nu = U.length := ⟨_, rfl⟩
  obtain ⟨nv', hnv'⟩ : ∃ nv', nv' = V.length := ⟨_, rfl⟩
  have HNU := hid hnu
  have HNV := hid hnv'
  have HAV := hid (And.intro hA (And.intro hD (And.intro aA aD)))
  have HCA := hid cA
  have HCD := hid cD
  rw [← hnu] at cQa HRA HCA uA u1
  rw [← hnv'] at cQb HRB HCD uD v1
  clear ha hb hrda hrdb hnu hnv' hA hD aA aD cA cD
  go_enter Tryz.func29, Tryz.ntmps29
  go_wp2
  go_loopw [6, 7] (fun v x wr => ∃ c : Nat, c ≤ nu ∧ x = .int .i64 (c : Int) ∧ Hid (wr.ownsRow w.heap.size 21 1 v (bgA c A).length (cl32 (bgA c A))) ∧ Hid (Below w.heap.size w wr)) (fun _ x _ => nu - (intOf x).toNat)
  case atStart => exact ⟨0, by omega, rfl, World.ownsRow_nil _ _ _ _, Below.refl _ _⟩
  case round =>
    obtain ⟨c, hc, rfl, HO, HB⟩ := hrel
    have hwr := HB.out.size
    have d1 := (HB.out.cell (p := ⟨Qa, 1, none⟩) hQa).trans cQa
    by_cases hlt : c < nu
    · have i3 : (c : Int) < (nu : Int) := by omega
      have i0' : (0 : Int) ≤ (c : Int) := by omega
      obtain ⟨a, rfl, ha, ao, ac, a0, hra, _⟩ := HRA.out.below HB.out c (stc (c : Int) A) (dst_at nu A c hlt)
      have hsl : (stc (c : Int) A).length ≤ 30000 := by unfold stc; rw [List.length_map]; exact Nat.le_trans (List.length_filter_le _ _) lA
      have HBG := hid (begins_any ao ac (stc (c : Int) A) wr hra (by omega))
      have HE := hid (bgA_succ c A)
      have HBL := hid (bgA_len c A)
      obtain ⟨L, hL⟩ : ∃ L, L = stc (c : Int) A := ⟨_, rfl⟩
      rw [← hL] at a0 HBG HE hsl
      obtain ⟨nl, hnl⟩ : ∃ nl, nl = L.length := ⟨_, rfl⟩
      rw [← hnl] at a0 HBG hsl
      have HNL := hid hnl
      have hb2 : (bgA c A).length ≤ 4000000 := by
        have h5 := HBL.out
        have h6 : c * A.length ≤ 64 * 30000 := Nat.mul_le_mul (by omega) lA
        omega
      obtain ⟨Z, hZ⟩ : ∃ Z, Z = bgA c A := ⟨_, rfl⟩
      have HZE := hid (show bgA (c + 1) A = Z ++ bgs L by rw [HE.out, hZ])
      rw [← hZ] at HO hb2
      obtain ⟨nz, hnz⟩ : ∃ nz, nz = Z.length := ⟨_, rfl⟩
      rw [← hnz] at HO hb2
      have HNZ := hid hnz
      clear hra hL hnl hZ hnz HBL HE
      go_wp2_with fail
      refine HBG.out.mono ?_
      rintro e w1 ⟨v1, rfl, o1, b1⟩
      have HO1 := hid o1
      have HOk := hid (own_keep HO.out b1)
      have HB1 := hid (HB.out.trans (b1.mono hwr))
      have hw1 := Nat.le_trans hwr b1.size
      clear o1 b1 HBG HO HB d1 a0
      go_wp2_with (at_builtin; refine wpList_append_z rfl _ _ rfl w.heap.size _ nz (cl32 Z) rfl HOk.out wr.heap.size nl _ (bgs L) rfl HO1.out (by unfold maxLen; omega) (by omega) (by omega) ?_; intro v2 w2 o2 gr2; have HB2 := hid (HB1.out.grown gr2 hw1 (fun k hk => (HOk.out.lt k hk).1)); have HO2 := hid (show w2.ownsRow w.heap.size 21 1 v2 (bgA (c + 1) A).length (cl32 (bgA (c + 1) A)) by rw [HZE.out, cl32_app, List.length_append, ← HNZ.out, show (bgs L).length = nl by unfold bgs; rw [List.length_map]; exact HNL.out.symm]; exact o2); clear o2 gr2)
      go_roundw
      case rel => exact ⟨c + 1, by omega, by go_num, HO2, HB2⟩
      case measure => simp [intOf]; omega
    · have i3 : ¬ (c : Int) < (nu : Int) := by omega
      have hcn : nu = c := by omega
      subst hcn
      go_wp2
      go_loopw [6, 8] (fun v x wr => ∃ c : Nat, c ≤ nv' ∧ x = .int .i64 (c : Int) ∧ Hid (wr.ownsRow w.heap.size 21 1 v (bgA nu A ++ bgA c D).length (cl32 (bgA nu A ++ bgA c D))) ∧ Hid (Below w.heap.size w wr)) (fun _ x _ => nv' - (intOf x).toNat)
      case atStart => exact ⟨0, by omega, rfl, (by rw [bgA_zero, List.append_nil]; exact HO), HB⟩
      case round =>
        obtain ⟨c, hc, rfl, HO, HB⟩ := hrel
        have hwr := HB.out.size
        have d1 := (HB.out.cell (p := ⟨Qb, 1, none⟩) hQb).trans cQb
        by_cases hlt : c < nv'
        · have i3 : (c : Int) < (nv' : Int) := by omega
          have i0' : (0 : Int) ≤ (c : Int) := by omega
          obtain ⟨a, rfl, ha, ao, ac, a0, hra, _⟩ := HRB.out.below HB.out c (stc (c : Int) D) (dst_at nv' D c hlt)
          have hsl : (stc (c : Int) D).length ≤ 30000 := by unfold stc; rw [List.length_map]; exact Nat.le_trans (List.length_filter_le _ _) lD
          have HBG := hid (begins_any ao ac (stc (c : Int) D) wr hra (by omega))
          have HE := hid (bgA_succ c D)
          have HBL := hid (bgA_len c D)
          obtain ⟨L, hL⟩ : ∃ L, L = stc (c : Int) D := ⟨_, rfl⟩
          rw [← hL] at a0 HBG HE hsl
          obtain ⟨nl, hnl⟩ : ∃ nl, nl = L.length := ⟨_, rfl⟩
          rw [← hnl] at a0 HBG hsl
          have HNL := hid hnl
          have hb2 : (bgA nu A ++ bgA c D).length ≤ 4000000 := by
            have h5 := HBL.out
            have h6 : c * D.length ≤ 64 * 30000 := Nat.mul_le_mul (by omega) lD
            have h7 := bgA_len nu A
            have h8 : nu * A.length ≤ 64 * 30000 := Nat.mul_le_mul (by omega) lA
            rw [List.length_append]
            omega
          obtain ⟨Z, hZ⟩ : ∃ Z, Z = bgA nu A ++ bgA c D := ⟨_, rfl⟩
          have HZE := hid (show bgA nu A ++ bgA (c + 1) D = Z ++ bgs L by rw [HE.out, hZ]; simp)
          rw [← hZ] at HO hb2
          obtain ⟨nz, hnz⟩ : ∃ nz, nz = Z.length := ⟨_, rfl⟩
          rw [← hnz] at HO hb2
          have HNZ := hid hnz
          clear hra hL hnl hZ hnz HBL HE
          go_wp2_with fail
          refine HBG.out.mono ?_
          rintro e w1 ⟨v1, rfl, o1, b1⟩
          have HO1 := hid o1
          have HOk := hid (own_keep HO.out b1)
          have HB1 := hid (HB.out.trans (b1.mono hwr))
          have hw1 := Nat.le_trans hwr b1.size
          clear o1 b1 HBG HO HB d1 a0
          go_wp2_with (at_builtin; refine wpList_append_z rfl _ _ rfl w.heap.size _ nz (cl32 Z) rfl HOk.out wr.heap.size nl _ (bgs L) rfl HO1.out (by unfold maxLen; omega) (by omega) (by omega) ?_; intro v2 w2 o2 gr2; have HB2 := hid (HB1.out.grown gr2 hw1 (fun k hk => (HOk.out.lt k hk).1)); have HO2 := hid (show w2.ownsRow w.heap.size 21 1 v2 (bgA nu A ++ bgA (c + 1) D).length (cl32 (bgA nu A ++ bgA (c + 1) D)) by rw [HZE.out, cl32_app, List.length_append, ← HNZ.out, show (bgs L).length = nl by unfold bgs; rw [List.length_map]; exact HNL.out.symm]; exact o2); clear o2 gr2)
          go_roundw
          case rel => exact ⟨c + 1, by omega, by go_num, HO2, HB2⟩
          case measure => simp [intOf]; omega
        · have i3 : ¬ (c : Int) < (nv' : Int) := by omega
          have hcn : nv' = c := by omega
          subst hcn

          obtain ⟨Z, hZ⟩ : ∃ Z, Z = bgA nu A ++ bgA nv' D := ⟨_, rfl⟩
          have hz1 : 1 ≤ Z.length := by
            obtain ⟨g, hg, _⟩ := cov_ex A 0 1114112 0 HAV.out.1 (by omega) (by omega)
            have h5 : (g.1 : Int) ∈ Z := by rw [hZ, List.mem_append]; exact .inl ((bgA_mem nu A HCA.out _).2 ⟨g, hg, rfl⟩)
            exact List.length_pos_of_mem h5
          have hz2 : Z.length ≤ 4000000 := by
            have h5 := bgA_len nu A
            have h6 := bgA_len nv' D
            have h7 : nu * A.length ≤ 64 * 30000 := Nat.mul_le_mul (by omega) lA
            have h8 : nv' * D.length ≤ 64 * 30000 := Nat.mul_le_mul (by omega) lD
            rw [hZ, List.length_append]; omega
          have HCR := hid (show ∀ ys : List Int, ys.Perm Z → ys.Pairwise (· ≤ ·) → ∃ zs : List Nat, ys = zs.map (fun z : Nat => (z : Int)) ∧ (∀ z ∈ zs, z ≤ 1114111) ∧ zs.foldl (fun T (s : Nat) => (ad ((gtp (s : Int) A : Int), (gtp (s : Int) D : Int)) T).1) [(0, 0)] = crP A D from fun ys h1 h2 => cr_doc HAV.out.1 HAV.out.2.1 nu nv' HCA.out HCD.out ys (by rw [← hZ]; exact h1) h2)
          rw [← hZ] at HO
          obtain ⟨nz, hnz⟩ : ∃ nz, nz = Z.length := ⟨_, rfl⟩
          have HNZ := hid hnz
          rw [← hnz] at HO hz1 hz2
          obtain ⟨ag, acap, hform, hBg, _⟩ := HO.out.form hz1
          subst hform
          have HST := hid (rsort_any w.heap.size ag nz acap Z wr HO.out hz1 (by omega))
          clear hZ hnz
          go_wp2_with fail
          refine HST.out.mono ?_
          rintro e w3 ⟨rfl, ys, hpm, hsrt, o3, b3⟩
          obtain ⟨zs, rfl, hzs, hfold⟩ := HCR.out ys hpm hsrt
          have HB3 := hid (HB.out.trans b3)
          have HO3 := hid o3
          have HZS := hid hzs
          have HFD := hid hfold
          have HZL := hid (show zs.length = nz by have h5 := hpm.length_eq; rw [List.length_map] at h5; rw [h5]; exact HNZ.out.symm)
          have hw3 := HB3.out.size
          have HT0 := hid (show (w3.alloc (.cells #[.int .i64 0, .int .i64 0] 110)).ownsRow w.heap.size 110 2 (.slice (some ⟨w3.heap.size, 0, none⟩) 1 1) 1 (pks [(0, 0)]) from ⟨rfl, .inr ⟨w3.heap.size, 1, _, rfl, hw3, heap_alloc_new w3 _, Nat.le_refl _, by unfold maxLen; omega, rfl, rfl⟩⟩)
          have HB4 := hid (HB3.out.alloc hw3 (.cells #[.int .i64 0, .int .i64 0] 110))
          have HO4 := hid (HO3.out.alloc (.cells #[.int .i64 0, .int .i64 0] 110))
          obtain ⟨j0, hj110, jz0, jz1, jz2⟩ := info_parts Tryz.info110
          have HGA := hid (show ∀ (z : Nat) (W : World), z ≤ 1114111 → Below w.heap.size w W → Calls Tryz.prog 45 #[.pointer (some ⟨Qa, 0, none⟩), .int .i32 (z : Int)] W fun e w' => e = .returned (.int .i64 (gtp (z : Int) A : Nat)) ∧ w' = W from fun z W hz hW => by
            have h5 := rget_any Ba Qa nu U A nva _ vsa (z : Int) W (by have h6 := HDA.out.below hW; rw [← HNU.out] at h6; exact h6) HAV.out.1 HCA.out (by omega) (by omega)
            have h6 : instd (z : Int) = (z : Int) := by unfold instd; rw [if_neg (by omega)]
            rw [h6] at h5
            exact h5)
          have HGD := hid (show ∀ (z : Nat) (W : World), z ≤ 1114111 → Below w.heap.size w W → Calls Tryz.prog 45 #[.pointer (some ⟨Qb, 0, none⟩), .int .i32 (z : Int)] W fun e w' => e = .returned (.int .i64 (gtp (z : Int) D : Nat)) ∧ w' = W from fun z W hz hW => by
            have h5 := rget_any Bb Qb nv' V D nvb _ vsb (z : Int) W (by have h6 := HDB.out.below hW; rw [← HNV.out] at h6; exact h6) HAV.out.2.1 HCD.out (by omega) (by omega)
            have h6 : instd (z : Int) = (z : Int) := by unfold instd; rw [if_neg (by omega)]
            rw [h6] at h5
            exact h5)
          clear hpm hsrt o3 b3 hzs hfold HCR HST HO HB HB3 HO3 d1
          go_wp2
          go_loopw [9, 10] (fun l x wr => ∃ (k nT lc : Nat) (lp : Option Addr) (Ti : List Pr), k ≤ nz ∧ x = .int .i64 (k : Int) ∧ l = .slice lp nT lc ∧ nT ≤ k + 1 ∧ Hid (nT = Ti.length) ∧ Hid (Ti = (zs.take k).foldl (fun T (s : Nat) => (ad ((gtp (s : Int) A : Int), (gtp (s : Int) D : Int)) T).1) [(0, 0)]) ∧ Hid (wr.ownsRow w.heap.size 110 2 (.slice lp nT lc) nT (pks Ti)) ∧ Hid (wr.ownsRow w.heap.size 21 1 (.slice (some ⟨ag, 0, none⟩) nz acap) nz (cl32 (zs.map (fun z : Nat => (z : Int))))) ∧ Hid (Below w.heap.size w wr)) (fun _ x _ => nz - (intOf x).toNat)
          case atStart => exact ⟨0, 1, 1, some ⟨w3.heap.size, 0, none⟩, [(0, 0)], by omega, rfl, rfl, by omega, rfl, rfl, HT0, HO4, HB4⟩
          case round =>
            clear HT0 HO4 HB4 hw3
            obtain ⟨k, nT, lc, lp, Ti, hk, rfl, rfl, hnk, HTL, HTF, HOT, HOZ, HB⟩ := hrel
            have hwr := HB.out.size
            by_cases hlt : k < nz
            · have i3 : (k : Int) < (nz : Int) := by omega
              have i0' : (0 : Int) ≤ (k : Int) := by omega
              have hkz : k < zs.length := by have h5 := HZL.out; omega
              have hzk := HZS.out zs[k] (List.getElem_mem hkz)
              have cz : wr.cell? ⟨ag, k, none⟩ = some (.int .i32 ((zs[k] : Nat) : Int)) := row_cell1 HOZ.out k hlt _ (by rw [List.getElem?_map, List.getElem?_eq_getElem hkz]; rfl)
              have HTK := hid (show (zs.take (k + 1)).foldl (fun T (s : Nat) => (ad ((gtp (s : Int) A : Int), (gtp (s : Int) D : Int)) T).1) [(0, 0)] = (ad ((gtp ((zs[k] : Nat) : Int) A : Int), (gtp ((zs[k] : Nat) : Int) D : Int)) Ti).1 by rw [List.take_succ_eq_append_getElem hkz, List.foldl_append, ← HTF.out]; rfl)
              obtain ⟨z, hz⟩ : ∃ z, z = zs[k] := ⟨_, rfl⟩
              rw [← hz] at hzk cz HTK
              have HGa := hid (fun W hW => HGA.out z W hzk hW)
              have HGd := hid (fun W hW => HGD.out z W hzk hW)
              obtain ⟨ga, hga⟩ : ∃ ga, ga = gtp (z : Int) A := ⟨_, rfl⟩
              obtain ⟨gd, hgd⟩ : ∃ gd, gd = gtp (z : Int) D := ⟨_, rfl⟩
              rw [← hga] at HGa HTK
              rw [← hgd] at HGd HTK
              have HB0 := hid (show Below w.heap.size w wr.drew from HB.out.drew)
              have HB1 := hid (show Below w.heap.size w (wr.alloc (.cells #[.int .i64 0, .int .i64 0] 110)).drew from (HB.out.alloc hwr _).drew)
              have HS1 := hid (show (wr.alloc (.cells #[.int .i64 0, .int .i64 0] 110)).drew.cell? ⟨ag, k, none⟩ = some (.int .i32 (z : Int)) from (((Below.refl wr.heap.size wr).alloc (Nat.le_refl _) (.cells #[.int .i64 0, .int .i64 0] 110)).cell (p := ⟨ag, k, none⟩) (HOZ.out.lt ag rfl).2).trans cz)
              obtain ⟨V0, hV0⟩ : ∃ V0, V0 = (wr.alloc (.cells #[.int .i64 0, .int .i64 0] 110)).drew := ⟨_, rfl⟩
              obtain ⟨pb, hpb⟩ : ∃ pb, pb = wr.heap.size := ⟨_, rfl⟩
              have hv0 : V0.heap[pb]? = some (.cells #[.int .i64 0, .int .i64 0] 110 (0, 0)) := by rw [hV0, hpb]; exact heap_alloc_new wr _
              have k0 : V0.cell? ⟨pb, 0, none⟩ = some (.int .i64 0) := cell_row V0 pb 0 [_, _] 110 _ hv0 rfl
              have k1 : V0.cell? ⟨pb, 1, none⟩ = some (.int .i64 0) := cell_row V0 pb 1 [_, _] 110 _ hv0 rfl
              have f0 := frozen_row hv0 0
              have f1 := frozen_row hv0 1
              have HV0 := hid hv0
              have HV0E := hid hV0
              have HPB := hid hpb
              have HV0B := hid (show Below wr.heap.size wr V0 by rw [hV0]; exact ((Below.refl wr.heap.size wr).alloc (Nat.le_refl _) _).drew)
              have hpw : wr.heap.size ≤ pb := by omega
              clear hz hga hgd hkz HTF hv0 hV0 hpb
              go_wp2_with fail
              refine wp_region_mixT (.one 0 1 (.one 1 1 (.one 2 1 (.one 3 1 (.one 4 0 (.one 6 1 (.one 7 1 (.one 8 1 (.one 9 1 (.one 10 0 (.two 5 13 (.two 11 13 (.one 12 1 (.one 13 2 (.one 14 2 .nil))) (.one 11 2 (.one 12 1 (.one 14 2 .nil)))) (.one 5 2 (.one 11 2 (.one 12 1 (.one 14 2 .nil))))))))))))))) (fun w' => w'.cell? ⟨ag, k, none⟩ = some (.int .i32 (z : Int))) (fun _ => True) (fun j => j == 14) (by kernel_rfl) (by kernel_rfl) (fun j hj => by simp at hj; rw [hj]; decide) rfl (by kernel_rfl) cz trivial ?_
              iterate 10 ((first | refine mixT_s ?_ rfl (by kernel_rfl) (fun w' hS => ?_) ?_ | refine mixT_t ?_ rfl (by kernel_rfl) (fun w' hS => ?_) ?_); (rotate_left; ((try clear cz); go_simp; with_reducible rfl); rotate_left); (try simp only [Act.put, List.setIfInBounds_toArray]))
              refine mixT_two ?x5 ?x13
              case' x5 =>
                refine hand_go rfl (by kernel_rfl) fun KK hKK => ?_
                go_simp
                refine (HGa.out _ (by first | exact HB0.out | exact HB1.out)).mono ?_
                rintro e u ⟨rfl, hu⟩
                obtain rfl := hu.symm
                refine hKK _ _ (fun _ => (by first | exact cz | exact HS1.out)) trivial ?_
                clear hKK KK
                try simp only [Act.put, List.setIfInBounds_toArray]
                refine mixT_two ?y11 ?y13
              case' y11 =>
                refine hand_go rfl (by kernel_rfl) fun KK hKK => ?_
                go_simp
                refine (HGd.out _ (by first | exact HB0.out | exact HB1.out)).mono ?_
                rintro e u ⟨rfl, hu⟩
                obtain rfl := hu.symm
                refine hKK _ _ (fun _ => (by first | exact cz | exact HS1.out)) trivial ?_
                clear hKK KK
                try simp only [Act.put, List.setIfInBounds_toArray]
                refine mixT_t ?_ rfl (by kernel_rfl) (fun w' hS => ?_) ?_; (rotate_left; (go_simp; with_reducible rfl); rotate_left)
                try simp only [Act.put, List.setIfInBounds_toArray]
                refine mixT_go rfl (by kernel_rfl) fun KK hKK => ?_
                go_simp
                refine hKK _ _ (fun _ => HS1.out) trivial ?_
                clear hKK KK
                try simp only [Act.put, List.setIfInBounds_toArray]
                rw [← HV0E.out, ← HPB.out]
                refine mixT_go rfl (by kernel_rfl) fun KK hKK => ?_
                go_simp
                refine hKK _ _ (fun h => by cases h) trivial ?_
                clear hKK KK
                refine mixT_end (NoPanic.normal ?_)
              case' y13 =>
                refine hand_go rfl (by kernel_rfl) fun KK hKK => ?_
                go_simp
                refine hKK _ _ (fun _ => HS1.out) trivial ?_
                clear hKK KK
                try simp only [Act.put, List.setIfInBounds_toArray]
                refine mixT_go rfl (by kernel_rfl) fun KK hKK => ?_
                go_simp
                refine (HGd.out _ (by first | exact HB0.out | exact HB1.out)).mono ?_
                rintro e u ⟨rfl, hu⟩
                obtain rfl := hu.symm
                refine hKK _ _ (fun _ => (by first | exact cz | exact HS1.out)) trivial ?_
                clear hKK KK
                try simp only [Act.put, List.setIfInBounds_toArray]
                refine mixT_t ?_ rfl (by kernel_rfl) (fun w' hS => ?_) ?_; (rotate_left; (go_simp; with_reducible rfl); rotate_left)
                try simp only [Act.put, List.setIfInBounds_toArray]
                rw [← HV0E.out, ← HPB.out]
                refine mixT_go rfl (by kernel_rfl) fun KK hKK => ?_
                go_simp
                refine hKK _ _ (fun h => by cases h) trivial ?_
                clear hKK KK
                refine mixT_end (NoPanic.normal ?_)
              case' x13 =>
                refine hand_go rfl (by kernel_rfl) fun KK hKK => ?_
                go_simp
                refine hKK _ _ (fun _ => HS1.out) trivial ?_
                clear hKK KK
                try simp only [Act.put, List.setIfInBounds_toArray]
                refine mixT_go rfl (by kernel_rfl) fun KK hKK => ?_
                go_simp
                refine (HGa.out _ (by first | exact HB0.out | exact HB1.out)).mono ?_
                rintro e u ⟨rfl, hu⟩
                obtain rfl := hu.symm
                refine hKK _ _ (fun _ => (by first | exact cz | exact HS1.out)) trivial ?_
                clear hKK KK
                try simp only [Act.put, List.setIfInBounds_toArray]
                refine mixT_go rfl (by kernel_rfl) fun KK hKK => ?_
                go_simp
                refine (HGd.out _ (by first | exact HB0.out | exact HB1.out)).mono ?_
                rintro e u ⟨rfl, hu⟩
                obtain rfl := hu.symm
                refine hKK _ _ (fun _ => (by first | exact cz | exact HS1.out)) trivial ?_
                clear hKK KK
                try simp only [Act.put, List.setIfInBounds_toArray]
                refine mixT_t ?_ rfl (by kernel_rfl) (fun w' hS => ?_) ?_; (rotate_left; (go_simp; with_reducible rfl); rotate_left)
                try simp only [Act.put, List.setIfInBounds_toArray]
                rw [← HV0E.out, ← HPB.out]
                refine mixT_go rfl (by kernel_rfl) fun KK hKK => ?_
                go_simp
                refine hKK _ _ (fun h => by cases h) trivial ?_
                clear hKK KK
                refine mixT_end (NoPanic.normal ?_)
              all_goals
                obtain ⟨W, hV⟩ : ∃ W, W = (V0.setCell ⟨pb, 0, none⟩ (.int .i64 (ga : Int))).setCell ⟨pb, 1, none⟩ (.int .i64 (gd : Int)) := ⟨_, rfl⟩
                have HVH := hid (show W.heap[pb]? = some (.cells #[.int .i64 (ga : Int), .int .i64 (gd : Int)] 110 (0, 0)) by
                  rw [hV]
                  exact set_row _ pb 1 [.int .i64 (ga : Int), .int .i64 0] 110 _ (set_row V0 pb 0 [.int .i64 0, .int .i64 0] 110 _ HV0.out))
                have HVB := hid (show Below wr.heap.size wr W by rw [hV]; exact (HV0B.out.setCell (p := ⟨pb, 0, none⟩) hpw _).setCell (p := ⟨pb, 1, none⟩) hpw _)
                rw [← hV]
                have cv0 : W.cell? ⟨pb, 0, none⟩ = some (.int .i64 (ga : Int)) := cell_row W pb 0 [_, _] 110 _ HVH.out rfl
                have cv1 : W.cell? ⟨pb, 1, none⟩ = some (.int .i64 (gd : Int)) := cell_row W pb 1 [_, _] 110 _ HVH.out rfl
                have hnp : (Value.slice lp nT lc).ownBlock ≠ some pb := fun e => by have h5 := (HOT.out.lt pb e).2; omega
                have HOV := hid (own_keep HOT.out HVB.out)
                have HZV := hid (own_keep HOZ.out HVB.out)
                have HBV := hid (show Below w.heap.size w W from HB.out.trans (HVB.out.mono hwr))
                have HFI := hid (cfind_any lp lc Ti ((ga : Int), (gd : Int)) W (rd_ownP HOV.out) (by have h5 := HTL.out; omega))
                rw [← HTL.out] at HFI
                dsimp only at HFI
                clear hV HV0 HV0B HV0E HPB k0 k1 f0 f1 cz HS1 HB0 HB1 HGa HGd HOT HOZ HB
                by_cases hm : ((ga : Int), (gd : Int)) ∈ Ti
                · obtain ⟨c, e1, e2⟩ := fnd_mem _ _ hm
                  rw [e1] at HFI
                  rw [e2] at HTK
                  have q1 : ¬ (c : Int) < 0 := by omega
                  clear e1 e2 hm
                  go_wp2_with fail
                  refine HFI.out.mono ?_
                  rintro e w5 ⟨rfl, b5⟩
                  have HO5 := hid (own_keep HOV.out b5)
                  have HZ5 := hid (own_keep HZV.out b5)
                  have HB5 := hid (HBV.out.trans (b5.mono HBV.out.size))
                  clear b5 HFI
                  go_wp2
                  go_roundw
                  case rel => exact ⟨k + 1, nT, lc, lp, Ti, by omega, by go_num, rfl, by omega, HTL, HTK.out.symm, HO5, HZ5, HB5⟩
                  case measure => simp [intOf]; omega
                · have e1 := fnd_no _ _ hm
                  have e2 : (ad ((ga : Int), (gd : Int)) Ti).1 = Ti ++ [((ga : Int), (gd : Int))] := by unfold ad; rw [if_neg hm]
                  rw [e1] at HFI
                  rw [e2] at HTK
                  have HPS := hid (pks_snoc Ti ((ga : Int), (gd : Int)))
                  clear e1 e2 hm
                  go_wp2_with fail
                  refine HFI.out.mono ?_
                  rintro e w5 ⟨rfl, b5⟩
                  have HO5 := hid (own_keep HOV.out b5)
                  have HZ5 := hid (own_keep HZV.out b5)
                  have HB5 := hid (HBV.out.trans (b5.mono HBV.out.size))
                  have hv5 : w5.heap[pb]? = some (.cells #[.int .i64 (ga : Int), .int .i64 (gd : Int)] 110 (0, 0)) := (b5.block pb (lt_of_heap HVH.out)).trans HVH.out
                  have cw0 : w5.cell? ⟨pb, 0, none⟩ = some (.int .i64 (ga : Int)) := cell_row w5 pb 0 [_, _] 110 _ hv5 rfl
                  have cw1 : w5.cell? ⟨pb, 1, none⟩ = some (.int .i64 (gd : Int)) := cell_row w5 pb 1 [_, _] 110 _ hv5 rfl
                  have hw5 := HB5.out.size
                  clear b5 HFI hv5 cv0 cv1
                  go_wp2_with (at_builtin; refine wpList_append_lies _ rfl _ _ 111 rfl w.heap.size 110 j0 (.agg #[.int .i64 0, .int .i64 0]) 2 16 Tryz.underlying111 hj110 jz0 jz1 jz2 rfl (by decide) _ nT (pks Ti) rfl (HO5.out.alloc _) ⟨w5.heap.size, 0, none⟩ 1 1 (pkc ((ga : Int), (gd : Int))) rfl rfl (news_p w5 ((ga : Int), (gd : Int)) 110) (pkc_one _) (by decide) (by unfold maxLen; omega) (by omega) (by simp; omega) (w5.heap.size + 1) (by simp) ?_; intro q6 c6 w6 o6 gr6 hl6 hlt6)
                  have HO6 := hid (show w6.ownsRow w.heap.size 110 2 (.slice (some ⟨q6, 0, none⟩) (nT + 1) c6) (nT + 1) (pks (Ti ++ [((ga : Int), (gd : Int))])) by rw [HPS.out]; exact o6)
                  have HZ6 := hid (World.ownsRow.kept (HZ5.out.alloc _) gr6 (by
                    rcases own_ne HZ5.out HO5.out (by decide) with h5 | h5
                    · exact .inl h5
                    · exact .inr h5))
                  have HB6 := hid ((HB5.out.alloc hw5 (.cells #[.int .i64 (ga : Int), .int .i64 (gd : Int)] 110)).grown gr6 (by simp; omega) (fun k hk => (HO5.out.lt k hk).1))
                  clear o6 gr6 hl6 hlt6 HO5 HZ5 HB5 cw0 cw1
                  go_roundw
                  case rel => exact ⟨k + 1, nT + 1, c6, some ⟨q6, 0, none⟩, Ti ++ [((ga : Int), (gd : Int))], by omega, by go_num, rfl, by omega, (by have h5 := HTL.out; show nT + 1 = _; simp; omega), HTK.out.symm, HO6, HZ6, HB6⟩
                  case measure => simp [intOf]; omega
            · have i3 : ¬ (k : Int) < (nz : Int) := by omega
              have hTT : Ti = crP A D := by rw [HTF.out, List.take_of_length_le (by have h5 := HZL.out; omega)]; exact HFD.out
              have HBq := hid HB.out
              have HMEM := hid (fun p hp => crP_mem HAV.out.1 HAV.out.2.1 nu nv' HCA.out HCD.out u1 v1 p (show p ∈ crP A D from hp))
              rw [← hTT] at HMEM
              have HTC := hid hTT
              have hnT1 : 1 ≤ nT := by have h5 := (crP_len HAV.out.1 HAV.out.2.1).1; have h6 := HTL.out; rw [← hTT] at h5; omega
              clear hTT HTF HB HFD HGA HGD HOZ HZS HZL
              by_cases h64 : 64 < nT
              · have h64' : (64 : Int) < (nT : Int) := by omega
                have HE := hid (show crE U V (crP A D) = 6 by unfold crE; rw [if_pos (by have h5 := HTL.out; rw [← HTC.out]; omega)])
                clear h64
                go_wp2
                go_ret2
                exact ⟨HBq.out, .inl ⟨by rw [HE.out]; decide, by rw [HE.out]; rfl⟩⟩
              have h64' : ¬ (64 : Int) < (nT : Int) := by omega
              obtain ⟨tg, tcp, htg, _, htl⟩ := HOT.out.form hnT1
              cases htg
              obtain ⟨B0, hB0⟩ : ∃ B0, B0 = wr.heap.size := ⟨_, rfl⟩
              obtain ⟨W3, hW3⟩ : ∃ W3, W3 = ((wr.alloc (.cells #[.string ⟨#[79, 116, 104, 101, 114]⟩] 9)).alloc (.cells #[.slice none 0 0] 47)).alloc (.cells #[.slice (some ⟨wr.heap.size, 0, none⟩) 1 1, .slice (some ⟨wr.heap.size + 1, 0, none⟩) 1 1] 79) := ⟨_, rfl⟩
              have HD3 := hid (show DocAt B0 (B0 + 2) [oth] [[]] (.slice (some ⟨B0, 0, none⟩) 1 1) (.slice (some ⟨B0 + 1, 0, none⟩) 1 1) [.slice none 0 0] W3 by rw [hW3, hB0]; exact doc_start wr)
              have HB3 := hid (show Below B0 wr W3 by rw [hW3, hB0]; exact (((Below.refl _ wr).alloc (Nat.le_refl _) _).alloc (by simp) _).alloc (by simp; omega) _)
              obtain ⟨NN, hNN⟩ : ∃ NN, NN = crN U V Ti := ⟨_, rfl⟩
              obtain ⟨XX, hXX⟩ : ∃ XX : List (List Rg), XX = [] :: (Ti.drop 1).map (fun p => andN (stc p.1 A) (stc p.2 D)) := ⟨_, rfl⟩
              have HNL := hid (show NN.length = nT by rw [hNN, crN_len U V Ti (by have h5 := HTL.out; omega)]; exact HTL.out.symm)
              have HXL := hid (show XX.length = nT by rw [hXX]; have h5 := HTL.out; simp; omega)
              have HNA := hid (show ∀ (i : Nat) (p : Pr), 1 ≤ i → Ti[i]? = some p → NN[i]? = some (nmx U V p) ∧ XX[i]? = some (andN (stc p.1 A) (stc p.2 D)) from fun i p hi h => by
                obtain ⟨j, rfl⟩ : ∃ j, i = j + 1 := ⟨i - 1, by omega⟩
                have h5 : (Ti.drop 1)[j]? = some p := by rw [List.getElem?_drop, Nat.add_comm 1 j]; exact h
                refine ⟨?_, ?_⟩
                · rw [hNN]; unfold crN; rw [List.getElem?_cons_succ, List.getElem?_map, h5]; rfl
                · rw [hXX, List.getElem?_cons_succ, List.getElem?_map, h5]; rfl)
              have HLG := hid (show ∀ (j : Nat) (b : List UInt8), 1 ≤ j → NN[j]? = some b → 32 < b.length → lng U V ((crP A D).drop 1) = true from fun j b hj h h32 => by
                obtain ⟨i, rfl⟩ : ∃ i, j = i + 1 := ⟨j - 1, by omega⟩
                rw [hNN] at h
                unfold crN at h
                rw [List.getElem?_cons_succ, List.getElem?_map] at h
                cases hp : (Ti.drop 1)[i]? with
                | none => rw [hp] at h; cases h
                | some p =>
                  rw [hp] at h
                  cases h
                  unfold lng
                  rw [List.any_eq_true, ← HTC.out]
                  exact ⟨p, List.mem_of_getElem? hp, by simpa using h32⟩)
              have HLS := hid (show (∀ (j : Nat) (b : List UInt8), 1 ≤ j → NN[j]? = some b → b.length ≤ 32) → lng U V ((crP A D).drop 1) = false from fun h => by
                unfold lng
                rw [List.any_eq_false, ← HTC.out]
                intro p hp
                obtain ⟨i, hi⟩ := List.mem_iff_getElem?.1 hp
                have h6 := h (i + 1) (nmx U V p) (by omega) (by rw [hNN]; unfold crN; rw [List.getElem?_cons_succ, List.getElem?_map, hi]; rfl)
                simpa using h6)
              have HCN := hid (show crN U V (crP A D) = NN by rw [hNN, HTC.out])
              have HX1 := hid (show XX[0]? = some [] by rw [hXX]; rfl)
              have HN0 := hid (show NN.take 1 = [oth] by rw [hNN]; rfl)
              have HX0 := hid (show XX.take 1 = [[]] by rw [hXX]; rfl)
              have HW3 := hid hW3
              have HBE := hid hB0
              have hB0w : w.heap.size ≤ B0 := by have h5 := HBq.out.size; omega
              have HOB := hid (show wr.ownsRow w.heap.size 110 2 (.slice (some ⟨tg, 0, none⟩) nT lc) nT (pks Ti) from HOT.out)
              have htB : tg < B0 := by rw [hB0]; exact htl
              obtain ⟨i9, hi9, hz0, hz1', hz2'⟩ := info_parts Tryz.info9
              obtain ⟨i47, hi47, hz470, hz471, hz472⟩ := info_parts Tryz.info47
              clear hNN hXX hW3 hB0 HOT htl
              go_wp2
              rw [← HW3.out, ← HBE.out]
              clear HW3
              go_loopw [13] (fun x wq => ∃ (i : Nat) (nv sv : Value) (vs : List Value), 1 ≤ i ∧ i ≤ nT ∧ x = .int .i64 (i : Int) ∧ Hid (DocAt B0 (B0 + 2) (NN.take i) (XX.take i) nv sv vs wq) ∧ Hid (Below B0 wr wq)) (fun x _ => nT - (intOf x).toNat)
              case atStart => exact ⟨1, _, _, _, by omega, hnT1, rfl, by rw [HN0.out, HX0.out]; exact HD3, HB3⟩
              case round =>
                clear HD3 HB3
                obtain ⟨i, nv, sv, vs, hi1, hin, rfl, HD, HB⟩ := hrel
                have HBz := hid (HBq.out.trans (HB.out.mono hB0w))
                have hws : B0 ≤ wr.heap.size := by have h5 := HB.out.size; have h6 := HBE.out; omega
                by_cases hlt : i < nT
                · have i3 : (i : Int) < (nT : Int) := by omega
                  have i0' : (0 : Int) ≤ (i : Int) := by omega
                  have hiT : i < Ti.length := by have h5 := HTL.out; omega
                  obtain ⟨pp, hpp⟩ : ∃ pp, Ti[i]? = some pp := ⟨_, List.getElem?_eq_getElem hiT⟩
                  obtain ⟨xa, xb, hpe, hxa, hxb⟩ := HMEM.out pp (List.mem_of_getElem? hpp)
                  subst hpe
                  obtain ⟨hn1, hx1⟩ := HNA.out i _ hi1 hpp
                  have hor := own_keep HOB.out (show Below _ _ wr by rw [← HBE.out]; exact HB.out)
                  have p0 : wr.cell? ⟨tg, i * 2, none⟩ = some (.int .i64 (xa : Int)) := by
                    rw [hor.cellAt _ (by omega)]
                    have h5 := pks_at Ti i 0 (.int .i64 (xa : Int)) hiT (by rw [List.getElem?_eq_getElem hiT] at hpp; injection hpp with hpp; rw [hpp]; rfl)
                    rw [← h5]; rfl
                  have p1 : wr.cell? ⟨tg, i * 2 + 1, none⟩ = some (.int .i64 (xb : Int)) := by
                    rw [hor.cellAt _ (by omega)]
                    exact pks_at Ti i 1 (.int .i64 (xb : Int)) hiT (by rw [List.getElem?_eq_getElem hiT] at hpp; injection hpp with hpp; rw [hpp]; rfl)
                  have hda := HDA.out.below HBz.out
                  have hdb := HDB.out.below HBz.out
                  obtain ⟨ga, gca, hna, a1⟩ := doc_name hda xa (by rw [← HNU.out]; exact hxa)
                  obtain ⟨gb, gcb, hnb, b1⟩ := doc_name hdb xb (by rw [← HNV.out]; exact hxb)
                  have a0 := hda.c0
                  have b0 := hdb.c0
                  rw [hna, ← HNU.out] at a0
                  rw [hnb, ← HNV.out] at b0
                  have hgaB : ga < B0 := by have h5 := (HDA.out.hN.lt ga (by rw [hna]; rfl)).2; omega
                  have hgbB : gb < B0 := by have h5 := (HDB.out.hN.lt gb (by rw [hnb]; rfl)).2; omega
                  have hnl : (NN.take i).length = i := by rw [List.length_take, HNL.out]; omega
                  have hxl : (XX.take i).length = i := by rw [List.length_take, HXL.out]; omega
                  have q0 := HD.out.c0
                  obtain ⟨qn, qc, hnv, hqn, _⟩ := HD.out.hN.form (by omega)
                  rw [hnl] at hnv
                  subst hnv
                  obtain ⟨b, hb⟩ : ∃ b, b = nmx U V ((xa : Int), (xb : Int)) := ⟨_, rfl⟩
                  have hcat : ((⟨(U.getD xa []).toArray⟩ : ByteArray) ++ ⟨#[95]⟩) ++ ⟨(V.getD xb []).toArray⟩ = ⟨b.toArray⟩ := by
                    have h5 := cat_x (U.getD xa []) [95]
                    have h6 := cat_x (U.getD xa [] ++ [95]) (V.getD xb [])
                    rw [show (⟨#[95]⟩ : ByteArray) = ⟨[95].toArray⟩ from rfl, h5, h6, hb]
                    unfold nmx
                    simp
                  obtain ⟨ua, hua⟩ : ∃ ua, ua = U.getD xa [] := ⟨_, rfl⟩
                  obtain ⟨vb, hvb⟩ : ∃ vb, vb = V.getD xb [] := ⟨_, rfl⟩
                  have hul : ua.length ≤ 32 := by
                    have hx : xa < U.length := by rw [← HNU.out]; exact hxa
                    have h5 := nam_pos _ (nU _ (List.getElem_mem hx))
                    have e1 : ua = U[xa] := by rw [hua]; simp [List.getD, hx]
                    rw [e1]; exact h5.2
                  have hvl : vb.length ≤ 32 := by
                    have hx : xb < V.length := by rw [← HNV.out]; exact hxb
                    have h5 := nam_pos _ (nV _ (List.getElem_mem hx))
                    have e1 : vb = V[xb] := by rw [hvb]; simp [List.getD, hx]
                    rw [e1]; exact h5.2
                  have hu1 : ¬ 9223372036854775807 < ua.length + 1 := by omega
                  have hu2 : ¬ 9223372036854775807 < ua.length + 1 + vb.length := by omega
                  rw [← hua] at a1 hcat
                  rw [← hvb] at b1 hcat
                  have HNT1 := hid (show NN.take (i + 1) = NN.take i ++ [b] by rw [List.take_add_one, hn1, hb]; rfl)
                  have HXT1 := hid (show XX.take (i + 1) = XX.take i ++ [andN (stc (xa : Int) A) (stc (xb : Int) D)] by rw [List.take_add_one, hx1]; rfl)
                  have HSS := hid (show ∀ W : World, (∀ b, b < B0 → W.heap[b]? = wr.heap[b]?) → W.heap[B0 + 2]? = wr.heap[B0 + 2]? → (W.cell? ⟨B0 + 2, 0, none⟩ = some (.slice (some ⟨qn, 0, none⟩) i qc) ∧ W.cell? ⟨Qa, 0, none⟩ = some (.slice (some ⟨ga, 0, none⟩) nu gca) ∧ W.cell? ⟨tg, i * 2, none⟩ = some (.int .i64 (xa : Int)) ∧ W.cell? ⟨ga, xa, none⟩ = some (.string ⟨ua.toArray⟩) ∧ W.cell? ⟨Qb, 0, none⟩ = some (.slice (some ⟨gb, 0, none⟩) nv' gcb) ∧ W.cell? ⟨tg, i * 2 + 1, none⟩ = some (.int .i64 (xb : Int)) ∧ W.cell? ⟨gb, xb, none⟩ = some (.string ⟨vb.toArray⟩)) from fun W e1 e2 =>
                    ⟨(cell_same W wr _ _ e2).trans q0, (cell_same W wr _ _ (e1 _ (by omega))).trans a0, (cell_same W wr _ _ (e1 _ htB)).trans p0, (cell_same W wr _ _ (e1 _ hgaB)).trans a1, (cell_same W wr _ _ (e1 _ (by omega))).trans b0, (cell_same W wr _ _ (e1 _ htB)).trans p1, (cell_same W wr _ _ (e1 _ hgbB)).trans b1⟩)
                  have HS0 := hid (HSS.out wr.drew (fun _ _ => rfl) rfl)
                  have hQlt : B0 + 2 < wr.heap.size := lt_of_heap HD.out.hQ
                  have HXN := hid (show ∀ (w5 : World) (q5 c5 : Nat), w5.ownsRow B0 9 1 (.slice (some ⟨q5, 0, none⟩) (i + 1) c5) (i + 1) (nms (NN.take i) ++ [.string ⟨b.toArray⟩]) → (wr.alloc (.cells #[.string ⟨b.toArray⟩] 9)).drew.grownBy w5 (Value.slice (some ⟨qn, 0, none⟩) i qc).ownBlock → ((Value.slice (some ⟨qn, 0, none⟩) i qc).ownBlock = some q5 ∨ q5 = wr.heap.size + 1) → DocAt B0 (B0 + 2) (NN.take i ++ [b]) (XX.take i) (.slice (some ⟨q5, 0, none⟩) (i + 1) c5) sv vs (w5.setCell ⟨B0 + 2, 0, none⟩ (.slice (some ⟨q5, 0, none⟩) (i + 1) c5)) ∧ Below B0 wr (w5.setCell ⟨B0 + 2, 0, none⟩ (.slice (some ⟨q5, 0, none⟩) (i + 1) c5)) from fun w5 q5 c5 o5 gr5 hl5 => by
                    obtain ⟨r1, _, r3⟩ := HD.out.named (n := i) hnl.symm (((Below.refl _ wr).alloc (Nat.le_refl _) (.cells #[.string ⟨b.toArray⟩] 9)).drew) o5 gr5 (by show _ ∨ q5 = (wr.alloc (.cells #[.string ⟨b.toArray⟩] 9)).heap.size; rw [World.size_alloc]; exact hl5)
                    exact ⟨r1, ((Below.refl B0 wr).alloc hws _).drew.trans r3⟩)
                  have hbl : b.length ≤ 65 := by
                    rw [hb]; unfold nmx
                    have e1 : U.getD ((xa : Int), (xb : Int)).1.toNat [] = ua := by rw [hua]; rfl
                    have e2 : V.getD ((xa : Int), (xb : Int)).2.toNat [] = vb := by rw [hvb]; rfl
                    rw [e1, e2]; simp; omega
                  have HOQ := hid HD.out.hN
                  rw [hnl] at HOQ
                  have hxa' : (xa : Int) < (nu : Int) := by omega
                  have hxb' : (xb : Int) < (nv' : Int) := by omega
                  have hxa0 : (0 : Int) ≤ (xa : Int) := by omega
                  have hxb0 : (0 : Int) ≤ (xb : Int) := by omega
                  have HDQ := hid HD.out
                  have HPA := hid (show (pkc Ti[i])[0]? = some (.int .i64 (xa : Int)) ∧ (pkc Ti[i])[1]? = some (.int .i64 (xb : Int)) by rw [List.getElem?_eq_getElem hiT] at hpp; injection hpp with hpp; rw [hpp]; exact ⟨rfl, rfl⟩)
                  clear hor p0 p1 hda hdb hna hnb a0 a1 b0 b1 q0 hua hvb hb hpp hn1 hx1 HD hnl
                  go_wp2_with fail
                  refine wp_region_mixC [(0, 1), (1, 1), (2, 1), (3, 1), (4, 0), (5, 1), (6, 1), (7, 1), (8, 0), (9, 1), (10, 1), (11, 1), (12, 1), (13, 0), (14, 1), (15, 0), (16, 1), (17, 1), (18, 1), (19, 1), (20, 0), (21, 1), (22, 1), (23, 1), (24, 1), (25, 0), (26, 1), (27, 0), (28, 1), (29, 2), (30, 2), (31, 1), (32, 1), (33, 2)] (fun W => W.cell? ⟨B0 + 2, 0, none⟩ = some (.slice (some ⟨qn, 0, none⟩) i qc) ∧ W.cell? ⟨Qa, 0, none⟩ = some (.slice (some ⟨ga, 0, none⟩) nu gca) ∧ W.cell? ⟨tg, i * 2, none⟩ = some (.int .i64 (xa : Int)) ∧ W.cell? ⟨ga, xa, none⟩ = some (.string ⟨ua.toArray⟩) ∧ W.cell? ⟨Qb, 0, none⟩ = some (.slice (some ⟨gb, 0, none⟩) nv' gcb) ∧ W.cell? ⟨tg, i * 2 + 1, none⟩ = some (.int .i64 (xb : Int)) ∧ W.cell? ⟨gb, xb, none⟩ = some (.string ⟨vb.toArray⟩)) (fun _ => True) (fun j => j == 33) (by kernel_rfl) (by kernel_rfl) (fun j hj => by simp at hj; rw [hj]; decide) rfl (by kernel_rfl) HS0.out trivial ?_
                  iterate 29 ((first | refine mixC_s ?_ rfl (by kernel_rfl) (fun w' hS => ?_) ?_ | refine mixC_t ?_ rfl (by kernel_rfl) (fun w' hS => ?_) ?_); (rotate_left; ((first | obtain ⟨s1, s2, s3, s4, s5, s6, s7⟩ := hS | clear hS); go_simp; with_reducible rfl); rotate_left); (try simp only [Act.put, List.setIfInBounds_toArray]))
                  refine mixC_go rfl (by kernel_rfl) fun KK hKK => ?_
                  go_simp
                  have hal : ∀ c, c < wr.heap.size → (wr.alloc (.cells #[.string ⟨b.toArray⟩] 9)).drew.heap[c]? = wr.heap[c]? := fun c hc => heap_alloc_old wr _ c hc
                  refine hKK _ _ (fun _ => HSS.out _ (fun c hc => hal c (by omega)) (hal _ hQlt)) trivial ?_
                  clear hKK KK
                  try simp only [Act.put, List.setIfInBounds_toArray]
                  refine mixC_go rfl (by kernel_rfl) fun KK hKK => ?_
                  refine wp_append_lies _ _ _ 45 rfl B0 9 i9 (.string ⟨#[]⟩) 1 16 Tryz.underlying45 hi9 hz0 hz1' hz2' rfl (by decide) _ i (nms (NN.take i)) rfl ((HOQ.out.alloc _).drew) ⟨wr.heap.size, 0, none⟩ 1 1 [.string ⟨b.toArray⟩] rfl rfl (news_s wr ⟨b.toArray⟩ 9) (str_one _) (by decide) (by unfold maxLen; omega) (by omega) (by show B0 ≤ (wr.alloc _).heap.size; rw [World.size_alloc]; omega) (wr.heap.size + 1) (World.size_alloc _ _) ?_
                  intro q5 c5 w5 o5 gr5 hl5 hlt5
                  obtain ⟨r1, r3⟩ := HXN.out w5 q5 c5 o5 gr5 hl5
                  have hbk : ∀ c, c < wr.heap.size → c ≠ qn → w5.heap[c]? = wr.heap[c]? := fun c hc hne => (gr5.block c (by show c < (wr.alloc _).heap.size; rw [World.size_alloc]; omega) (fun e => hne (by injection e))).trans (hal c hc)
                  have hQn : B0 + 2 ≠ qn := fun e => row_other HOQ.out (B0 + 2) _ 79 HDQ.out.hQ (by decide) (by rw [e]; rfl)
                  have hs5 := HSS.out w5 (fun c hc => hbk c (by omega) (by omega)) (hbk _ hQlt hQn)
                  have HQ5 := hid ((hbk _ hQlt hQn).trans HDQ.out.hQ)
                  have HR1 := hid r1
                  have HR3 := hid r3
                  refine hKK _ _ (fun _ => hs5) trivial ?_
                  clear hKK KK o5 gr5 hl5 hlt5 r1 r3 hal hbk HXN
                  try simp only [Act.put, List.setIfInBounds_toArray]
                  iterate 2 (refine mixC_t ?_ rfl (by kernel_rfl) (fun w' hS => ?_) ?_; (rotate_left; (go_simp; with_reducible rfl); rotate_left); (try simp only [Act.put]))
                  obtain ⟨g1, _⟩ := hs5
                  have g2 := frozen_row HQ5.out 0
                  refine mixC_go rfl (by kernel_rfl) fun KK hKK => ?_
                  go_simp
                  refine hKK _ _ (fun h => by cases h) trivial ?_
                  clear hKK KK g1 g2 HQ5 HS0 HSS
                  refine mixC_end (NoPanic.normal ?_)
                  obtain ⟨W1, hW1⟩ : ∃ W1, W1 = w5.setCell ⟨B0 + 1 + 1, 0, none⟩ (.slice (some ⟨q5, 0, none⟩) (i + 1) c5) := ⟨_, rfl⟩
                  have HD1 := hid (show DocAt B0 (B0 + 2) (NN.take (i + 1)) (XX.take i) (.slice (some ⟨q5, 0, none⟩) (i + 1) c5) sv vs W1 by rw [hW1, HNT1.out]; exact HR1.out)
                  have HBW := hid (show Below B0 wr W1 by rw [hW1]; exact HR3.out)
                  rw [← hW1]
                  clear hW1 HR1 HR3 HOQ HDQ hul hvl hu1 hu2 hcat hbl HNT1 hQn
                  have HBY := hid (HBz.out.trans (HBW.out.mono hB0w))
                  have hW1s : wr.heap.size ≤ W1.heap.size := HBW.out.size
                  obtain ⟨sa, hsa, hsal, ao, ac, a0, ra, _⟩ := HRA.out.below HBY.out xa (stc (xa : Int) A) (dst_at nu A xa hxa)
                  obtain ⟨sb, hsb, hsbl, bo, bc, b0, rb, _⟩ := HRB.out.below HBY.out xb (stc (xb : Int) D) (dst_at nv' D xb hxb)
                  have hsaB : sa.block < B0 := by
                    obtain ⟨s', e1, e2, _⟩ := HRA.out xa (stc (xa : Int) A) (dst_at nu A xa hxa)
                    rw [hsa] at e1; cases e1; omega
                  have hsbB : sb.block < B0 := by
                    obtain ⟨s', e1, e2, _⟩ := HRB.out xb (stc (xb : Int) D) (dst_at nv' D xb hxb)
                    rw [hsb] at e1; cases e1; omega
                  subst hsa hsb
                  have hor := own_keep HOB.out (show Below _ _ W1 by rw [← HBE.out]; exact HB.out.trans HBW.out)
                  have ca := (HBY.out.cell (p := ⟨Qa, 1, none⟩) hQa).trans cQa
                  have cb := (HBY.out.cell (p := ⟨Qb, 1, none⟩) hQb).trans cQb
                  have q1 := HD1.out.c1
                  obtain ⟨qs, qsc, hsv, hqs, _⟩ := HD1.out.hS.form (by omega)
                  rw [hxl] at hsv
                  subst hsv
                  have p0 : W1.cell? ⟨tg, i * 2, none⟩ = some (.int .i64 (xa : Int)) := by rw [hor.cellAt _ (by omega)]; have h5 := pks_at Ti i 0 (.int .i64 (xa : Int)) hiT HPA.out.1; rw [← h5]; rfl
                  have p1 : W1.cell? ⟨tg, i * 2 + 1, none⟩ = some (.int .i64 (xb : Int)) := by rw [hor.cellAt _ (by omega)]; exact pks_at Ti i 1 (.int .i64 (xb : Int)) hiT HPA.out.2
                  have hla : (stc (xa : Int) A).length ≤ 30000 := by unfold stc; rw [List.length_map]; exact Nat.le_trans (List.length_filter_le _ _) lA
                  have hlb : (stc (xb : Int) D).length ≤ 30000 := by unfold stc; rw [List.length_map]; exact Nat.le_trans (List.length_filter_le _ _) lD
                  have HAND := hid (rand_any ao bo ac bc (stc (xa : Int) A) (stc (xb : Int) D) W1.drew (ra.below (bdrew W1)) (rb.below (bdrew W1)) (by omega) (by omega))
                  obtain ⟨ya, hya⟩ : ∃ ya, ya = stc (xa : Int) A := ⟨_, rfl⟩
                  obtain ⟨yb, hyb⟩ : ∃ yb, yb = stc (xb : Int) D := ⟨_, rfl⟩
                  rw [← hya] at a0 HAND HXT1
                  rw [← hyb] at b0 HAND HXT1
                  obtain ⟨na, hna⟩ : ∃ na, na = ya.length := ⟨_, rfl⟩
                  obtain ⟨nb, hnb⟩ : ∃ nb, nb = yb.length := ⟨_, rfl⟩
                  rw [← hna] at a0 HAND
                  rw [← hnb] at b0 HAND
                  have HSS := hid (show ∀ W : World, (∀ b, b < B0 → W.heap[b]? = W1.heap[b]?) → W.heap[B0 + 2]? = W1.heap[B0 + 2]? → (W.cell? ⟨B0 + 2, 1, none⟩ = some (.slice (some ⟨qs, 0, none⟩) i qsc) ∧ W.cell? ⟨Qa, 1, none⟩ = some (.slice (some sa) nu sc) ∧ W.cell? ⟨tg, i * 2, none⟩ = some (.int .i64 (xa : Int)) ∧ W.cell? (sa.add xa) = some (.slice ao na ac) ∧ W.cell? ⟨Qb, 1, none⟩ = some (.slice (some sb) nv' sc2) ∧ W.cell? ⟨tg, i * 2 + 1, none⟩ = some (.int .i64 (xb : Int)) ∧ W.cell? (sb.add xb) = some (.slice bo nb bc)) from fun W e1 e2 =>
                    ⟨(cell_same W W1 _ _ e2).trans q1, (cell_same W W1 _ _ (e1 _ (by omega))).trans ca, (cell_same W W1 _ _ (e1 _ htB)).trans p0, (World.cell?_of_block (w := W1) (a := sa.add xa) (by rw [add_blk]; exact e1 _ hsaB)).trans a0, (cell_same W W1 _ _ (e1 _ (by omega))).trans cb, (cell_same W W1 _ _ (e1 _ htB)).trans p1, (World.cell?_of_block (w := W1) (a := sb.add xb) (by rw [add_blk]; exact e1 _ hsbB)).trans b0⟩)
                  have HS0 := hid (HSS.out W1.drew (fun _ _ => rfl) rfl)
                  have hQl1 : B0 + 2 < W1.heap.size := lt_of_heap HD1.out.hQ
                  have HOS := hid HD1.out.hS
                  rw [hxl] at HOS
                  clear hor ca cb q1 p0 p1 a0 b0 ra rb hsal hsbl hya hyb hna hnb hla hlb HPA hiT
                  go_wp2_with fail
                  refine wp_region_mixC [(0, 1), (1, 1), (2, 1), (3, 1), (4, 0), (5, 1), (6, 1), (7, 1), (8, 0), (9, 1), (10, 1), (11, 1), (12, 1), (13, 0), (14, 1), (15, 0), (16, 1), (17, 1), (18, 1), (19, 0), (20, 1), (21, 1), (22, 1), (23, 1), (24, 0), (25, 1), (26, 0), (27, 2), (28, 2), (29, 2), (30, 1), (31, 1), (32, 2)] (fun W => W.cell? ⟨B0 + 2, 1, none⟩ = some (.slice (some ⟨qs, 0, none⟩) i qsc) ∧ W.cell? ⟨Qa, 1, none⟩ = some (.slice (some sa) nu sc) ∧ W.cell? ⟨tg, i * 2, none⟩ = some (.int .i64 (xa : Int)) ∧ W.cell? (sa.add xa) = some (.slice ao na ac) ∧ W.cell? ⟨Qb, 1, none⟩ = some (.slice (some sb) nv' sc2) ∧ W.cell? ⟨tg, i * 2 + 1, none⟩ = some (.int .i64 (xb : Int)) ∧ W.cell? (sb.add xb) = some (.slice bo nb bc)) (fun _ => True) (fun j => j == 32) (by kernel_rfl) (by kernel_rfl) (fun j hj => by simp at hj; rw [hj]; decide) rfl (by kernel_rfl) HS0.out trivial ?_
                  iterate 27 ((first | refine mixC_s ?_ rfl (by kernel_rfl) (fun w' hS => ?_) ?_ | refine mixC_t ?_ rfl (by kernel_rfl) (fun w' hS => ?_) ?_); (rotate_left; ((first | obtain ⟨s1, s2, s3, s4, s5, s6, s7⟩ := hS | clear hS); go_simp; with_reducible rfl); rotate_left); (try simp only [Act.put, List.setIfInBounds_toArray]))
                  refine mixC_go rfl (by kernel_rfl) fun KK hKK => ?_
                  go_simp
                  refine HAND.out.mono ?_
                  rintro e w7 ⟨v7, rfl, o7, b7⟩
                  have b7' : Below W1.heap.size W1 w7 := (bdrew W1).trans b7
                  obtain ⟨zo, zc, rfl⟩ := own_form o7
                  have HO7 := hid (ownsRow_base2 o7 (show B0 ≤ W1.drew.heap.size from Nat.le_trans hws hW1s))
                  have HB7 := hid b7'
                  refine hKK _ _ (fun _ => HSS.out w7 (fun c hc => b7'.block c (by omega)) (b7'.block _ hQl1)) trivial ?_
                  clear hKK KK o7 b7 b7' HAND
                  try simp only [Act.put, List.setIfInBounds_toArray]
                  obtain ⟨ny, hny⟩ : ∃ ny, ny = (andN ya yb).length := ⟨_, rfl⟩
                  have HNY := hid hny
                  rw [← hny] at HO7 ⊢
                  clear hny
                  refine mixC_go rfl (by kernel_rfl) fun KK hKK => ?_
                  go_simp
                  have hal : ∀ c, c < W1.heap.size → (w7.alloc (.cells #[.slice zo ny zc] 47)).heap[c]? = W1.heap[c]? := fun c hc => (heap_alloc_old w7 _ c (Nat.lt_of_lt_of_le hc HB7.out.size)).trans (HB7.out.block c hc)
                  refine hKK _ _ (fun _ => HSS.out _ (fun c hc => hal c (by omega)) (hal _ hQl1)) trivial ?_
                  clear hKK KK
                  try simp only [Act.put, List.setIfInBounds_toArray]
                  have hw7 : B0 ≤ w7.heap.size := by have h5 := HB7.out.size; omega
                  refine mixC_go rfl (by kernel_rfl) fun KK hKK => ?_
                  refine wp_append_lies _ _ _ 77 rfl B0 47 i47 (.slice none 0 0) 1 24 Tryz.underlying77 hi47 hz470 hz471 hz472 rfl (by decide) _ i vs rfl ((own_keep HOS.out HB7.out).alloc _) ⟨w7.heap.size, 0, none⟩ 1 1 [.slice zo ny zc] rfl rfl (news_v w7 (.slice zo ny zc) 47) (vs_one _) (by decide) (by unfold maxLen; omega) (by omega) (by rw [World.size_alloc]; omega) (w7.heap.size + 1) (World.size_alloc _ _) ?_
                  intro q9 c9 w9 o9 gr9 hl9 hlt9
                  obtain ⟨r1, _, r3⟩ := HD1.out.added (n := i) (xx := andN ya yb) hxl.symm (HB7.out.alloc HB7.out.size (.cells #[.slice zo ny zc] 47)) (by rw [← HNY.out]; exact HO7.out.alloc _) o9 gr9
                  have hbk : ∀ c, c < W1.heap.size → c ≠ qs → w9.heap[c]? = W1.heap[c]? := fun c hc hne => (gr9.block c (by rw [World.size_alloc]; have h5 := HB7.out.size; omega) (fun e => hne (by injection e))).trans (hal c hc)
                  have hQn : B0 + 2 ≠ qs := fun e => row_other HOS.out (B0 + 2) _ 79 HD1.out.hQ (by decide) (by rw [e]; rfl)
                  have hs5 := HSS.out w9 (fun c hc => hbk c (by omega) (by omega)) (hbk _ hQl1 hQn)
                  have HQ5 := hid ((hbk _ hQl1 hQn).trans HD1.out.hQ)
                  have HR1 := hid r1
                  have HR3 := hid (((HB7.out.mono (Nat.le_trans hws hW1s)).alloc hw7 (.cells #[.slice zo ny zc] 47)).trans r3)
                  refine hKK _ _ (fun _ => hs5) trivial ?_
                  clear hKK KK o9 gr9 hl9 hlt9 r1 r3 hal hbk
                  try simp only [Act.put, List.setIfInBounds_toArray]
                  iterate 2 (refine mixC_t ?_ rfl (by kernel_rfl) (fun w' hS => ?_) ?_; (rotate_left; (go_simp; with_reducible rfl); rotate_left); (try simp only [Act.put]))
                  obtain ⟨g1, _⟩ := hs5
                  have g2 := frozen_row HQ5.out 1
                  refine mixC_go rfl (by kernel_rfl) fun KK hKK => ?_
                  go_simp
                  refine hKK _ _ (fun h => by cases h) trivial ?_
                  clear hKK KK g1 g2 HQ5 HS0 HSS
                  refine mixC_end (NoPanic.normal ?_)
                  obtain ⟨W2, hW2⟩ : ∃ W2, W2 = w9.setCell ⟨B0 + 1 + 1, 1, none⟩ (.slice (some ⟨q9, 0, none⟩) (i + 1) c9) := ⟨_, rfl⟩
                  have HD2 := hid (show DocAt B0 (B0 + 2) (NN.take (i + 1)) (XX.take (i + 1)) (.slice (some ⟨q5, 0, none⟩) (i + 1) c5) (.slice (some ⟨q9, 0, none⟩) (i + 1) c9) (vs ++ [.slice zo ny zc]) W2 by rw [hW2, HXT1.out]; exact HR1.out)
                  have HB2 := hid (HB.out.trans (HBW.out.trans (show Below B0 W1 W2 by rw [hW2]; exact HR3.out)))
                  rw [← hW2]
                  clear hW2 HR1 HR3 HOS HD1 HBW HBY HB7 HO7 hQn
                  go_wp2
                  go_roundw
                  case rel => exact ⟨i + 1, _, _, _, by omega, by omega, by go_num, HD2, HB2⟩
                  case measure => simp [intOf]; omega
                · have i3 : ¬ (i : Int) < (nT : Int) := by omega
                  have hin2 : nT = i := by omega
                  subst hin2
                  have HTN := hid (show NN.take nT = NN from List.take_of_length_le (by have h5 := HNL.out; omega))
                  have HTX := hid (show XX.take nT = XX from List.take_of_length_le (by have h5 := HXL.out; omega))
                  rw [HTN.out, HTX.out] at HD
                  have HNB := hid (show ¬ 64 < Ti.length by have h5 := HTL.out; omega)
                  obtain ⟨qn, qc, hnv, hqn, _⟩ := HD.out.hN.form (by have h5 := HNL.out; omega)
                  rw [HNL.out] at hnv
                  subst hnv
                  have HBZ := hid (show ∀ W, Below B0 wr W → Below w.heap.size w W from fun W hW => HBz.out.trans (hW.mono hB0w))
                  have HDW := hid (show ∀ W, Below wr.heap.size wr W → W.cell? ⟨B0 + 2, 0, none⟩ = some (.slice (some ⟨qn, 0, none⟩) nT qc) ∧ (∀ (j : Nat) (b : List UInt8), NN[j]? = some b → W.cell? ⟨qn, j, none⟩ = some (.string ⟨b.toArray⟩)) from fun W hW => by
                    have h5 := HD.out.below hW
                    refine ⟨h5.c0, fun j b hj => ?_⟩
                    have h6 := h5.hN
                    have hjl := (List.getElem?_eq_some_iff.1 hj).1
                    rw [HNL.out] at h6
                    rw [h6.cellAt j (by have h7 := HNL.out; omega)]
                    unfold nms
                    rw [List.getElem?_map, hj]; rfl)
                  have HDX := hid HD.out
                  have HNB2 := hid (show ¬ 64 < (crP A D).length by rw [← HTC.out]; exact HNB.out)
                  clear HD HB i3
                  go_wp2
                  go_loopw [14] (fun x wq => ∃ i : Nat, 1 ≤ i ∧ i ≤ nT ∧ x = .int .i64 (i : Int) ∧ Hid (∀ (j : Nat) (b : List UInt8), 1 ≤ j → j < i → NN[j]? = some b → b.length ≤ 32) ∧ Hid (Below wr.heap.size wr wq)) (fun x _ => nT - (intOf x).toNat)
                  case atStart => exact ⟨1, by omega, by omega, rfl, fun j b h1 h2 => absurd h2 (by omega), Below.refl _ _⟩
                  case round =>
                    obtain ⟨i, hi1, hin5, rfl, HLE, HB5⟩ := hrel
                    obtain ⟨c0, cN⟩ := HDW.out wr HB5.out
                    have HBF := hid (HBZ.out wr (HB5.out.mono hws))
                    by_cases hlt5 : i < nT
                    · have i3 : (i : Int) < (nT : Int) := by omega
                      have i0' : (0 : Int) ≤ (i : Int) := by omega
                      obtain ⟨b, hb⟩ : ∃ b, NN[i]? = some b := ⟨_, List.getElem?_eq_getElem (by have h5 := HNL.out; omega)⟩
                      have cb := cN i b hb
                      have HBS := hid (show (⟨b.toArray⟩ : ByteArray).size = b.length by show b.toArray.size = _; simp)
                      have HBI := hid hb
                      clear cN hb
                      by_cases hlo : 32 < b.length
                      · have hlo' : (32 : Int) < (b.length : Int) := by omega
                        have HE := hid (show crE U V (crP A D) = 40 by unfold crE; rw [if_neg HNB2.out, if_pos (HLG.out i b hi1 HBI.out hlo)])
                        clear hlo
                        go_wp2
                        go_ret2
                        exact ⟨HBF.out, .inl ⟨by rw [HE.out]; decide, by rw [HE.out]; rfl⟩⟩
                      · have hlo' : ¬ (32 : Int) < (b.length : Int) := by omega
                        have HLE2 := hid (show ∀ (j : Nat) (y : List UInt8), 1 ≤ j → j < i + 1 → NN[j]? = some y → y.length ≤ 32 from fun j y h1 h2 h3 => by
                          rcases Nat.lt_or_ge j i with h4 | h4
                          · exact HLE.out j y h1 h4 h3
                          · have h5 : j = i := by omega
                            subst h5
                            rw [HBI.out] at h3; cases h3; omega)
                        clear hlo
                        go_wp2
                        go_roundw
                        case rel => exact ⟨i + 1, by omega, by omega, by go_num, HLE2, HB5⟩
                        case measure => simp [intOf]; omega
                    · have i3 : ¬ (i : Int) < (nT : Int) := by omega
                      have HLF := hid (HLS.out (fun j b h1 h2 => HLE.out j b h1 (by have h5 := (List.getElem?_eq_some_iff.1 h2).1; have h6 := HNL.out; omega) h2))
                      have HB6 := hid HB5.out
                      clear cN HLE HB5 HBF
                      go_wp2
                      clear c0
                      go_loopw [15] (fun x wq => ∃ i : Nat, 1 ≤ i ∧ i ≤ nT ∧ x = .int .i64 (i : Int) ∧ Hid (∀ (j : Nat) (b : List UInt8), 1 ≤ j → j < i → NN[j]? = some b → b ∉ NN.take j) ∧ Hid (Below wr.heap.size wr wq)) (fun x _ => nT - (intOf x).toNat)
                      case atStart => exact ⟨1, by omega, by omega, rfl, fun j b h1 h2 => absurd h2 (by omega), Below.refl _ _⟩
                      case round =>
                        obtain ⟨i, hi1, hin6, rfl, HNM, HB7⟩ := hrel
                        have HB8 := hid (HB6.out.trans (HB7.out.mono HB6.out.size))
                        obtain ⟨c0, cN⟩ := HDW.out wr HB8.out
                        have HBF := hid (HBZ.out wr (HB8.out.mono hws))
                        by_cases hlt6 : i < nT
                        · have i3 : (i : Int) < (nT : Int) := by omega
                          have i0' : (0 : Int) ≤ (i : Int) := by omega
                          have hiN : i < NN.length := by have h5 := HNL.out; omega
                          obtain ⟨b, hb⟩ : ∃ b, NN[i]? = some b := ⟨_, List.getElem?_eq_getElem hiN⟩
                          have cb := cN i b hb
                          have hqs : qn < wr.heap.size := by have h5 := (HDX.out.hN.lt qn rfl).2; have h6 := HB8.out.size; omega
                          have HRC := hid (rclass_any (B0 + 2) (some ⟨qn, 0, none⟩) qc nT NN b wr c0 (fun j y hj => ⟨⟨qn, 0, none⟩, rfl, hqs, by rw [add_zero0]; exact cN j y hj⟩) HNL.out.symm (by omega))
                          have HBI := hid hb
                          have hbm : b ∈ NN := List.mem_of_getElem? hb
                          have hbe : NN[i] = b := by rw [List.getElem?_eq_getElem hiN] at hb; injection hb
                          unfold clx at HRC
                          rw [if_pos hbm] at HRC
                          clear cN hb hbm
                          by_cases hm : b ∈ NN.take i
                          · have hix : NN.idxOf b < i := by
                              have e : NN = NN.take i ++ NN.drop i := (List.take_append_drop i NN).symm
                              rw [e, List.idxOf_append, if_pos hm]
                              have h5 := List.idxOf_lt_length_of_mem hm
                              rw [List.length_take] at h5
                              omega
                            have HE := hid (show crE U V (crP A D) = 8 by
                              unfold crE
                              rw [if_neg HNB2.out, if_neg (by rw [HLF.out]; decide), if_neg]
                              rw [HCN.out]
                              intro hnd
                              obtain ⟨j, hj⟩ := List.mem_iff_getElem?.1 hm
                              rw [List.getElem?_take] at hj
                              split at hj
                              · rename_i hji
                                have h6 := nodup_inj hnd hj HBI.out
                                omega
                              · cases hj)
                            obtain ⟨ix, hixe⟩ : ∃ ix, ix = NN.idxOf b := ⟨_, rfl⟩
                            rw [← hixe] at HRC hix
                            have hne : ((ix : Int) != (i : Int)) = true := by simp; omega
                            clear hm hixe hbe
                            go_wp2_with fail
                            refine HRC.out.mono ?_
                            rintro e w9 ⟨rfl, hw9⟩
                            obtain rfl := hw9.symm
                            go_wp2
                            go_ret2
                            exact ⟨HBF.out, .inl ⟨by rw [HE.out]; decide, by rw [HE.out]; rfl⟩⟩
                          · have hix : NN.idxOf b = i := idx_here NN b i hiN hbe hm
                            rw [hix] at HRC
                            have HNM2 := hid (show ∀ (j : Nat) (y : List UInt8), 1 ≤ j → j < i + 1 → NN[j]? = some y → y ∉ NN.take j from fun j y h1 h2 h3 => by
                              rcases Nat.lt_or_ge j i with h4 | h4
                              · exact HNM.out j y h1 h4 h3
                              · have h5 : j = i := by omega
                                subst h5
                                rw [HBI.out] at h3; cases h3; exact hm)
                            clear hm hix hbe
                            go_wp2_with fail
                            refine HRC.out.mono ?_
                            rintro e w9 ⟨rfl, hw9⟩
                            obtain rfl := hw9.symm
                            go_wp2
                            go_roundw
                            case rel => exact ⟨i + 1, by omega, by omega, by go_num, HNM2, HB7⟩
                            case measure => simp [intOf]; omega
                        · have i3 : ¬ (i : Int) < (nT : Int) := by omega
                          have hnd : NN.Nodup := by
                            refine List.pairwise_iff_getElem.2 (fun j k hj hk hjk e => ?_)
                            refine HNM.out k NN[k] (by omega) (by have h6 := HNL.out; omega) (List.getElem?_eq_getElem hk) ?_
                            rw [← e]
                            exact List.mem_take_iff_getElem.2 ⟨j, by omega, rfl⟩
                          have HE := hid (show crE U V (crP A D) = 0 by unfold crE; rw [if_neg HNB2.out, if_neg (by rw [HLF.out]; decide), if_pos (by rw [HCN.out]; exact hnd)])
                          have hXd : ∀ (d : Nat) (p : Pr), 1 ≤ d → (crP A D)[d]? = some p → XX[d]? = some (andN (stc p.1 A) (stc p.2 D)) := fun d p h1 h2 => (HNA.out d p h1 (by rw [HTC.out]; exact h2)).2
                          have hXlen : XX.length = (crP A D).length := by rw [HXL.out, HTL.out, HTC.out]
                          have HFN := hid (cr_fin HAV.out.1 HAV.out.2.1 HAV.out.2.2.1 HAV.out.2.2.2 XX hXlen HX1.out hXd)
                          have hfl : (XX.drop 1).flatten.length ≤ 40000 := by
                            have h5 := cr_flat HAV.out.1 HAV.out.2.1 HAV.out.2.2.1 HAV.out.2.2.2 XX hXlen hXd
                            have h6 := crL_len HAV.out.1 HAV.out.2.1
                            omega
                          have HRR := hid (rrest_any B0 (B0 + 2) NN XX _ sv vs wr (HDX.out.below HB8.out) (by have h5 := HB8.out.size; omega) (by have h5 := HXL.out; omega) (by have h5 := HXL.out; omega) hfl)
                          rw [HFN.out] at HRR
                          clear hnd hXd hXlen hfl cN HNM
                          go_wp2_with fail
                          refine HRR.out.mono ?_
                          rintro e w9 ⟨rfl, b9, sv9, vs9, d9⟩
                          have HB9 := hid (HBZ.out w9 ((HB8.out.mono hws).trans b9))
                          have HD9 := hid d9
                          clear b9 d9 HRR
                          go_wp2
                          go_ret2
                          exact ⟨HB9.out, .inr ⟨HE.out, _, _, _, _, _, rfl, by rw [HCN.out]; exact HD9.out⟩⟩
end Go.Proofs.YtohhokjlgihbgaaGreatDoor
/- The walk of PropsCross. -/
namespace Go.Proofs.YtohhokjlgihbgaaGreatDoor
open Go.RowKit

set_option maxRecDepth 100000 in
theorem cross_nilA (v : Value) (w : World) : Calls Tryz.prog 28 #[.pointer none, v] w fun e w' => e = .returned (.tuple #[.pointer none, .int .i64 0]) ∧ Below w.heap.size w w' := by
  go_enter Tryz.func28, Tryz.ntmps28
  go_wp2
  go_ret2
  exact ⟨rfl, Below.refl _ _⟩
set_option maxRecDepth 100000 in
theorem cross_nilB (P : Nat) (w : World) : Calls Tryz.prog 28 #[.pointer (some ⟨P, 0, none⟩), .pointer none] w fun e w' => e = .returned (.tuple #[.pointer none, .int .i64 0]) ∧ Below w.heap.size w w' := by
  go_enter Tryz.func28, Tryz.ntmps28
  go_wp2
  go_ret2
  exact ⟨rfl, Below.refl _ _⟩
set_option maxRecDepth 100000 in
theorem rcross_nilA (v : Value) (w : World) : Calls Tryz.prog 29 #[.pointer none, v] w fun e w' => e = .returned (.tuple #[.pointer none, .int .i64 0]) ∧ Below w.heap.size w w' := by
  go_enter Tryz.func29, Tryz.ntmps29
  go_wp2
  go_ret2
  exact ⟨rfl, Below.refl _ _⟩
set_option maxRecDepth 100000 in
theorem rcross_nilB (P : Nat) (w : World) : Calls Tryz.prog 29 #[.pointer (some ⟨P, 0, none⟩), .pointer none] w fun e w' => e = .returned (.tuple #[.pointer none, .int .i64 0]) ∧ Below w.heap.size w w' := by
  go_enter Tryz.func29, Tryz.ntmps29
  go_wp2
  go_ret2
  exact ⟨rfl, Below.refl _ _⟩
theorem twp_cr (U V : List (List UInt8)) (A D : List Tr) (hU : TwP U A) (hV : TwP V D) (h0 : crE U V (crP A D) = 0) (hl : A.length + D.length ≤ 30000) : TwP (crN U V (crP A D)) (crL A D) := by
  have h64 : ¬ 64 < (crP A D).length := fun h => by unfold crE at h0; rw [if_pos h] at h0; cases h0
  have hlg : lng U V ((crP A D).drop 1) = false := by
    cases hb : lng U V ((crP A D).drop 1) with
    | false => rfl
    | true => unfold crE at h0; rw [if_neg h64, if_pos hb] at h0; cases h0
  have hnd : (crN U V (crP A D)).Nodup := by
    rcases Classical.em (crN U V (crP A D)).Nodup with h5 | h5
    · exact h5
    · unfold crE at h0; rw [if_neg h64, if_neg (by rw [hlg]; decide), if_neg h5] at h0; cases h0
  have hone := (crP_len hU.cov hV.cov).1
  have hln := crN_len U V (crP A D) hone
  have hlc := crL_len hU.cov hV.cov
  have hcv := crL_cov hU.cov hV.cov
  refine ⟨hcv, crL_alt hU.cov hV.cov hU.alt hV.alt, fun g hg => by rw [hln]; exact crL_cls hU.cov hV.cov g hg, hnd, by omega, by omega, ?_, by omega, cov_pw _ 0 _ hcv, ?_⟩
  · intro b hb
    unfold crN at hb
    rcases List.mem_cons.1 hb with rfl | hb
    · decide
    · obtain ⟨p, hp, rfl⟩ := List.mem_map.1 hb
      obtain ⟨x, y, rfl, hx, hy⟩ := crP_mem hU.cov hV.cov U.length V.length hU.cls hV.cls hU.one hV.one p (List.mem_of_mem_drop hp)
      refine nam_nmx U V hU.nam hV.nam x y hx hy ?_
      unfold lng at hlg
      rw [List.any_eq_false] at hlg
      have h5 := hlg _ hp
      simpa using h5
  · obtain ⟨g, hg, h5⟩ := cov_en _ 0 _ hcv (by omega)
    exact ⟨g, hg, by omega⟩
theorem whl_short (t : List UInt8) (ht : t.length ≤ 4000) (h0 : (nw t).1.1 = 0) (hr : Rs 0 (nw t).2.2) : (whl (nw t).2.2).length ≤ 8001 := by
  obtain ⟨g1, g2⟩ := nw_good t h0
  obtain ⟨k1, k2, k3, k4⟩ := whl_good _ _ g1 hr
  omega

set_option maxRecDepth 100000 in
set_option maxHeartbeats 8000000 in
theorem cross_walk (t o : List UInt8) (ao : Option Addr) (ac : Nat) (E : List Int) (m : Int) (w : World) (h : Tbs m w) (hE : RdZ w ao E) (ht : t.length ≤ 9223372036854775807) (ho : o.length ≤ 9223372036854775807) (hEl : E.length ≤ 9223372036854775807) :
    Calls Tryz.prog 7 #[.string ⟨t.toArray⟩, .string ⟨o.toArray⟩, .slice ao E.length ac] w fun e w' => e = .returned (.bool true) ∧ Below w.heap.size w w' := by
  have HT := hid h
  have HLV := hid (live_any m)
  have HNU := hid num_any
  have HZ := hid hE
  have HSZ := hid (show (⟨t.toArray⟩ : ByteArray).size = t.length by show t.toArray.size = _; simp)
  have HSZ2 := hid (show (⟨o.toArray⟩ : ByteArray).size = o.length by show o.toArray.size = _; simp)
  clear h hE
  by_cases g1 : (4000 : Int) < (t.length : Int)
  ·
    go_enter Tryz.func7, Tryz.ntmps7
    go_wp2_with fail
    refine (HLV.out w HT.out).mono ?_
    rintro e w1 ⟨rfl, b1⟩
    have HB1 := hid b1
    clear b1
    go_wp2
    go_ret
    exact ⟨rfl, HB1.out⟩

  by_cases g2 : (4000 : Int) < (o.length : Int)
  ·
    go_enter Tryz.func7, Tryz.ntmps7
    go_wp2_with fail
    refine (HLV.out w HT.out).mono ?_
    rintro e w1 ⟨rfl, b1⟩
    have HB1 := hid b1
    clear b1
    go_wp2
    go_ret
    exact ⟨rfl, HB1.out⟩

  by_cases g3 : (60 : Int) < (E.length : Int)
  ·
    go_enter Tryz.func7, Tryz.ntmps7
    go_wp2_with fail
    refine (HLV.out w HT.out).mono ?_
    rintro e w1 ⟨rfl, b1⟩
    have HB1 := hid b1
    clear b1
    go_wp2
    go_ret
    exact ⟨rfl, HB1.out⟩

  have hts : t.length ≤ 4000 := by omega
  have hos : o.length ≤ 4000 := by omega
  have hE6 : E.length ≤ 60 := by omega
  obtain ⟨n, hn⟩ : ∃ n, n = E.length := ⟨_, rfl⟩
  have HNE := hid hn
  rw [← hn] at hE6 g3 ⊢
  clear hn hEl
  have HN1 := hid (new_any t m w HT.out)
  have HN2 := hid (fun W hW => new_any o m W (HT.out.below hW))
  have HR1 := hid (fun W => rnew_any t W (.inl (by omega)))
  have HR2 := hid (fun W => rnew_any o W (.inl (by omega)))
  have HP1 := hid (twp_of t (by omega))
  have HP2 := hid (twp_of o (by omega))
  have HS1 := hid (whl_short t hts)
  have HS2 := hid (whl_short o hos)
  obtain ⟨er1, hr1⟩ : ∃ er, er = (nw t).1.1 := ⟨_, rfl⟩
  obtain ⟨ln1, hl1⟩ : ∃ ln, ln = (nw t).1.2 := ⟨_, rfl⟩
  obtain ⟨U, hU⟩ : ∃ U, U = (nw t).2.1 := ⟨_, rfl⟩
  obtain ⟨S1, hS1⟩ : ∃ S, S = (nw t).2.2 := ⟨_, rfl⟩
  obtain ⟨er2, hr2⟩ : ∃ er, er = (nw o).1.1 := ⟨_, rfl⟩
  obtain ⟨ln2, hl2⟩ : ∃ ln, ln = (nw o).1.2 := ⟨_, rfl⟩
  obtain ⟨V, hV⟩ : ∃ U, U = (nw o).2.1 := ⟨_, rfl⟩
  obtain ⟨S2, hS2⟩ : ∃ S, S = (nw o).2.2 := ⟨_, rfl⟩
  rw [← hr1, ← hl1, ← hU, ← hS1] at HN1 HR1
  rw [← hr2, ← hl2, ← hV, ← hS2] at HN2 HR2
  rw [← hr1, ← hU, ← hS1] at HP1
  rw [← hr2, ← hV, ← hS2] at HP2
  rw [← hr1, ← hS1] at HS1
  rw [← hr2, ← hS2] at HS2
  clear hr1 hl1 hU hS1 hr2 hl2 hV hS2
  go_enter Tryz.func7, Tryz.ntmps7
  go_wp2_with fail
  refine HN1.out.mono ?_
  rintro e w1 ⟨b1, (⟨hne1, rfl⟩ | ⟨he1, P1, K1, nv1, po1, pc1, rfl, d1, o1, rs1, nd1, lu1⟩)⟩
  · have HBw1 := hid b1
    clear b1 HN1
    go_wp2_with fail
    refine (HN2.out w1 HBw1.out).mono ?_
    rintro e w2 ⟨b2, (⟨hne2, rfl⟩ | ⟨he2, P2, K2, nv2, po2, pc2, rfl, d2, o2, rs2, nd2, lu2⟩)⟩
    · have HBw2 := hid (HBw1.out.trans (b2.mono HBw1.out.size))
      clear b2 HN2
      go_wp2_with fail
      refine (HR1.out w2).mono ?_
      rintro e w3 ⟨bw3, (⟨_, rfl⟩ | ⟨hbad, _⟩)⟩
      case inr => exact absurd hbad hne1
      have HBw3 := hid (HBw2.out.trans (bw3.mono HBw2.out.size))
      go_wp2_with fail
      refine (HR2.out w3).mono ?_
      rintro e w4 ⟨bw4, (⟨_, rfl⟩ | ⟨hbad, _⟩)⟩
      case inr => exact absurd hbad hne2
      have HBw4 := hid (HBw3.out.trans (bw4.mono HBw3.out.size))
      go_wp2_with fail
      refine (cross_nilA _ w4).mono ?_
      rintro e w5 ⟨rfl, b5⟩
      have HBw5 := hid (HBw4.out.trans (b5.mono HBw4.out.size))
      go_wp2_with fail
      refine (rcross_nilA _ w5).mono ?_
      rintro e w6 ⟨rfl, b6⟩
      have HBw6 := hid (HBw5.out.trans (b6.mono HBw5.out.size))
      clear b5 b6
      go_wp2_with (first | (go_at_call 12; refine (HNU.out _ _).mono ?_; rintro e w7 ⟨rfl, hw⟩; obtain rfl := hw.symm) | fail)
      refine (HLV.out w6 (HT.out.below HBw6.out)).mono ?_
      rintro e w8 ⟨rfl, b8⟩
      have HBw8 := hid (HBw6.out.trans (b8.mono HBw6.out.size))
      clear b8
      go_wp2
      go_ret
      exact ⟨rfl, HBw8.out⟩
    · have HBw2 := hid (HBw1.out.trans (b2.mono HBw1.out.size))
      clear b2 HN2 d2 o2
      go_wp2_with fail
      refine (HR1.out w2).mono ?_
      rintro e w3 ⟨bw3, (⟨_, rfl⟩ | ⟨hbad, _⟩)⟩
      case inr => exact absurd hbad hne1
      have HBw3 := hid (HBw2.out.trans (bw3.mono HBw2.out.size))
      go_wp2_with fail
      refine (HR2.out w3).mono ?_
      rintro e w4 ⟨bw4, (⟨hbad, _⟩ | ⟨_, Q2, nvq2, svq2, vsq2, rfl, dq2⟩)⟩
      case inl => exact absurd he2 hbad
      have HBw4 := hid (HBw3.out.trans (bw4.mono HBw3.out.size))
      go_wp2_with fail
      refine (cross_nilA _ w4).mono ?_
      rintro e w5 ⟨rfl, b5⟩
      have HBw5 := hid (HBw4.out.trans (b5.mono HBw4.out.size))
      go_wp2_with fail
      refine (rcross_nilA _ w5).mono ?_
      rintro e w6 ⟨rfl, b6⟩
      have HBw6 := hid (HBw5.out.trans (b6.mono HBw5.out.size))
      clear b5 b6
      go_wp2_with (first | (go_at_call 12; refine (HNU.out _ _).mono ?_; rintro e w7 ⟨rfl, hw⟩; obtain rfl := hw.symm) | fail)
      refine (HLV.out w6 (HT.out.below HBw6.out)).mono ?_
      rintro e w8 ⟨rfl, b8⟩
      have HBw8 := hid (HBw6.out.trans (b8.mono HBw6.out.size))
      clear b8
      go_wp2
      go_ret
      exact ⟨rfl, HBw8.out⟩
  · have HBw1 := hid b1
    have HD1 := hid d1
    have HO1 := hid o1
    clear b1 d1 o1 HN1
    go_wp2_with fail
    refine (HN2.out w1 HBw1.out).mono ?_
    rintro e w2 ⟨b2, (⟨hne2, rfl⟩ | ⟨he2, P2, K2, nv2, po2, pc2, rfl, d2, o2, rs2, nd2, lu2⟩)⟩
    · have HBw2 := hid (HBw1.out.trans (b2.mono HBw1.out.size))
      clear b2 HN2
      go_wp2_with fail
      refine (HR1.out w2).mono ?_
      rintro e w3 ⟨bw3, (⟨hbad, _⟩ | ⟨_, Q1, nvq1, svq1, vsq1, rfl, dq1⟩)⟩
      case inl => exact absurd he1 hbad
      have HBw3 := hid (HBw2.out.trans (bw3.mono HBw2.out.size))
      go_wp2_with fail
      refine (HR2.out w3).mono ?_
      rintro e w4 ⟨bw4, (⟨_, rfl⟩ | ⟨hbad, _⟩)⟩
      case inr => exact absurd hbad hne2
      have HBw4 := hid (HBw3.out.trans (bw4.mono HBw3.out.size))
      go_wp2_with fail
      refine (cross_nilB P1 w4).mono ?_
      rintro e w5 ⟨rfl, b5⟩
      have HBw5 := hid (HBw4.out.trans (b5.mono HBw4.out.size))
      go_wp2_with fail
      refine (rcross_nilB Q1 w5).mono ?_
      rintro e w6 ⟨rfl, b6⟩
      have HBw6 := hid (HBw5.out.trans (b6.mono HBw5.out.size))
      clear b5 b6
      go_wp2_with (first | (go_at_call 12; refine (HNU.out _ _).mono ?_; rintro e w7 ⟨rfl, hw⟩; obtain rfl := hw.symm) | fail)
      refine (HLV.out w6 (HT.out.below HBw6.out)).mono ?_
      rintro e w8 ⟨rfl, b8⟩
      have HBw8 := hid (HBw6.out.trans (b8.mono HBw6.out.size))
      clear b8
      go_wp2
      go_ret
      exact ⟨rfl, HBw8.out⟩
    · have HBw2 := hid (HBw1.out.trans (b2.mono HBw1.out.size))
      have HD2 := hid (HD1.out.below b2)
      have HO2 := hid (own_keep HO1.out b2)
      have HDb := hid d2
      have HOb := hid o2
      have HTA := hid (HP1.out he1 rs1 nd1 lu1)
      have HTB := hid (HP2.out he2 rs2 nd2 lu2)
      have HSA := hid (HS1.out he1 rs1)
      have HSB := hid (HS2.out he2 rs2)
      clear b2 d2 o2 HN2 HD1 HO1 HP1 HP2 HS1 HS2 rs1 nd1 lu1 rs2 nd2 lu2
      obtain ⟨A, hA⟩ : ∃ A, A = whl S1 := ⟨_, rfl⟩
      obtain ⟨D, hD⟩ : ∃ D, D = whl S2 := ⟨_, rfl⟩
      rw [← hA] at HD2 HO2 HTA HSA HR1
      rw [← hD] at HDb HOb HTB HSB HR2
      clear hA hD
      go_wp2_with fail
      refine (HR1.out w2).mono ?_
      rintro e w3 ⟨bw3, (⟨hbad, _⟩ | ⟨_, Q1, nvq1, svq1, vsq1, rfl, dq1⟩)⟩
      case inl => exact absurd he1 hbad
      have HBw3 := hid (HBw2.out.trans (bw3.mono HBw2.out.size))
      go_wp2_with fail
      refine (HR2.out w3).mono ?_
      rintro e w4 ⟨bw4, (⟨hbad, _⟩ | ⟨_, Q2, nvq2, svq2, vsq2, rfl, dq2⟩)⟩
      case inl => exact absurd he2 hbad
      have HBw4 := hid (HBw3.out.trans (bw4.mono HBw3.out.size))
      have HDQ1 := hid (dq1.below bw4)
      have HDQ2 := hid dq2
      have b24 : Below w2.heap.size w2 w4 := bw3.trans (bw4.mono bw3.size)
      have HCX := hid (cross_any _ P1 K1 _ P2 K2 _ _ U V nv1 nv2 po1 po2 pc1 pc2 A D w4 (HD2.out.below b24) (HDb.out.below b24) (own_keep HO2.out b24) (own_keep HOb.out b24) HTA.out.cov HTB.out.cov HTA.out.cls HTB.out.cls HTA.out.len HTB.out.len HTA.out.one HTB.out.one HTA.out.nam HTB.out.nam HTA.out.al HTB.out.al)
      have HCY := hid (show ∀ W, Below w4.heap.size w4 W → Calls Tryz.prog 29 #[.pointer (some ⟨Q1, 0, none⟩), .pointer (some ⟨Q2, 0, none⟩)] W (crR U V (crP A D) (crL A D) W) from fun W hW => rcross_any _ Q1 _ Q2 U V nvq1 svq1 nvq2 svq2 vsq1 vsq2 A D W (HDQ1.out.below hW) (HDQ2.out.below hW) HTA.out.cov HTB.out.cov HTA.out.alt HTB.out.alt HTA.out.cls HTB.out.cls HTA.out.len HTB.out.len HTA.out.one HTB.out.one HTA.out.nam HTB.out.nam HTA.out.al HTB.out.al (by have h5 := HSA.out; have h6 := HSB.out; omega))
      have HTC := hid (fun h0 => twp_cr U V A D HTA.out HTB.out h0 (by have h5 := HSA.out; have h6 := HSB.out; omega))
      have HSM := hid (fun (r q : Nat) hr hq => crL_same HTA.out.cov HTB.out.cov r q hr hq)
      have HGA := hid (show ∀ (z : Int) W, Below w4.heap.size w4 W → Calls Tryz.prog 24 #[.pointer (some ⟨P1, 0, none⟩), .int .i32 z] W fun e w' => e = .returned (.int .i64 (gtp (instd z) A : Nat)) ∧ Below W.heap.size W w' from fun z W hW => get_any _ P1 K1 U nv1 po1 pc1 A z W ((HD2.out.below b24).below hW) ((rd_own (own_keep HO2.out b24)).below hW) (by have h5 := HSA.out; omega) HTA.out.pw HTA.out.en)
      have HGB := hid (show ∀ (z : Int) W, Below w4.heap.size w4 W → Calls Tryz.prog 24 #[.pointer (some ⟨P2, 0, none⟩), .int .i32 z] W fun e w' => e = .returned (.int .i64 (gtp (instd z) D : Nat)) ∧ Below W.heap.size W w' from fun z W hW => get_any _ P2 K2 V nv2 po2 pc2 D z W ((HDb.out.below b24).below hW) ((rd_own (own_keep HOb.out b24)).below hW) (by have h5 := HSB.out; omega) HTB.out.pw HTB.out.en)
      have HNL := hid (show (crN U V (crP A D)).length = (crP A D).length from crN_len U V _ (crP_len HTA.out.cov HTB.out.cov).1)
      obtain ⟨ce, hce⟩ : ∃ ce, ce = crE U V (crP A D) := ⟨_, rfl⟩
      obtain ⟨NN, hNN⟩ : ∃ NN, NN = crN U V (crP A D) := ⟨_, rfl⟩
      obtain ⟨T, hT⟩ : ∃ T, T = crP A D := ⟨_, rfl⟩
      obtain ⟨Lc, hLc⟩ : ∃ Lc, Lc = crL A D := ⟨_, rfl⟩
      unfold crQ at HCX
      unfold crR at HCY
      rw [← hce, ← hNN, ← hLc] at HCX
      rw [← hce, ← hNN, ← hLc, ← hT] at HCY
      rw [← hce, ← hNN, ← hLc] at HTC
      rw [← hNN, ← hT] at HNL
      rw [← hLc] at HSM
      clear hce hNN hT hLc dq1 dq2 bw3 bw4 HDQ1 HDQ2 HD2 HO2 HDb HOb b24 HR1 HR2
      go_wp2_with fail
      refine HCX.out.mono ?_
      rintro e w5 ⟨b5, (⟨hce, rfl⟩ | ⟨hce, Bd, Pd, Kd, nvd, lo, lc, rfl, dd, rdd⟩)⟩
      · have HBw5 := hid (HBw4.out.trans (b5.mono HBw4.out.size))
        have HCZ := hid (HCY.out w5 b5)
        clear b5 HCX HCY
        go_wp2_with fail
        refine HCZ.out.mono ?_
        rintro e w6 ⟨b6, (⟨_, rfl⟩ | ⟨hbad, _⟩)⟩
        case inr => exact absurd hbad hce
        have HBw6 := hid (HBw5.out.trans (b6.mono HBw5.out.size))
        clear b6
        go_wp2_with (first | (go_at_call 12; refine (HNU.out _ _).mono ?_; rintro e w7 ⟨rfl, hw⟩; obtain rfl := hw.symm) | fail)
        refine (HLV.out w6 (HT.out.below HBw6.out)).mono ?_
        rintro e w8 ⟨rfl, b8⟩
        have HBw8 := hid (HBw6.out.trans (b8.mono HBw6.out.size))
        clear b8
        go_wp2
        go_ret
        exact ⟨rfl, HBw8.out⟩
      · have HBw5 := hid (HBw4.out.trans (b5.mono HBw4.out.size))
        have HCZ := hid (HCY.out w5 b5)
        have HB45 := hid b5
        have HDD := hid dd
        have HRD := hid rdd
        clear b5 HCX HCY dd rdd
        go_wp2_with fail
        refine HCZ.out.mono ?_
        rintro e w6 ⟨b6, (⟨hbad, _⟩ | ⟨_, Bq, Qd, nvq, svq, vsq, rfl, dq⟩)⟩
        case inl => exact absurd hce hbad
        have HBw6 := hid (HBw5.out.trans (b6.mono HBw5.out.size))
        have HB46 := hid (HB45.out.trans (b6.mono HB45.out.size))
        have HTX := hid (HTC.out hce)
        rw [← HNL.out] at dq
        have HTW := hid (show Twn m Pd Kd Qd Bd Bq NN Lc nvd lo lc nvq svq vsq w6 from ⟨HDD.out.below b6, HRD.out.below b6, dq, HT.out.below HBw6.out⟩)
        have HGD := hid (show ∀ (z : Int) W, Below w6.heap.size w6 W → Calls Tryz.prog 24 #[.pointer (some ⟨Pd, 0, none⟩), .int .i32 z] W fun e w' => e = .returned (.int .i64 (gtp (instd z) Lc : Nat)) ∧ Below W.heap.size W w' from fun z W hW => get_any _ Pd Kd NN nvd lo lc Lc z W ((HTW.out.below hW).db) ((HTW.out.below hW).row) (by have h5 := HTX.out.al; omega) HTX.out.pw HTX.out.en)
        subst hce
        clear b6 dq HCZ HDD HRD HB45 HNL HTC
        go_wp2_with (first | (go_at_call 12; refine (HNU.out _ _).mono ?_; rintro e w7 ⟨rfl, hw⟩; obtain rfl := hw.symm) | fail)
        go_loopw [23] (fun x wr => ∃ i : Nat, i ≤ n ∧ x = .int .i64 (i : Int) ∧ Hid (Below w6.heap.size w6 wr)) (fun x _ => n - (intOf x).toNat)
        case atStart => exact ⟨0, by omega, rfl, Below.refl _ _⟩
        case round =>
          obtain ⟨i, hi, rfl, HB⟩ := hrel
          by_cases hlt : i < n
          · have i3 : (i : Int) < (n : Int) := by omega
            have i0 : (0 : Int) ≤ (i : Int) := by omega
            have hB0 := hid HB.out
            clear HB
            go_wp2
            go_loopw [24] (fun x wr => ∃ k : Nat, k ≤ i ∧ x = .int .i64 (k : Int) ∧ Hid (Below w6.heap.size w6 wr)) (fun x _ => i - (intOf x).toNat)
            case atStart => exact ⟨0, by omega, rfl, hB0⟩
            case round =>
              obtain ⟨k, hk, rfl, HB⟩ := hrel
              clear hB0
              by_cases hlk : k < i
              · have k3 : (k : Int) < (i : Int) := by omega
                have k4 : (k : Int) < (n : Int) := by omega
                have k0 : (0 : Int) ≤ (k : Int) := by omega
                have hiE : i < E.length := by have h5 := HNE.out; omega
                have hkE : k < E.length := by have h5 := HNE.out; omega
                have HBe := hid (show Below w.heap.size w wr from HBw6.out.trans (HB.out.mono HBw6.out.size))
                obtain ⟨a, hao, ha, a0⟩ := (HZ.out.below HBe.out) i E[i] (List.getElem?_eq_getElem hiE)
                obtain ⟨a', hao', ha', a1⟩ := (HZ.out.below HBe.out) k E[k] (List.getElem?_eq_getElem hkE)
                rw [hao] at hao'
                cases hao'
                subst hao
                obtain ⟨p, hp⟩ : ∃ p, p = E[i] := ⟨_, rfl⟩
                obtain ⟨q, hq⟩ : ∃ q, q = E[k] := ⟨_, rfl⟩
                rw [← hp] at a0
                rw [← hq] at a1
                have G1 := hid (HGD.out p)
                have G2 := hid (HGD.out q)
                have A1 := hid (show ∀ W, Below w6.heap.size w6 W → Calls Tryz.prog 24 #[.pointer (some ⟨P1, 0, none⟩), .int .i32 p] W fun e w' => e = .returned (.int .i64 (gtp (instd p) A : Nat)) ∧ Below W.heap.size W w' from fun W hW => HGA.out p W (HB46.out.trans (hW.mono HB46.out.size)))
                have A2 := hid (show ∀ W, Below w6.heap.size w6 W → Calls Tryz.prog 24 #[.pointer (some ⟨P1, 0, none⟩), .int .i32 q] W fun e w' => e = .returned (.int .i64 (gtp (instd q) A : Nat)) ∧ Below W.heap.size W w' from fun W hW => HGA.out q W (HB46.out.trans (hW.mono HB46.out.size)))
                have C1 := hid (show ∀ W, Below w6.heap.size w6 W → Calls Tryz.prog 24 #[.pointer (some ⟨P2, 0, none⟩), .int .i32 p] W fun e w' => e = .returned (.int .i64 (gtp (instd p) D : Nat)) ∧ Below W.heap.size W w' from fun W hW => HGB.out p W (HB46.out.trans (hW.mono HB46.out.size)))
                have C2 := hid (show ∀ W, Below w6.heap.size w6 W → Calls Tryz.prog 24 #[.pointer (some ⟨P2, 0, none⟩), .int .i32 q] W fun e w' => e = .returned (.int .i64 (gtp (instd q) D : Nat)) ∧ Below W.heap.size W w' from fun W hW => HGB.out q W (HB46.out.trans (hW.mono HB46.out.size)))
                obtain ⟨z1, z2⟩ := instd_in p
                obtain ⟨y1, y2⟩ := instd_in q
                have hsm := HSM.out (instd p).toNat (instd q).toNat (by omega) (by omega)
                rw [show (((instd p).toNat : Nat) : Int) = instd p by omega, show (((instd q).toNat : Nat) : Int) = instd q by omega] at hsm
                obtain ⟨g1', e1⟩ : ∃ x, x = gtp (instd p) Lc := ⟨_, rfl⟩
                obtain ⟨g2', e2⟩ : ∃ x, x = gtp (instd q) Lc := ⟨_, rfl⟩
                obtain ⟨m1, e3⟩ : ∃ x, x = gtp (instd p) A := ⟨_, rfl⟩
                obtain ⟨m2, e4⟩ : ∃ x, x = gtp (instd q) A := ⟨_, rfl⟩
                obtain ⟨n1, e5⟩ : ∃ x, x = gtp (instd p) D := ⟨_, rfl⟩
                obtain ⟨n2, e6⟩ : ∃ x, x = gtp (instd q) D := ⟨_, rfl⟩
                rw [← e1] at G1 hsm
                rw [← e2] at G2 hsm
                rw [← e3] at A1 hsm
                rw [← e4] at A2 hsm
                rw [← e5] at C1 hsm
                rw [← e6] at C2 hsm
                clear e1 e2 e3 e4 e5 e6 hp hq z1 z2 y1 y2 hiE hkE
                go_wp2_with fail
                go_quiet (fail)
                have HBW0 := hid (show Below w6.heap.size w6 (wr.drewN nq) from HB.out.trans ⟨rfl, rfl, rfl, Nat.le_refl _, fun _ _ => rfl⟩)
                obtain ⟨W0, hW0⟩ : ∃ W0, W0 = wr.drewN nq := ⟨_, rfl⟩
                rw [← hW0] at HBW0 ⊢
                clear hW0 a0 a1 HB
                by_cases hm : m1 = m2
                · subst hm
                  by_cases hc : n1 = n2
                  · subst hc
                    have hg : g1' = g2' := hsm.2 ⟨rfl, rfl⟩
                    subst hg
                    clear hsm
                    go_wp2_with fail
                    refine (G1.out W0 HBW0.out).mono ?_
                    rintro e u1 ⟨rfl, bu1⟩
                    have HBu1 := hid (HBW0.out.trans (bu1.mono HBW0.out.size))
                    clear bu1
                    go_wp2_with fail
                    refine (G2.out u1 HBu1.out).mono ?_
                    rintro e u2 ⟨rfl, bu2⟩
                    have HBu2 := hid (HBu1.out.trans (bu2.mono HBu1.out.size))
                    clear bu2
                    go_wp2_with fail
                    refine (A1.out u2 HBu2.out).mono ?_
                    rintro e u3 ⟨rfl, bu3⟩
                    have HBu3 := hid (HBu2.out.trans (bu3.mono HBu2.out.size))
                    clear bu3
                    go_wp2_with fail
                    refine (A2.out u3 HBu3.out).mono ?_
                    rintro e u4 ⟨rfl, bu4⟩
                    have HBu4 := hid (HBu3.out.trans (bu4.mono HBu3.out.size))
                    clear bu4
                    go_wp2_with fail
                    refine (C1.out u4 HBu4.out).mono ?_
                    rintro e u5 ⟨rfl, bu5⟩
                    have HBu5 := hid (HBu4.out.trans (bu5.mono HBu4.out.size))
                    clear bu5
                    go_wp2_with fail
                    refine (C2.out u5 HBu5.out).mono ?_
                    rintro e u6 ⟨rfl, bu6⟩
                    have HBu6 := hid (HBu5.out.trans (bu6.mono HBu5.out.size))
                    clear bu6
                    go_wp2
                    go_roundw
                    case rel => exact ⟨k + 1, by omega, by go_num, HBu6⟩
                    case measure => simp [intOf]; omega
                  · have hg : g1' ≠ g2' := fun e => hc (hsm.1 e).2
                    have t1 : ((g1' : Int) == (g2' : Int)) = false := by simp; omega
                    have t2 : ((n1 : Int) == (n2 : Int)) = false := by simp; omega
                    clear hsm hc hg
                    go_wp2_with fail
                    refine (G1.out W0 HBW0.out).mono ?_
                    rintro e u1 ⟨rfl, bu1⟩
                    have HBu1 := hid (HBW0.out.trans (bu1.mono HBW0.out.size))
                    clear bu1
                    go_wp2_with fail
                    refine (G2.out u1 HBu1.out).mono ?_
                    rintro e u2 ⟨rfl, bu2⟩
                    have HBu2 := hid (HBu1.out.trans (bu2.mono HBu1.out.size))
                    clear bu2
                    go_wp2_with fail
                    refine (A1.out u2 HBu2.out).mono ?_
                    rintro e u3 ⟨rfl, bu3⟩
                    have HBu3 := hid (HBu2.out.trans (bu3.mono HBu2.out.size))
                    clear bu3
                    go_wp2_with fail
                    refine (A2.out u3 HBu3.out).mono ?_
                    rintro e u4 ⟨rfl, bu4⟩
                    have HBu4 := hid (HBu3.out.trans (bu4.mono HBu3.out.size))
                    clear bu4
                    go_wp2_with fail
                    refine (C1.out u4 HBu4.out).mono ?_
                    rintro e u5 ⟨rfl, bu5⟩
                    have HBu5 := hid (HBu4.out.trans (bu5.mono HBu4.out.size))
                    clear bu5
                    go_wp2_with fail
                    refine (C2.out u5 HBu5.out).mono ?_
                    rintro e u6 ⟨rfl, bu6⟩
                    have HBu6 := hid (HBu5.out.trans (bu6.mono HBu5.out.size))
                    clear bu6
                    go_wp2
                    go_roundw
                    case rel => exact ⟨k + 1, by omega, by go_num, HBu6⟩
                    case measure => simp [intOf]; omega
                · have hg : g1' ≠ g2' := fun e => hm (hsm.1 e).1
                  have t1 : ((g1' : Int) == (g2' : Int)) = false := by simp; omega
                  have t2 : ((m1 : Int) == (m2 : Int)) = false := by simp; omega
                  clear hsm hm hg
                  go_wp2_with fail
                  refine (G1.out W0 HBW0.out).mono ?_
                  rintro e u1 ⟨rfl, bu1⟩
                  have HBu1 := hid (HBW0.out.trans (bu1.mono HBW0.out.size))
                  clear bu1
                  go_wp2_with fail
                  refine (G2.out u1 HBu1.out).mono ?_
                  rintro e u2 ⟨rfl, bu2⟩
                  have HBu2 := hid (HBu1.out.trans (bu2.mono HBu1.out.size))
                  clear bu2
                  go_wp2_with fail
                  refine (A1.out u2 HBu2.out).mono ?_
                  rintro e u3 ⟨rfl, bu3⟩
                  have HBu3 := hid (HBu2.out.trans (bu3.mono HBu2.out.size))
                  clear bu3
                  go_wp2_with fail
                  refine (A2.out u3 HBu3.out).mono ?_
                  rintro e u4 ⟨rfl, bu4⟩
                  have HBu4 := hid (HBu3.out.trans (bu4.mono HBu3.out.size))
                  clear bu4
                  go_wp2
                  go_roundw
                  case rel => exact ⟨k + 1, by omega, by go_num, HBu4⟩
                  case measure => simp [intOf]; omega
              · have k3 : ¬ (k : Int) < (i : Int) := by omega
                go_wp2
                go_roundw
                case rel => exact ⟨i + 1, by omega, by go_num, HB⟩
                case measure => simp [intOf]; omega
          · have i3 : ¬ (i : Int) < (n : Int) := by omega
            have HZW := hid (HZ.out.below (HBw6.out.trans (HB.out.mono HBw6.out.size)))
            have HSD := hid (stands_any m Pd Kd Qd Bd Bq NN Lc nvd lo lc nvq svq vsq ao ac E wr HTX.out (HTW.out.below HB.out) HZW.out (by have h5 := HNE.out; omega))
            rw [← HNE.out] at HSD
            go_wp2_with fail
            refine HSD.out.mono ?_
            rintro e u1 ⟨rfl, bu1⟩
            have HU1 := hid (show Below w.heap.size w u1 from HBw6.out.trans ((HB.out.trans (bu1.mono HB.out.size)).mono HBw6.out.size))
            clear bu1 HSD
            go_wp2_with fail
            refine (HLV.out u1 (HT.out.below HU1.out)).mono ?_
            rintro e u2 ⟨rfl, bu2⟩
            have HU2 := hid (HU1.out.trans (bu2.mono HU1.out.size))
            clear bu2
            go_wp2
            go_ret
            exact ⟨rfl, HU2.out⟩
end Go.Proofs.YtohhokjlgihbgaaGreatDoor
