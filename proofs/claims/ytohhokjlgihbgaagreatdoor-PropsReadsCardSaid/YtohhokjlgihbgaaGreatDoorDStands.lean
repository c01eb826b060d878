/- The contract of stands (package kerflaw04): a database and the document's of the same names and ranges tell the same. -/
import Derived.Test.YtohhokjlgihbgaaGreatDoorDRRanged
import Derived.Test.YtohhokjlgihbgaaGreatDoorDRNew
import Derived.Test.YtohhokjlgihbgaaGreatDoorDLive4
import Derived.Test.YtohhokjlgihbgaaGreatDoorDBkMath2
namespace Go.Proofs.YtohhokjlgihbgaaGreatDoor
open Go.RowKit

/-- Names and ranges as New makes them. -/
structure TwP (U : List (List UInt8)) (A : List Tr) : Prop where
  cov : Cov 0 A 1114112
  alt : Alt A
  cls : ∀ g ∈ A, g.2.2 < U.length
  nd : U.Nodup
  one : 1 ≤ U.length
  len : U.length ≤ 64
  nam : NamU U
  al : A.length ≤ 30000
  pw : A.Pairwise fun x y => x.2.1 < y.2.1
  en : ∃ g ∈ A, g.2.1 = 1114111
/-- The database and the document's in memory. -/
structure Twn (m : Int) (P K Q Bd Bq : Nat) (U : List (List UInt8)) (A : List Tr) (nv : Value) (po : Option Addr) (pc : Nat) (nv2 sv2 : Value) (vs2 : List Value) (w : World) : Prop where
  db : DbAt Bd P K U nv (.slice po A.length pc) w
  row : RdK w po (A.map rkT)
  doc : DocAt Bq Q U (dst U.length A) nv2 sv2 vs2 w
  tb : Tbs m w
theorem Twn.below {m : Int} {P K Q Bd Bq : Nat} {U : List (List UInt8)} {A : List Tr} {nv : Value} {po : Option Addr} {pc : Nat} {nv2 sv2 : Value} {vs2 : List Value} {w w' : World} (h : Twn m P K Q Bd Bq U A nv po pc nv2 sv2 vs2 w) (hb : Below w.heap.size w w') : Twn m P K Q Bd Bq U A nv po pc nv2 sv2 vs2 w' :=
  ⟨h.db.below hb, h.row.below hb, h.doc.below hb, h.tb.below hb⟩
theorem idx_nodup (U : List (List UInt8)) (h : U.Nodup) (i : Nat) (hi : i < U.length) : U.idxOf U[i] = i :=
  idx_here U U[i] i hi rfl (fun h5 => by
    obtain ⟨p, hp⟩ := List.mem_iff_getElem?.1 h5
    rw [List.getElem?_take] at hp
    split at hp
    · rename_i hpi
      obtain ⟨h6, h7⟩ := List.getElem?_eq_some_iff.1 hp
      exact List.pairwise_iff_getElem.1 h p i h6 hi hpi h7
    · cases hp)
theorem own_some {w : World} {B e s n : Nat} {v : Value} {xs : List Value} (h : w.ownsRow B e s v n xs) (hn : 0 < n) : ∃ g cap, v = .slice (some ⟨g, 0, none⟩) n cap ∧ B ≤ g := by
  obtain ⟨g, cap, h1, h2, _⟩ := h.form hn
  exact ⟨g, cap, h1, h2⟩
theorem row_at {w : World} {B e s g n cap : Nat} {xs : List Value} (h : w.ownsRow B e s (.slice (some ⟨g, 0, none⟩) n cap) n xs) (j : Nat) (hj : j < n * s) : ∃ v, w.cell? ⟨g, j, none⟩ = some v ∧ w.frozen? ⟨g, j, none⟩ = false := by
  refine ⟨xs[j]'(by rw [h.1]; exact hj), ?_, h.frozenAt j⟩
  rw [h.cellAt j hj, List.getElem?_eq_getElem]
set_option maxRecDepth 100000 in
set_option maxHeartbeats 12000000 in
theorem stands_any (m : Int) (P K Q Bd Bq : Nat) (U : List (List UInt8)) (A : List Tr) (nv : Value) (po : Option Addr) (pc : Nat) (nv2 sv2 : Value) (vs2 : List Value) (ao : Option Addr) (ac : Nat) (E : List Int) (w : World) (hP : TwP U A) (h : Twn m P K Q Bd Bq U A nv po pc nv2 sv2 vs2 w) (hE : RdZ w ao E) (hEl : E.length ≤ 1000) :
    Calls Tryz.prog 13 #[.pointer (some ⟨P, 0, none⟩), .pointer (some ⟨Q, 0, none⟩), .slice ao E.length ac] w fun e w' => e = .returned (.bool true) ∧ Below w.heap.size w w' := by
  obtain ⟨p1, p2, p3, p4, p5, p6, p7, p8, p9, p10⟩ := hP
  have HP := hid h
  obtain ⟨M, hM⟩ : ∃ M, M = w.heap.size := ⟨_, rfl⟩
  have HMW := hid hM
  rw [← hM]
  have HTW := hid (show ∀ W, Below M w W → Twn m P K Q Bd Bq U A nv po pc nv2 sv2 vs2 W from fun W hW => h.below (by rw [← hM]; exact hW))
  have HEW := hid (show ∀ W, Below M w W → RdZ W ao E from fun W hW => hE.below (by rw [← hM]; exact hW))
  have hBL : ∀ b ∈ U, b.length ≤ 1000 := fun b hb => by have h5 := (nam_parts b (p7 b hb)).2.1; omega
  have hST : ∀ c : Int, (stc c A).length ≤ 40000 := fun c => by have h5 := stc_len c A; omega
  have hNF : ∀ c : Nat, nf (stc (c : Int) A) := fun c => (nf_stc A 0 _ (c : Int) p1 p2 (Nat.le_refl _)).1
  obtain ⟨no, nc, rfl, _⟩ := rdn_own h.doc.hN rfl
  have HC0 := hid (show ∀ W, Below M w W → W.cell? ⟨Q, 0, none⟩ = some (.slice no U.length nc) from fun W hW => (HTW.out W hW).doc.c0)
  have HRN := hid (show ∀ W, Below M w W → RdN W no U from fun W hW => by
    obtain ⟨no', nc', e, hr⟩ := rdn_own (HTW.out W hW).doc.hN rfl
    cases e
    exact hr)
  have HNA := hid (show ∀ W, Below M w W → Calls Tryz.prog 19 #[.pointer (some ⟨P, 0, none⟩)] W fun e w' => ∃ v', e = .returned v' ∧ w'.ownsRow W.heap.size 9 1 v' U.length (nms U) ∧ Below W.heap.size W w' from fun W hW => names_any Bd P K U nv _ W (HTW.out W hW).db (by omega) (by omega))
  have HRG := hid (show ∀ W, Below M w W → Calls Tryz.prog 33 #[.pointer (some ⟨P, 0, none⟩)] W fun e w' => ∃ v', e = .returned v' ∧ w'.ownsRow W.heap.size 86 3 v' (rgd A).length (rks (rgd A)) ∧ Below W.heap.size W w' from fun W hW => ranged_any Bd P K U nv po pc A W (HTW.out W hW).db (HTW.out W hW).row (by omega))
  have HRR := hid (show ∀ W, Below M w W → Calls Tryz.prog 42 #[.pointer (some ⟨Q, 0, none⟩)] W fun e w' => ∃ v', e = .returned v' ∧ w'.ownsRow W.heap.size 86 3 v' (rgd A).length (rks (rgd A)) ∧ Below W.heap.size W w' from fun W hW => rranged_any Bq Q U.length U A _ sv2 vs2 W (HTW.out W hW).doc p1 p3 p5 (by omega) (by omega))
  have HTX := hid (show ∀ W, Below M w W → Calls Tryz.prog 25 #[.pointer (some ⟨P, 0, none⟩)] W fun e w' => e = .returned (.string ⟨(tx4 A U U.length).toArray⟩) ∧ Below W.heap.size W w' from fun W hW => text_any Bd P K U nv po pc A W (HTW.out W hW).db (HTW.out W hW).row (by omega) (by omega) (by omega) hBL hST (HTW.out W hW).tb.z (HTW.out W hW).tb.s)
  have HTY := hid (show ∀ W, Below M w W → Calls Tryz.prog 43 #[.pointer (some ⟨Q, 0, none⟩)] W fun e w' => e = .returned (.string ⟨(tx4 A U U.length).toArray⟩) ∧ Below W.heap.size W w' from fun W hW => rtext_any Bq Q U A _ sv2 vs2 W (HTW.out W hW).doc p5 (by omega) hBL hST hNF)
  have HSE := hid (show ∀ (c : Int) W, Below M w W → Calls Tryz.prog 20 #[.pointer (some ⟨P, 0, none⟩), .int .i64 c] W fun e w' => ∃ v', e = .returned v' ∧ w'.ownsRow W.heap.size 84 2 v' (stc c A).length (rgcs (stc c A)) ∧ Below W.heap.size W w' from fun c W hW => set_any Bd P K U nv po pc A c W (HTW.out W hW).db (HTW.out W hW).row (by omega))
  have HRS := hid (show ∀ (c : Int) W, Below M w W → Calls Tryz.prog 44 #[.pointer (some ⟨Q, 0, none⟩), .int .i64 c] W fun e w' => ∃ v', e = .returned v' ∧ w'.ownsRow W.heap.size 84 2 v' (stc c A).length (rgcs (stc c A)) ∧ Below W.heap.size W w' from fun c W hW => rset_any Bq Q U.length U A _ sv2 vs2 c W (HTW.out W hW).doc p3 (by omega))
  have HCL := hid (show ∀ (i : Nat) (hi : i < U.length) W, Below M w W → Calls Tryz.prog 32 #[.pointer (some ⟨P, 0, none⟩), .string ⟨U[i].toArray⟩] W fun e w' => e = .returned (.tuple #[.int .i64 (i : Int), .bool true]) ∧ w' = W from fun i hi W hW => by
    have h5 := class_any Bd P K U nv _ U[i] W (HTW.out W hW).db (by have h6 := hBL U[i] (List.getElem_mem hi); omega) p4
    rw [if_pos (List.getElem_mem hi), decide_eq_true (List.getElem_mem hi), idx_nodup U p4 i hi] at h5
    exact h5)
  have HCE := hid (show ∀ W, Below M w W → Calls Tryz.prog 32 #[.pointer (some ⟨P, 0, none⟩), .string ⟨#[]⟩] W fun e w' => e = .returned (.tuple #[.int .i64 0, .bool false]) ∧ w' = W from fun W hW => by
    have hn : ([] : List UInt8) ∉ U := fun h5 => (nam_parts _ (p7 _ h5)).1 rfl
    have h5 := class_any Bd P K U nv _ [] W (HTW.out W hW).db (by decide) p4
    rw [if_neg hn, decide_eq_false hn] at h5
    exact h5)
  have HGT := hid (show ∀ (z : Int) W, Below M w W → Calls Tryz.prog 24 #[.pointer (some ⟨P, 0, none⟩), .int .i32 z] W fun e w' => e = .returned (.int .i64 (gtp (instd z) A : Nat)) ∧ Below W.heap.size W w' from fun z W hW => get_any Bd P K U nv po pc A z W (HTW.out W hW).db (HTW.out W hW).row (by omega) p9 p10)
  have HGR := hid (show ∀ (z : Int) W, Below M w W → Calls Tryz.prog 45 #[.pointer (some ⟨Q, 0, none⟩), .int .i32 z] W fun e w' => e = .returned (.int .i64 (gtp (instd z) A : Nat)) ∧ w' = W from fun z W hW => rget_any Bq Q U.length U A _ sv2 vs2 z W (HTW.out W hW).doc p1 p3 (by omega) (by omega))
  have HSL := hid (show ∀ c : Int, (stc c A).length ≤ 40000 from hST)
  have HRL := hid (show (rgd A).length ≤ 30000 by have h5 := rgd_len A; omega)
  obtain ⟨T, hT⟩ : ∃ T, T = tx4 A U U.length := ⟨_, rfl⟩
  obtain ⟨L, hL⟩ : ∃ L, L = rgd A := ⟨_, rfl⟩
  obtain ⟨n, hn⟩ : ∃ n, n = U.length := ⟨_, rfl⟩
  rw [← hT] at HTX HTY
  rw [← hL] at HRG HRR HRL
  have HUN := hid hn
  rw [← hn] at HC0 HNA
  have hn64 : n ≤ 64 := by omega
  have HBM := hid (show ∀ (W W' : World), Below M w W → Below W.heap.size W W' → Below M w W' from fun _ _ hW hb => hW.trans (hb.mono (by have h5 := hW.size; omega)))
  have HB0 := hid (show Below M w w by rw [hM]; exact Below.refl _ _)
  obtain ⟨nr, hnr⟩ : ∃ nr, nr = L.length := ⟨_, rfl⟩
  have HNR := hid hnr
  rw [← hnr] at HRG HRR HRL
  have hnr3 := HRL.out
  clear p1 p2 p3 p4 p5 p6 p7 p8 p9 p10 h hE hM hBL hST hNF hT hL hn hnr HP HRL
  go_enter Tryz.func13, Tryz.ntmps13
  go_wp2_with fail
  refine (HNA.out w HB0.out).mono ?_
  rintro e w1 ⟨v1, rfl, o1, b1⟩
  have HB1 := hid (HBM.out _ _ HB0.out b1)
  obtain ⟨xo, xc, rfl, rx⟩ := rdn_own o1 HUN.out
  rw [← HMW.out] at o1
  have HO1 := hid o1
  have HX1 := hid rx
  clear b1 o1 rx
  go_wp2_with fail
  refine (HRG.out w1 HB1.out).mono ?_
  rintro e w2 ⟨v2, rfl, o2, b2⟩
  have HB2 := hid (HBM.out _ _ HB1.out b2)
  have HO1b := hid (own_keep HO1.out b2)
  have HX1b := hid (HX1.out.below b2)
  obtain ⟨yo, yc, rfl⟩ := own_form o2
  have HY2 := hid (show RdK w2 yo (L.map rkT) from rd_own o2)
  have HO2 := hid (own_mono o2 (show M ≤ w1.heap.size by have h5 := HB1.out.size; have h6 := HMW.out; omega))
  have c0 := HC0.out w2 HB2.out
  have HTS := hid (texts_same xo no xc nc n U w2 HX1b.out (HRN.out w2 HB2.out) HUN.out (by omega))
  clear b2 o2 HO1 HX1
  go_wp2_with fail
  refine HTS.out.mono ?_
  rintro e w3 ⟨rfl, b3⟩
  have HB3 := hid (HBM.out _ _ HB2.out b3)
  have HO13 := hid (own_keep HO1b.out b3)
  have HO23 := hid (own_keep HO2.out b3)
  have HY3 := hid (HY2.out.below b3)
  clear b3 HTS HO1b HO2 HY2 c0
  go_wp2_with fail
  refine (HRR.out w3 HB3.out).mono ?_
  rintro e w4 ⟨v4, rfl, o4, b4⟩
  have HB4 := hid (HBM.out _ _ HB3.out b4)
  obtain ⟨zo, zc, rfl⟩ := own_form o4
  have HRSm := hid (ranged_same yo zo yc zc nr (L.map rkT) w4 (HY3.out.below b4) (rd_own o4) (by rw [HNR.out, List.length_map]) (by omega))
  have HO14 := hid (own_keep HO13.out b4)
  have HO24 := hid (own_keep HO23.out b4)
  clear b4 o4 HO13 HO23 HY3
  go_wp2_with fail
  refine HRSm.out.mono ?_
  rintro e w5 ⟨rfl, b5⟩
  have HB5 := hid (HBM.out _ _ HB4.out b5)
  have HO15 := hid (own_keep HO14.out b5)
  have HO25 := hid (own_keep HO24.out b5)
  clear b5 HRSm HO14 HO24
  go_wp2_with fail
  refine (HTX.out w5 HB5.out).mono ?_
  rintro e w6 ⟨rfl, b6⟩
  have HB6 := hid (HBM.out _ _ HB5.out b6)
  have HO16 := hid (own_keep HO15.out b6)
  have HO26 := hid (own_keep HO25.out b6)
  clear b6 HO15 HO25
  go_wp2_with fail
  refine (HTY.out w6 HB6.out).mono ?_
  rintro e w7 ⟨rfl, b7⟩
  have HB7 := hid (HBM.out _ _ HB6.out b7)
  have HO17 := hid (own_keep HO16.out b7)
  have HO27 := hid (own_keep HO26.out b7)
  clear b7 HO16 HO26
  go_wp2
  go_loopw [9, 10, 11] (fun x _ _ wr => ∃ c : Int, -1 ≤ c ∧ c ≤ (n : Int) + 1 ∧ x = .int .i64 c ∧ Hid (wr.ownsRow M 9 1 (.slice xo n xc) n (nms U)) ∧ Hid (wr.ownsRow M 86 3 (.slice yo nr yc) nr (rks L)) ∧ Hid (Below M w wr)) (fun x _ _ _ => ((n : Int) + 1 - intOf x).toNat)
  case atStart => exact ⟨-1, by omega, by omega, rfl, HO17, HO27, HB7⟩
  case round =>
    clear HO17 HO27 HB7
    obtain ⟨c, hc1, hc2, rfl, HOa, HOb, HBr⟩ := hrel
    have c0 := HC0.out wr HBr.out
    by_cases hlt : c ≤ (n : Int)
    · have HS1 := hid (HSE.out c wr HBr.out)
      have HS2 := hid (HRS.out c)
      have hsl := HSL.out c
      obtain ⟨G, hG⟩ : ∃ G, G = stc c A := ⟨_, rfl⟩
      rw [← hG] at HS1 HS2 hsl
      clear hG
      go_wp2_with fail
      refine HS1.out.mono ?_
      rintro e w8 ⟨v8, rfl, o8, b8⟩
      have HB8 := hid (HBM.out _ _ HBr.out b8)
      obtain ⟨go, gc, rfl, rg⟩ := rdr_row o8
      have HOa8 := hid (own_keep HOa.out b8)
      have HOb8 := hid (own_keep HOb.out b8)
      have HO8 := hid (own_mono o8 (show M ≤ wr.heap.size by have h5 := HBr.out.size; have h6 := HMW.out; omega))
      have HRG8 := hid rg
      clear b8 o8 rg HS1 HOa HOb c0
      go_wp2_with fail
      refine (HS2.out w8 HB8.out).mono ?_
      rintro e w9 ⟨v9, rfl, o9, b9⟩
      have HB9 := hid (HBM.out _ _ HB8.out b9)
      obtain ⟨fo, fc, rfl, rf⟩ := rdr_row o9
      have HSM := hid (same2_any go fo gc fc G G w9 (HRG8.out.below b9) rf (by omega))
      rw [decide_eq_true (rfl : G = G)] at HSM
      have HOa9 := hid (own_keep HOa8.out b9)
      have HOb9 := hid (own_keep HOb8.out b9)
      have HO9 := hid (own_keep HO8.out b9)
      clear b9 o9 rf HOa8 HOb8 HO8 HRG8 HS2
      go_wp2_with fail
      refine HSM.out.mono ?_
      rintro e w10 ⟨rfl, b10⟩
      have HB10 := hid (HBM.out _ _ HB9.out b10)
      have HOa10 := hid (own_keep HOa9.out b10)
      have HOb10 := hid (own_keep HOb9.out b10)
      have HO10 := hid (own_keep HO9.out b10)
      obtain ⟨gl, hgl⟩ : ∃ gl, gl = G.length := ⟨_, rfl⟩
      rw [← hgl] at HO10 hsl ⊢
      clear b10 HSM HOa9 HOb9 HO9 hgl
      go_wp2
      go_loopw [11] (fun y wr => ∃ (k : Nat) (xs : List Value), k ≤ gl ∧ y = .int .i64 (k : Int) ∧ Hid (wr.ownsRow M 84 2 (.slice go gl gc) gl xs) ∧ Hid (wr.ownsRow M 9 1 (.slice xo n xc) n (nms U)) ∧ Hid (wr.ownsRow M 86 3 (.slice yo nr yc) nr (rks L)) ∧ Hid (Below M w wr)) (fun y _ => gl - (intOf y).toNat)
      case atStart => exact ⟨0, _, by omega, rfl, HO10, HOa10, HOb10, HB10⟩
      case round =>
        clear HO10 HOa10 HOb10 HB10
        obtain ⟨k, xs, hk, rfl, HOg, HOa, HOb, HBq⟩ := hrel
        by_cases hkl : k < gl
        · obtain ⟨g, cap, e, hMg⟩ := own_some HOg.out (by omega)
          cases e
          obtain ⟨u0, t0, f0⟩ := row_at HOg.out (k * 2) (by omega)
          obtain ⟨u1, t1, f1⟩ := row_at HOg.out (k * 2 + 1) (by omega)
          have k3 : (k : Int) < (gl : Int) := by omega
          have k0 : (0 : Int) ≤ (k : Int) := by omega
          have HOn := hid (((HOg.out.stored (k * 2) (.int .i32 0)).1.stored (k * 2 + 1) (.int .i32 0)).1)
          have hb := row_blk HOg.out (x := g) rfl
          obtain ⟨cs, hcs⟩ := hb
          have HOa' := hid (ownsRow_setCell_other (ownsRow_setCell_other HOa.out (a := ⟨g, k * 2, none⟩) (row_other HOa.out g _ 84 hcs (by decide)) (.int .i32 0)) (a := ⟨g, k * 2 + 1, none⟩) (row_other HOa.out g _ 84 hcs (by decide)) (.int .i32 0))
          have HOb' := hid (ownsRow_setCell_other (ownsRow_setCell_other HOb.out (a := ⟨g, k * 2, none⟩) (row_other HOb.out g _ 84 hcs (by decide)) (.int .i32 0)) (a := ⟨g, k * 2 + 1, none⟩) (row_other HOb.out g _ 84 hcs (by decide)) (.int .i32 0))
          have HBn := hid ((HBq.out.setCell (p := ⟨g, k * 2, none⟩) hMg (.int .i32 0)).setCell (p := ⟨g, k * 2 + 1, none⟩) hMg (.int .i32 0))
          clear hcs HOg HOa HOb HBq
          go_wp2
          go_roundw
          case rel => exact ⟨k + 1, _, by omega, by go_num, HOn, HOa', HOb', HBn⟩
          case measure => simp [intOf]; omega
        · have k3 : ¬ (k : Int) < (gl : Int) := by omega
          go_wp2
          go_roundw
          case rel => exact ⟨c + 1, by omega, by omega, by go_num, HOa, HOb, HBq⟩
          case measure => simp [intOf]; omega
    · have hlt' : ¬ c ≤ (n : Int) := hlt
      have hlt2 : (n : Int) < c := by omega
      go_wp2
      go_loopw [12, 13, 14] (fun x _ _ wr => ∃ (i : Nat) (xs : List Value), i ≤ n ∧ x = .int .i64 (i : Int) ∧ Hid (wr.ownsRow M 9 1 (.slice xo n xc) n xs) ∧ Hid (wr.ownsRow M 86 3 (.slice yo nr yc) nr (rks L)) ∧ Hid (Below M w wr)) (fun x _ _ _ => n - (intOf x).toNat)
      case atStart => exact ⟨0, _, by omega, rfl, HOa, HOb, HBr⟩
      case round =>
        clear HOa HOb HBr hlt hlt' hlt2 hc1 hc2 c0
        obtain ⟨i, xs, hi, rfl, HOa, HOb, HBr⟩ := hrel
        have c0 := HC0.out wr HBr.out
        by_cases hin : i < n
        · have hiU : i < U.length := by have h5 := HUN.out; omega
          have i3 : (i : Int) < (n : Int) := by omega
          have i0 : (0 : Int) ≤ (i : Int) := by omega
          obtain ⟨a, rfl, ha, a0⟩ := HRN.out wr HBr.out i U[i] (List.getElem?_eq_getElem hiU)
          have HC := hid (HCL.out i hiU wr HBr.out)
          generalize U[i] = u at a0 HC
          obtain ⟨g, cap, e, hMg⟩ := own_some HOa.out (by omega)
          cases e
          obtain ⟨u0, t0, f0⟩ := row_at HOa.out i (by omega)
          have HOn := hid (HOa.out.stored i (.string ⟨#[63]⟩)).1
          obtain ⟨cs, hcs⟩ := row_blk HOa.out (x := g) rfl
          have HOb' := hid (ownsRow_setCell_other HOb.out (a := ⟨g, i, none⟩) (row_other HOb.out g _ 9 hcs (by decide)) (.string ⟨#[63]⟩))
          have HBn := hid (HBr.out.setCell (p := ⟨g, i, none⟩) hMg (.string ⟨#[63]⟩))
          clear hcs hiU
          go_wp2_with fail
          refine HC.out.mono ?_
          rintro e w8 ⟨rfl, hw⟩
          obtain rfl := hw.symm
          clear HC
          go_wp2
          go_roundw
          case rel => exact ⟨i + 1, _, by omega, by go_num, HOn, HOb', HBn⟩
          case measure => simp [intOf]; omega
        · have i3 : ¬ (i : Int) < (n : Int) := by omega
          go_wp2
          go_loopw [15] (fun x wr => ∃ (i : Nat) (xs : List Value), i ≤ nr ∧ x = .int .i64 (i : Int) ∧ Hid (wr.ownsRow M 86 3 (.slice yo nr yc) nr xs) ∧ Hid (Below M w wr)) (fun x _ => nr - (intOf x).toNat)
          case atStart => exact ⟨0, _, by omega, rfl, HOb, HBr⟩
          case round =>
            clear HOa HOb HBr hin i3 hi c0
            obtain ⟨j, xs, hj, rfl, HOb, HBr⟩ := hrel
            by_cases hjn : j < nr
            · have j3 : (j : Int) < (nr : Int) := by omega
              have j0 : (0 : Int) ≤ (j : Int) := by omega
              obtain ⟨g, cap, e, hMg⟩ := own_some HOb.out (by omega)
              cases e
              obtain ⟨u0, t0, f0⟩ := row_at HOb.out (j * 3) (by omega)
              obtain ⟨u1, t1, f1⟩ := row_at HOb.out (j * 3 + 1) (by omega)
              obtain ⟨u2, t2, f2⟩ := row_at HOb.out (j * 3 + 2) (by omega)
              have HOn := hid ((((HOb.out.stored (j * 3) (.int .i32 0)).1.stored (j * 3 + 1) (.int .i32 0)).1.stored (j * 3 + 2) (.int .i64 0)).1)
              have HBn := hid (((HBr.out.setCell (p := ⟨g, j * 3, none⟩) hMg (.int .i32 0)).setCell (p := ⟨g, j * 3 + 1, none⟩) hMg (.int .i32 0)).setCell (p := ⟨g, j * 3 + 2, none⟩) hMg (.int .i64 0))
              clear HOb HBr
              go_wp2
              go_roundw
              case rel => exact ⟨j + 1, _, by omega, by go_num, HOn, HBn⟩
              case measure => simp [intOf]; omega
            · have j3 : ¬ (j : Int) < (nr : Int) := by omega
              clear HOb
              go_wp2
              go_loopw [16] (fun x wr => ∃ i : Nat, i ≤ E.length ∧ x = .int .i64 (i : Int) ∧ Hid (Below M w wr)) (fun x _ => E.length - (intOf x).toNat)
              case atStart => exact ⟨0, by omega, rfl, HBr⟩
              case round =>
                clear HBr hjn j3 hj
                obtain ⟨k, hk, rfl, HBr⟩ := hrel
                by_cases hkE : k < E.length
                · have k3 : (k : Int) < (E.length : Int) := by omega
                  have k0 : (0 : Int) ≤ (k : Int) := by omega
                  obtain ⟨a, rfl, ha, a0⟩ := HEW.out wr HBr.out k E[k] (List.getElem?_eq_getElem hkE)
                  have HCA := hid (show ∀ W, Below M w W → W.cell? (a.add k) = some (.int .i32 E[k]) from fun W hW => by
                    obtain ⟨a', e, _, h5⟩ := HEW.out W hW k E[k] (List.getElem?_eq_getElem hkE)
                    cases e
                    exact h5)
                  generalize E[k] = z at *
                  have HG1 := hid (HGT.out z wr.drew HBr.out.drew)
                  have HG2 := hid (HGR.out z)
                  obtain ⟨G, hG⟩ : ∃ G, G = gtp (instd z) A := ⟨_, rfl⟩
                  rw [← hG] at HG1 HG2
                  have HSW := hid (HCA.out wr.drew HBr.out.drew)
                  clear hG a0
                  go_wp2
                  refine wp_region_mixC [(0, 1), (1, 1), (2, 1), (3, 1), (4, 0), (6, 1), (7, 1), (8, 1), (9, 1), (10, 0), (5, 2), (11, 2), (12, 1)] (fun W => W.cell? (a.add k) = some (.int .i32 z)) (fun _ => True) (fun _ => false) (by kernel_rfl) (by kernel_rfl) (fun j hj => by cases hj) rfl (by kernel_rfl) HSW.out trivial ?_
                  iterate 10 ((first | refine mixC_s ?_ rfl (by kernel_rfl) (fun w' hS => ?_) ?_ | refine mixC_t ?_ rfl (by kernel_rfl) (fun w' hS => ?_) ?_); (rotate_left; (go_simp; with_reducible rfl); rotate_left))
                  refine mixC_go rfl (by kernel_rfl) fun KK hKK => ?_
                  go_simp
                  refine HG1.out.mono ?_
                  rintro e w8 ⟨rfl, b8⟩
                  have HB8 := hid (show Below M w w8 from HBM.out _ _ HBr.out.drew b8)
                  refine hKK _ _ (fun _ => HCA.out w8 HB8.out) trivial ?_
                  clear hKK KK b8 HG1
                  refine mixC_go rfl (by kernel_rfl) fun KK hKK => ?_
                  go_simp
                  refine (HG2.out w8 HB8.out).mono ?_
                  rintro e w9 ⟨rfl, hw⟩
                  obtain rfl := hw.symm
                  refine hKK _ _ (fun _ => HCA.out w8 HB8.out) trivial ?_
                  clear hKK KK HG2
                  refine mixC_t ?_ rfl (by kernel_rfl) (fun w' hS => ?_) ?_; (rotate_left; (go_simp; with_reducible rfl); rotate_left)
                  refine mixC_end (NoPanic.normal ?_)
                  go_wp2
                  go_roundw
                  case rel => exact ⟨k + 1, by omega, by go_num, HB8⟩
                  case measure => simp [intOf]; omega
                · have k3 : ¬ (k : Int) < (E.length : Int) := by omega
                  have HCW := hid (HCE.out wr HBr.out)
                  go_wp2_with fail
                  refine HCW.out.mono ?_
                  rintro e w8 ⟨rfl, hw⟩
                  obtain rfl := hw.symm
                  clear HCW
                  have HNW := hid (HNA.out wr.drew HBr.out.drew)
                  have HQ0 := hid (HC0.out wr.drew HBr.out.drew)
                  go_wp2
                  refine wp_region_mixC [(0, 1), (1, 1), (2, 1), (3, 1), (5, 1), (6, 1), (7, 1), (8, 0), (4, 2), (9, 2), (10, 1), (11, 1), (12, 1), (14, 1), (13, 2), (15, 2), (16, 1), (17, 1), (18, 1)] (fun W => W.cell? ⟨Q, 0, none⟩ = some (.slice no n nc)) (fun _ => True) (fun _ => false) (by kernel_rfl) (by kernel_rfl) (fun j hj => by cases hj) rfl (by kernel_rfl) HQ0.out trivial ?_
                  iterate 8 ((first | refine mixC_s ?_ rfl (by kernel_rfl) (fun w' hS => ?_) ?_ | refine mixC_t ?_ rfl (by kernel_rfl) (fun w' hS => ?_) ?_); (rotate_left; (go_simp; with_reducible rfl); rotate_left))
                  refine mixC_go rfl (by kernel_rfl) fun KK hKK => ?_
                  go_simp
                  refine HNW.out.mono ?_
                  rintro e w9 ⟨v9, rfl, o9, b9⟩
                  have HB9 := hid (show Below M w w9 from HBM.out _ _ HBr.out.drew b9)
                  obtain ⟨qo, qc, rfl, rq⟩ := rdn_own o9 HUN.out
                  have HTS := hid (texts_same qo no qc nc n U w9 rq (HRN.out w9 HB9.out) HUN.out (by omega))
                  refine hKK _ _ (fun _ => HC0.out w9 HB9.out) trivial ?_
                  clear hKK KK b9 o9 rq HNW
                  refine mixC_go rfl (by kernel_rfl) fun KK hKK => ?_
                  go_simp
                  refine HTS.out.mono ?_
                  rintro e w10 ⟨rfl, b10⟩
                  have HB10 := hid (show Below M w w10 from HBM.out _ _ HB9.out b10)
                  refine hKK _ _ (fun _ => HC0.out w10 HB10.out) trivial ?_
                  clear hKK KK b10 HTS
                  iterate 4 (refine mixC_t ?_ rfl (by kernel_rfl) (fun w' hS => ?_) ?_; (rotate_left; (go_simp; with_reducible rfl); rotate_left))
                  refine mixC_go rfl (by kernel_rfl) fun KK hKK => ?_
                  go_simp
                  refine (HTX.out w10 HB10.out).mono ?_
                  rintro e w11 ⟨rfl, b11⟩
                  have HB11 := hid (show Below M w w11 from HBM.out _ _ HB10.out b11)
                  refine hKK _ _ (fun _ => HC0.out w11 HB11.out) trivial ?_
                  clear hKK KK b11
                  refine mixC_go rfl (by kernel_rfl) fun KK hKK => ?_
                  go_simp
                  refine (HTY.out w11 HB11.out).mono ?_
                  rintro e w12 ⟨rfl, b12⟩
                  have HB12 := hid (show Below M w w12 from HBM.out _ _ HB11.out b12)
                  refine hKK _ _ (fun _ => HC0.out w12 HB12.out) trivial ?_
                  clear hKK KK b12
                  iterate 3 (refine mixC_t ?_ rfl (by kernel_rfl) (fun w' hS => ?_) ?_; (rotate_left; (go_simp; with_reducible rfl); rotate_left))
                  refine mixC_end (NoPanic.normal ?_)
                  go_wp2
                  go_ret
                  exact ⟨rfl, HB12.out⟩
end Go.Proofs.YtohhokjlgihbgaaGreatDoor
/- The walk of PropsReads. -/
namespace Go.Proofs.YtohhokjlgihbgaaGreatDoor
open Go.RowKit

theorem twp_of (t : List UInt8) (ht : t.length ≤ 12000) (h0 : (nw t).1.1 = 0) (hr : Rs 0 (nw t).2.2) (hnd : (nw t).2.1.Nodup) (hl : (nw t).2.1.length ≤ 64) : TwP (nw t).2.1 (whl (nw t).2.2) := by
  obtain ⟨g1, g2⟩ := nw_good t h0
  obtain ⟨f1, f2⟩ := nw_four t h0
  obtain ⟨k1, k2, k3, k4⟩ := whl_good _ _ g1 hr
  obtain ⟨s1, s2⟩ := whl_st _ hr
  exact ⟨k1, k2, k3, hnd, (List.getElem?_eq_some_iff.1 g1.1).1, hl, f1, by omega, s1, s2⟩
set_option maxRecDepth 100000 in
set_option maxHeartbeats 4000000 in
theorem reads_walk (t : List UInt8) (ao : Option Addr) (ac : Nat) (E : List Int) (m : Int) (w : World) (h : Tbs m w) (hE : RdZ w ao E) (ht : t.length ≤ 9223372036854775807) (hEl : E.length ≤ 9223372036854775807) :
    Calls Tryz.prog 3 #[.string ⟨t.toArray⟩, .slice ao E.length ac] w fun e w' => e = .returned (.bool true) ∧ Below w.heap.size w w' := by
  have HT := hid h
  have HLV := hid (live_any m)
  have HNU := hid num_any
  have HZ := hid hE
  have HSZ := hid (show (⟨t.toArray⟩ : ByteArray).size = t.length by show t.toArray.size = _; simp)
  clear h hE
  by_cases h1 : (12000 < t.length ∧ t.length ≤ 65536) ∨ 300 < E.length
  · by_cases h2 : 12000 < t.length ∧ t.length ≤ 65536
    · have h2' : (12000 : Int) < (t.length : Int) := by omega
      have h3' : (t.length : Int) ≤ 65536 := by omega
      clear h1 h2
      go_enter Tryz.func3, Tryz.ntmps3
      go_wp2_with fail
      refine (HLV.out w HT.out).mono ?_
      rintro e w1 ⟨rfl, b1⟩
      have HB1 := hid b1
      clear b1
      go_wp2
      go_ret
      exact ⟨rfl, HB1.out⟩
    · have h4 : (300 : Int) < (E.length : Int) := by omega
      by_cases h5 : 12000 < t.length
      · have h5' : (12000 : Int) < (t.length : Int) := by omega
        have h6' : ¬ (t.length : Int) ≤ 65536 := by omega
        clear h1 h2 h5
        go_enter Tryz.func3, Tryz.ntmps3
        go_wp2_with fail
        refine (HLV.out w HT.out).mono ?_
        rintro e w1 ⟨rfl, b1⟩
        have HB1 := hid b1
        clear b1
        go_wp2
        go_ret
        exact ⟨rfl, HB1.out⟩
      · have h5' : ¬ (12000 : Int) < (t.length : Int) := by omega
        clear h1 h2 h5
        go_enter Tryz.func3, Tryz.ntmps3
        go_wp2_with fail
        refine (HLV.out w HT.out).mono ?_
        rintro e w1 ⟨rfl, b1⟩
        have HB1 := hid b1
        clear b1
        go_wp2
        go_ret
        exact ⟨rfl, HB1.out⟩
  have h4 : ¬ (300 : Int) < (E.length : Int) := by omega
  have hE3 : E.length ≤ 300 := by omega
  have ht2 : t.length ≤ 12000 ∨ 65536 < t.length := by omega
  have HNE := hid (new_any t m w HT.out)
  have HRE := hid (fun W => rnew_any t W ht2)
  have HTP := hid (show (nw t).1.1 = 0 → Rs 0 (nw t).2.2 → (nw t).2.1.Nodup → (nw t).2.1.length ≤ 64 → TwP (nw t).2.1 (whl (nw t).2.2) from fun h0 hr hnd hl => by
    refine twp_of t ?_ h0 hr hnd hl
    rcases ht2 with h5 | h5
    · exact h5
    · exfalso
      have h6 : nw t = ((1, 0), [oth], []) := by unfold nw; rw [if_pos h5]
      rw [h6] at h0
      exact absurd h0 (by decide))
  have HST := hid (show t.length ≤ 12000 ∨ (12000 < t.length ∧ 65536 < t.length) by omega)
  obtain ⟨er, her⟩ : ∃ er, er = (nw t).1.1 := ⟨_, rfl⟩
  obtain ⟨ln, hln⟩ : ∃ ln, ln = (nw t).1.2 := ⟨_, rfl⟩
  obtain ⟨U, hU⟩ : ∃ U, U = (nw t).2.1 := ⟨_, rfl⟩
  obtain ⟨S, hS⟩ : ∃ S, S = (nw t).2.2 := ⟨_, rfl⟩
  rw [← her, ← hln, ← hU, ← hS] at HNE
  rw [← her, ← hln, ← hU, ← hS] at HRE
  rw [← her, ← hU, ← hS] at HTP
  clear her hln hU hS h1
  rcases HST.out with hA | ⟨hA, hB⟩
  · have hA' : ¬ (12000 : Int) < (t.length : Int) := by omega
    clear hA HST ht2
    go_enter Tryz.func3, Tryz.ntmps3
    go_wp2_with fail
    refine HNE.out.mono ?_
    rintro e w1 ⟨b1, (⟨hne, rfl⟩ | ⟨he0, P, K, nv, po, pc, rfl, d1, o1, r1, nd1, ln1⟩)⟩
    · have HB1 := hid b1
      have HR1 := hid (HRE.out w1)
      have HL1 := hid (fun W hW => HLV.out W (HT.out.below hW))
      clear b1 HNE HRE HLV
      go_wp2_with fail
      refine HR1.out.mono ?_
      rintro e w2 ⟨b2, (⟨_, rfl⟩ | ⟨he0, _⟩)⟩
      · have HB2 := hid (HB1.out.trans (b2.mono HB1.out.size))
        clear b2 HR1
        go_wp2_with (first | (go_at_call 12; refine (HNU.out _ _).mono ?_; rintro e w3 ⟨rfl, hw⟩; obtain rfl := hw.symm) | fail)
        refine (HL1.out w2 HB2.out).mono ?_
        rintro e w3 ⟨rfl, b3⟩
        have HB3 := hid (HB2.out.trans (b3.mono HB2.out.size))
        clear b3
        go_wp2
        go_ret
        exact ⟨rfl, HB3.out⟩
      · exact absurd he0 hne
    · have HTQ := hid (HTP.out he0 r1 nd1 ln1)
      have HB1 := hid b1
      have HD1 := hid d1
      have HR1' := hid (show RdK w1 po ((whl S).map rkT) from rd_own o1)
      have HR1 := hid (HRE.out w1)
      have HL1 := hid (fun W hW => HLV.out W (HT.out.below hW))
      clear b1 d1 o1 r1 nd1 ln1 HNE HRE HLV HTP
      go_wp2_with fail
      refine HR1.out.mono ?_
      rintro e w2 ⟨b2, (⟨hne, _⟩ | ⟨_, Q, nv2, sv2, vs2, rfl, d2⟩)⟩
      · exact absurd he0 hne
      · have HB2 := hid (HB1.out.trans (b2.mono HB1.out.size))
        have HT2 := hid (show Twn m P K Q w.heap.size w1.heap.size U (whl S) nv po pc nv2 sv2 vs2 w2 from ⟨HD1.out.below b2, HR1'.out.below b2, d2, HT.out.below HB2.out⟩)
        clear b2 d2 HR1 HD1 HR1'
        obtain rfl : er = 0 := he0
        go_wp2_with (first | (go_at_call 12; refine (HNU.out _ _).mono ?_; rintro e w3 ⟨rfl, hw⟩; obtain rfl := hw.symm) | fail)
        refine (HL1.out w2 HB2.out).mono ?_
        rintro e w3 ⟨rfl, b3⟩
        have HB3 := hid (HB2.out.trans (b3.mono HB2.out.size))
        have HT3 := hid (HT2.out.below b3)
        have HSD := hid (stands_any m P K Q w.heap.size w1.heap.size U (whl S) nv po pc nv2 sv2 vs2 ao ac E w3 HTQ.out HT3.out (HZ.out.below HB3.out) (by omega))
        clear b3 HT2 HL1 HT3
        go_wp2_with fail
        refine HSD.out.mono ?_
        rintro e w4 ⟨rfl, b4⟩
        have HB4 := hid (HB3.out.trans (b4.mono HB3.out.size))
        clear b4 HSD
        go_wp2
        go_ret
        exact ⟨rfl, HB4.out⟩
  · have hA' : (12000 : Int) < (t.length : Int) := by omega
    have hB' : ¬ (t.length : Int) ≤ 65536 := by omega
    clear hA hB HST ht2
    go_enter Tryz.func3, Tryz.ntmps3
    go_wp2_with fail
    refine HNE.out.mono ?_
    rintro e w1 ⟨b1, (⟨hne, rfl⟩ | ⟨he0, P, K, nv, po, pc, rfl, d1, o1, r1, nd1, ln1⟩)⟩
    · have HB1 := hid b1
      have HR1 := hid (HRE.out w1)
      have HL1 := hid (fun W hW => HLV.out W (HT.out.below hW))
      clear b1 HNE HRE HLV
      go_wp2_with fail
      refine HR1.out.mono ?_
      rintro e w2 ⟨b2, (⟨_, rfl⟩ | ⟨he0, _⟩)⟩
      · have HB2 := hid (HB1.out.trans (b2.mono HB1.out.size))
        clear b2 HR1
        go_wp2_with (first | (go_at_call 12; refine (HNU.out _ _).mono ?_; rintro e w3 ⟨rfl, hw⟩; obtain rfl := hw.symm) | fail)
        refine (HL1.out w2 HB2.out).mono ?_
        rintro e w3 ⟨rfl, b3⟩
        have HB3 := hid (HB2.out.trans (b3.mono HB2.out.size))
        clear b3
        go_wp2
        go_ret
        exact ⟨rfl, HB3.out⟩
      · exact absurd he0 hne
    · have HTQ := hid (HTP.out he0 r1 nd1 ln1)
      have HB1 := hid b1
      have HD1 := hid d1
      have HR1' := hid (show RdK w1 po ((whl S).map rkT) from rd_own o1)
      have HR1 := hid (HRE.out w1)
      have HL1 := hid (fun W hW => HLV.out W (HT.out.below hW))
      clear b1 d1 o1 r1 nd1 ln1 HNE HRE HLV HTP
      go_wp2_with fail
      refine HR1.out.mono ?_
      rintro e w2 ⟨b2, (⟨hne, _⟩ | ⟨_, Q, nv2, sv2, vs2, rfl, d2⟩)⟩
      · exact absurd he0 hne
      · have HB2 := hid (HB1.out.trans (b2.mono HB1.out.size))
        have HT2 := hid (show Twn m P K Q w.heap.size w1.heap.size U (whl S) nv po pc nv2 sv2 vs2 w2 from ⟨HD1.out.below b2, HR1'.out.below b2, d2, HT.out.below HB2.out⟩)
        clear b2 d2 HR1 HD1 HR1'
        obtain rfl : er = 0 := he0
        go_wp2_with (first | (go_at_call 12; refine (HNU.out _ _).mono ?_; rintro e w3 ⟨rfl, hw⟩; obtain rfl := hw.symm) | fail)
        refine (HL1.out w2 HB2.out).mono ?_
        rintro e w3 ⟨rfl, b3⟩
        have HB3 := hid (HB2.out.trans (b3.mono HB2.out.size))
        have HT3 := hid (HT2.out.below b3)
        have HSD := hid (stands_any m P K Q w.heap.size w1.heap.size U (whl S) nv po pc nv2 sv2 vs2 ao ac E w3 HTQ.out HT3.out (HZ.out.below HB3.out) (by omega))
        clear b3 HT2 HL1 HT3
        go_wp2_with fail
        refine HSD.out.mono ?_
        rintro e w4 ⟨rfl, b4⟩
        have HB4 := hid (HB3.out.trans (b4.mono HB3.out.size))
        clear b4 HSD
        go_wp2
        go_ret
        exact ⟨rfl, HB4.out⟩
end Go.Proofs.YtohhokjlgihbgaaGreatDoor
