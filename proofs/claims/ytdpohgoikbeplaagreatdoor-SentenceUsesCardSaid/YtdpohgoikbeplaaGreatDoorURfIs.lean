/- RfIs, SuDoc, SuKd: parts of the proof, joined. -/
import Derived.Test.YtdpohgoikbeplaaGreatDoorUSnUm
import Derived.Test.YtdpohgoikbeplaaGreatDoorUSnCut
import Derived.Test.YtdpohgoikbeplaaGreatDoorUGmDoc
namespace Go.Proofs.YtdpohgoikbeplaaGreatDoor.Sn
open Go.RowKit Wt Br
theorem isE_egs (l : List UInt8) (z : Int) : isE l z = (Pt.egs l).any fun x => (x : Int) == z := by
 rw [is_eq, Rf.edg_pos]
 unfold isL Pt.egs
 rw [List.any_map, List.any_map]; rfl
theorem any_step {D : List Nat} {i x : Nat} {z : Int} (h : D[i]? = some x) : ((D.drop i).any fun y => (y : Int) == z) = (((x : Int) == z) || ((D.drop (i + 1)).any fun y => (y : Int) == z)) := by
 obtain ⟨h1, h2⟩ := List.getElem?_eq_some_iff.1 h
 rw [List.drop_eq_getElem_cons h1, h2, List.any_cons]
set_option maxHeartbeats 1000000 in
set_option maxRecDepth 100000 in
theorem ris_any (l : List UInt8) (z : Int) (w : World) (hl : l.length <= 1000000) :
  Calls Tryz.prog 77 #[.string ⟨l.toArray⟩, .int .i64 z] w fun e w' => e = .returned (.bool (isE l z)) /\ Below w.heap.size w w' := by
 have HE := hid (Rf.edges_any l w (by omega))
 have HV := hid (isE_egs l z)
 have HL := hid (Pt.egs_len l)
 have hrl := Rf.rl_len _ l (Nat.le_refl _)
 rw [Pt.edg_egs, Pt.edg_len2] at HE
 obtain ⟨n, hn⟩ : ∃ n, n = (rl l).length + 1 := ⟨_, rfl⟩
 have hn9 : n <= 1000001 := by omega
 rw [<- hn] at HE HL
 obtain ⟨D, hD⟩ : ∃ D, D = Pt.egs l := ⟨_, rfl⟩
 rw [<- hD] at HE HV HL
 clear hD hn hrl
 go_enter Tryz.func77, Tryz.ntmps77
 go_wp2_with fail
 refine HE.out.mono ?_
 rintro e w1 ⟨v, rfl, hO1, hb1⟩
 obtain ⟨eo, ec, rfl, _, _⟩ := Pt.own_sl hO1
 have HI := hid (Pt.rdi_own hO1 HL.out.symm)
 have HB := hid hb1
 clear hO1 hb1 HE
 go_wp2
 go_loopw [6] (fun y wr => ∃ i : Nat, y = .int .i64 i /\ i <= n /\ wr = w1 /\ Hid (isE l z = (D.drop i).any fun x => (x : Int) == z)) (fun y _ => n - (intOf y).toNat)
 case atStart => exact ⟨0, rfl, Nat.zero_le _, rfl, hid (by rw [HV.out, List.drop_zero])⟩
 case round =>
  obtain ⟨i, rfl, hi, rfl, HE⟩ := hrel
  by_cases hlt : i < n
  ·have i0 : (0 : Int) <= (i : Int) := by omega
   have i1 : (i : Int) < (n : Int) := by omega
   have hil : i < D.length := by rw [HL.out]; exact hlt
   obtain ⟨a, rfl, c1⟩ := rdi_nat HI.out hil
   obtain ⟨x, hx⟩ : ∃ x, x = D[i] := ⟨_, rfl⟩
   have HX := hid (any_step (z := z) (show D[i]? = some x by rw [hx]; exact List.getElem?_eq_getElem hil))
   rw [<- hx] at c1
   clear hx hil
   by_cases hz : (x : Int) = z
   ·have HR := hid (show isE l z = true by rw [HE.out, HX.out, beq_iff_eq.2 hz]; rfl)
    go_wp2
    go_ret; exact ⟨by rw [HR.out]; rfl, HB.out⟩
   ·have HR := hid (HE.out.trans (HX.out.trans (by rw [beq_eq_false_iff_ne.2 hz, Bool.false_or])))
    go_wp2
    go_roundw
    case rel => exact ⟨i + 1, by go_num, by omega, trivial, HR⟩
    case measure => simp [intOf]; omega
  ·have i1 : ¬ (i : Int) < (n : Int) := by omega
   have HR := hid (show isE l z = false by rw [HE.out, List.drop_of_length_le (by rw [HL.out]; omega)]; rfl)
   go_wp2
   go_ret; exact ⟨by rw [HR.out]; rfl, HB.out⟩
end Go.Proofs.YtdpohgoikbeplaaGreatDoor.Sn
namespace Go.Proofs.YtdpohgoikbeplaaGreatDoor.Sn
open Go.RowKit Wt
def blk (c : Int) : Bool := c == 4 || (c == 3 || (c == 1 || c == 2))
theorem blk_has (c : Int) (hc : 0 <= c /\ c <= 13) : blk c = shas 30 c := all14 (fun c => blk c = shas 30 c) (by decide) c hc
theorem rblank_any (c : Int) (w : World) : Calls Tryz.prog 89 #[.int .i64 c] w fun e w' => e = .returned (.bool (blk c)) /\ w' = w := by
 by_cases h4 : c = 4
 ·subst h4
  go_enter Tryz.func89, Tryz.ntmps89
  go_wp2
  go_ret; exact ⟨rfl, rfl⟩
 by_cases h3 : c = 3
 ·subst h3
  go_enter Tryz.func89, Tryz.ntmps89
  go_wp2
  go_ret; exact ⟨rfl, rfl⟩
 by_cases h1 : c = 1
 ·subst h1
  go_enter Tryz.func89, Tryz.ntmps89
  go_wp2
  go_ret; exact ⟨rfl, rfl⟩
 have e4 : (c == 4) = false := beq_eq_false_iff_ne.2 h4
 have e3 : (c == 3) = false := beq_eq_false_iff_ne.2 h3
 have e1 : (c == 1) = false := beq_eq_false_iff_ne.2 h1
 have HV := hid (show blk c = (c == 2) by unfold blk; rw [e4, e3, e1]; simp)
 go_enter Tryz.func89, Tryz.ntmps89
 go_wp2
 go_ret
 exact ⟨by rw [HV.out]; rfl, rfl⟩
theorem rwithin_any (s : List UInt8) (f t : Int) (w : World) (hl : s.length <= 1000000) :
  Calls Tryz.prog 87 #[.string ⟨s.toArray⟩, .int .i64 f, .int .i64 t] w fun e w' => e = .returned (.bool (wth s f t)) /\ Below w.heap.size w w' := by
 have HI := hid (fun (z : Int) (W : World) => ris_any s z W hl)
 cases hf : isE s f with
 | false =>
  have HV := hid (show wth s f t = false by unfold wth; rw [hf]; simp)
  have HF := hid (HI.out f w)
  rw [hf] at HF
  clear hf
  go_enter Tryz.func87, Tryz.ntmps87
  go_wp2_with fail
  refine HF.out.mono ?_
  rintro e w1 ⟨rfl, be⟩; have HB1 := hid be
  clear be HF HI
  go_wp2
  go_ret; exact ⟨by rw [HV.out]; rfl, HB1.out⟩
 | true =>
  have HV := hid (show wth s f t = (decide (f <= t) && isE s t) by unfold wth; rw [hf]; simp)
  have HF := hid (HI.out f w)
  rw [hf] at HF
  clear hf
  go_enter Tryz.func87, Tryz.ntmps87
  go_wp2_with fail
  refine HF.out.mono ?_
  rintro e w1 ⟨rfl, be⟩; have HB1 := hid be
  clear be HF
  go_wp2_with fail
  refine (HI.out t w1).mono ?_
  rintro e w2 ⟨rfl, be⟩; have HB2 := hid (HB1.out.trans (be.mono HB1.out.size))
  clear be HI; obtain ⟨b, hb⟩ : ∃ b, b = isE s t := ⟨_, rfl⟩
  rw [<- hb] at HV
  rw [<- hb]; clear hb
  cases b with
  | false =>
   have HV2 := hid (show wth s f t = false by rw [HV.out]; simp)
   clear HV
   go_wp2
   go_ret; exact ⟨by rw [HV2.out]; rfl, HB2.out⟩
  | true =>
   have HV2 := hid (show wth s f t = decide (f <= t) by rw [HV.out]; simp)
   clear HV
   go_wp2
   go_ret; exact ⟨by rw [HV2.out]; rfl, HB2.out⟩
theorem sn_cls_any (r : Int) : ((Dc.gtp (Dc.instd r) Dc.snW : Nat) : Int) = sncls r := by
 by_cases h : r < 0 \/ 1114111 < r
 ·rw [show Dc.instd r = 65533 from if_pos h, <- Dc.sn_get 65533 (by omega) (by omega), show sncls 65533 = 0 by decide]
  symm
  unfold sncls
  rcases h with h | h
  ·rw [if_pos (by omega)]
   unfold snascii
   repeat rw [if_neg (by omega)]
  ·rw [if_neg (by omega), if_neg (by omega), if_neg (by omega), if_neg (by omega), if_neg (by omega), if_neg (by omega), if_neg (by omega)]
   unfold snhigh
   repeat rw [if_neg (by omega)]
 ·rw [show Dc.instd r = r from if_neg h, Dc.sn_get r (by omega) (by omega)]
set_option maxRecDepth 100000 in
theorem sbr_get (X : Nat) (w : World) (h : Br.BrAt Dc.snU Dc.snW Pt.snRs false X w) : ∃ Q, (∀ W, Below w.heap.size w W -> W.cell? ⟨X, 0, none⟩ = some (.pointer (some ⟨Q, 0, none⟩))) /\ (∀ r W, Below w.heap.size w W -> Calls Tryz.prog 30 #[.pointer (some ⟨Q, 0, none⟩), .int .i32 r] W fun e w' => e = .returned (.int .i64 (sncls r)) /\ w' = W) ∧
  ∀ (t : List UInt8), t.length <= 10000 -> ∀ W, Below w.heap.size w W -> Calls Tryz.prog 57 #[.pointer (some ⟨Q, 0, none⟩), .string ⟨t.toArray⟩] W fun e w' => (∃ ao ac, e = .returned (.slice ao (fw t).length ac) /\ Pt.RdI w' ao (fw t)) /\ Below W.heap.size W w' := by
 obtain ⟨Q, ro, rc, h1, h2, _⟩ := h
 obtain ⟨B, nv, sv, vs, hd⟩ := h2
 refine ⟨Q, fun W hb => ?_, fun r W hb => ?_, fun t ht W hb => ?_⟩
 ·have hX2 := (hb.block X (Pt.heap_lt h1)).trans h1
  rw [cell_of_row W X 0 _ _ _ hX2]; rfl
 ·have := Dc.rget_any B Q Dc.snU.length Dc.snU Dc.snW nv sv vs r W (hd.below hb) Dc.sn_cov Dc.sn_cls (by decide) (by decide)
  rw [sn_cls_any] at this
  exact this
 ·have := Dc.rof_any B Q Dc.snU.length Dc.snU Dc.snW nv sv vs t W (hd.below hb) Dc.sn_cov Dc.sn_cls (by decide) (by decide) (by omega)
  rw [Pt.evs_rl, Pt.cl64_dcl] at this
  refine this.mono ?_
  rintro e w4 ⟨v, rfl, hO4, hB4⟩
  obtain ⟨ao, ac, rfl, _, _⟩ := Pt.own_sl hO4
  have e1 : Pt.dcs Dc.snW t = fw t := sn_dcs t
  refine ⟨⟨ao, ac, by rw [fw_len], ?_⟩, hB4⟩
  rw [<- e1]; exact Pt.rdi_own hO4 (by rw [Pt.dcl_len])
end Go.Proofs.YtdpohgoikbeplaaGreatDoor.Sn
namespace Go.Proofs.YtdpohgoikbeplaaGreatDoor.Sn
open Go.RowKit Wt
theorem msk_knd (z : Int) (hz : 0 <= z /\ z <= 13) : shas 10270 z = (z == 11 || (z == 13 || blk z)) := all14 (fun z => shas 10270 z = (z == 11 || (z == 13 || blk z))) (by decide) z hz
theorem knd_skip (z : Int) (P : List Int) (h : shas 10270 z = true) : kndR (z :: P) = kndR P := by
 unfold kndR
 rw [List.dropWhile_cons, if_pos h]
theorem knd_stop (z : Int) (P : List Int) (h : shas 10270 z = false) : kndR (z :: P) = if z == 9 then 1 else if z == 10 then 2 else 0 := by
 have e : (z :: P).dropWhile (shas 10270) = z :: P := by rw [List.dropWhile_cons, if_neg (by rw [h]; simp)]
 unfold kndR
 rw [e, List.headD_cons]
theorem rdi_int3 {w : World} {ao : Option Addr} {A : List Int} (h : Pt.RdI w ao A) {i : Nat} (hi : i < A.length) : ∃ a : Addr, ao = some a /\ w.cell? (a.add i) = some (.int .i64 A[i]) := by
 obtain ⟨a, h1, _, h3⟩ := h i A[i] (List.getElem?_eq_getElem hi)
 exact ⟨a, h1, h3⟩
theorem bdrew2 {n : Nat} {w w' : World} (h : Below n w w') : Below n w w'.drew := ⟨h.os, h.tape, h.output, h.size, h.block⟩
set_option maxHeartbeats 4000000 in
set_option maxRecDepth 100000 in
theorem rkind_any (s : List UInt8) (f t : Int) (X : Nat) (w : World) (hl : s.length <= 100) (h : Br.BrAt Dc.snU Dc.snW Pt.snRs false X w) :
  Calls Tryz.prog 52 #[.pointer (some ⟨X, 0, none⟩), .string ⟨s.toArray⟩, .int .i64 f, .int .i64 t] w fun e w' => e = .returned (.int .i64 (kndE s f t)) /\ Below w.heap.size w w' := by
 have HS := hid (rwithin_any s f t w (by omega))
 cases hw : wth s f t with
 | false =>
  have HV := hid (show kndE s f t = 0 by unfold kndE; rw [hw, if_neg (by simp)])
  rw [hw] at HS
  rw [HV.out]; clear hw HV h
  go_enter Tryz.func52, Tryz.ntmps52
  go_wp2_with fail
  refine HS.out.mono ?_
  rintro e w1 ⟨rfl, be⟩; have HB1 := hid be
  clear be
  go_wp2
  go_ret; exact ⟨rfl, HB1.out⟩
 | true =>
  obtain ⟨i, j, hij, hj, rfl, rfl⟩ := wth_pos s f t hw
  have hp2 := pos_le2 s hij hj
  have hp4 := pos_le s j hj
  obtain ⟨l, hll⟩ : ∃ l, l = mid s (pos s i) (pos s j) := ⟨_, rfl⟩
  have HL := hid hll
  have hln : l.length = pos s j - pos s i := by rw [hll]; unfold mid; rw [List.length_drop, List.length_take]; omega
  have HV := hid (show kndE s (pos s i : Nat) (pos s j : Nat) = kndR (Pt.bkc (fw l) (fw l).length) by
   unfold kndE
   rw [hw, if_pos rfl, Int.toNat_natCast, Int.toNat_natCast, <- hll, bk_bkc, fw_len])
  rw [hw] at HS
  obtain ⟨f, hf⟩ : ∃ f, f = pos s i := ⟨_, rfl⟩
  obtain ⟨t, hte⟩ : ∃ t, t = pos s j := ⟨_, rfl⟩
  rw [<- hf] at hp2 HS HL HV hln ⊢
  rw [<- hte] at hp2 hp4 HS HL HV hln ⊢
  have hp3 : (f : Int) <= (t : Int) := by omega
  clear hf hte hij hj hll hw; obtain ⟨Q, hX, _, hOf⟩ := sbr_get X w h
  have HX := hid hX
  have HOf := hid (fun (W : World) (hb : Below w.heap.size w W) => hOf l (by omega) W hb)
  have hrn : (fw l).length <= 100 := by have := Rf.rl_len _ l (Nat.le_refl _); rw [fw_len]; omega
  have HC9 := hid (fw_cls l)
  rw [HV.out]; obtain ⟨C, hC⟩ : ∃ C, C = fw l := ⟨_, rfl⟩
  rw [<- hC] at HOf hrn HC9 ⊢
  obtain ⟨n, hn⟩ : ∃ n, n = C.length := ⟨_, rfl⟩
  have HN := hid hn
  rw [<- hn] at HOf hrn ⊢
  clear hX hOf h hC hn HV
  go_enter Tryz.func52, Tryz.ntmps52
  go_wp2_with fail
  refine HS.out.mono ?_
  rintro e w1 ⟨rfl, be⟩; have HB1 := hid be
  clear be HS; have HBd := hid (show Below w.heap.size w w1.drew from bdrew2 HB1.out)
  go_wp2_with fail
  refine wp_region_mix [(0, true), (1, true), (2, true), (3, true), (4, true), (5, true), (6, true), (7, true), (8, false), (9, false)] (fun W => W.cell? ⟨X, 0, none⟩ = some (.pointer (some ⟨Q, 0, none⟩))) (fun _ => false) (by kernel_rfl) (by kernel_rfl) (fun j hj => by cases hj) rfl (by kernel_rfl) (HX.out _ HBd.out) ?_
  iterate 8 (refine mix_free ?_ rfl (by kernel_rfl) (fun w' s1 => ?_) ?_; (rotate_left; (go_simp; with_reducible rfl); rotate_left))
  refine mix_go rfl (by kernel_rfl) fun KK hKK => ?_
  go_simp; rw [ext_mid, <- HL.out]; refine (HOf.out w1.drew HBd.out).mono ?_
  rintro e w5 ⟨⟨ao, ac, rfl, hI⟩, be⟩
  have HI := hid hI
  have HB5 := hid (HBd.out.trans (be.mono HBd.out.size))
  clear hI be HOf; refine hKK _ _ (fun _ => HX.out _ HB5.out) ?_
  clear hKK; refine mix_go rfl (by kernel_rfl) fun KK hKK => ?_
  go_simp; refine hKK _ _ (fun _ => HX.out _ HB5.out) ?_
  clear hKK; refine mix_end (NoPanic.normal ?_)
  have e2 : IntKind.i64.wrap ((n : Int) - 1) = (n : Int) - 1 := by rw [IntKind.wrap_i64]; omega
  clear HX HB1 HBd
  go_wp2
  go_loopw [10] (fun y wr => ∃ (m : Nat) (q : Int), y = .int .i64 q /\ q = (m : Int) - 1 /\ m <= n /\ wr = w5 /\ Hid (kndR (Pt.bkc C n) = kndR (Pt.bkc C m))) (fun y _ => (intOf y + 1).toNat)
  case atStart => exact ⟨n, _, rfl, by omega, Nat.le_refl _, rfl, hid rfl⟩
  case round =>
   obtain ⟨m, q, rfl, hq, hm, rfl, HE⟩ := hrel
   by_cases hm0 : m = 0
   ·have q0 : ¬ (0 : Int) <= q := by omega
    have HR := hid (show kndR (Pt.bkc C n) = 0 by rw [HE.out, hm0]; rfl)
    go_wp2
    go_ret; exact ⟨by rw [HR.out]; rfl, HB5.out⟩
   ·have q0 : (0 : Int) <= q := by omega
    obtain ⟨i, rfl⟩ : ∃ i : Nat, m = i + 1 := ⟨m - 1, by omega⟩
    obtain rfl : q = (i : Int) := by omega
    have q1 : (i : Int) < (n : Int) := by omega
    have hil : i < C.length := by rw [<- HN.out]; omega
    obtain ⟨a2, ha2, c2⟩ := rdi_int3 HI.out hil
    cases ha2
    obtain ⟨z, hz⟩ : ∃ z, z = C[i] := ⟨_, rfl⟩
    have HZ := hid (HC9.out z (by rw [hz]; exact List.getElem_mem _))
    have HX2 := hid (show Pt.bkc C (i + 1) = z :: Pt.bkc C i by rw [Pt.bkc_s hil, List.getD_eq_getElem?_getD, List.getElem?_eq_getElem hil, <- hz]; rfl)
    rw [<- hz] at c2
    have e9 : IntKind.i64.wrap ((i : Int) - 1) = (i : Int) - 1 := by rw [IntKind.wrap_i64]; omega
    clear hz hil hq; have HE2 := hid (show kndR (Pt.bkc C n) = kndR (z :: Pt.bkc C i) by rw [HE.out, HX2.out])
    clear HE HX2
    by_cases h9 : z = 9
    ·subst h9
     have HR := hid (show kndR (Pt.bkc C n) = 1 by rw [HE2.out, knd_stop 9 _ (by decide)]; rfl)
     go_wp2
     go_ret; exact ⟨by rw [HR.out]; rfl, HB5.out⟩
    by_cases h10 : z = 10
    ·subst h10
     have HR := hid (show kndR (Pt.bkc C n) = 2 by rw [HE2.out, knd_stop 10 _ (by decide)]; rfl)
     go_wp2
     go_ret; exact ⟨by rw [HR.out]; rfl, HB5.out⟩
    by_cases h11 : z = 11
    ·subst h11
     have HR := hid (show kndR (Pt.bkc C n) = kndR (Pt.bkc C i) by rw [HE2.out, knd_skip 11 _ (by decide)])
     go_wp2
     go_roundw
     case rel => exact ⟨i, _, rfl, rfl, by omega, trivial, HR⟩
     case measure => simp [intOf]
    by_cases h13 : z = 13
    ·subst h13
     have HR := hid (show kndR (Pt.bkc C n) = kndR (Pt.bkc C i) by rw [HE2.out, knd_skip 13 _ (by decide)])
     go_wp2
     go_roundw
     case rel => exact ⟨i, _, rfl, rfl, by omega, trivial, HR⟩
     case measure => simp [intOf]
    have b9 : (z == 9) = false := beq_eq_false_iff_ne.2 h9
    have b10 : (z == 10) = false := beq_eq_false_iff_ne.2 h10
    have b11 : (z == 11) = false := beq_eq_false_iff_ne.2 h11
    have b13 : (z == 13) = false := beq_eq_false_iff_ne.2 h13
    have n11 : (z != 11) = true := bne_iff_ne.2 h11
    have n13 : (z != 13) = true := bne_iff_ne.2 h13
    have HM := hid (show shas 10270 z = blk z by rw [msk_knd z HZ.out, b11, b13]; rfl)
    have HBl := hid (rblank_any z)
    obtain ⟨b, hb⟩ : ∃ b, b = blk z := ⟨_, rfl⟩
    rw [<- hb] at HM HBl
    clear hb
    cases b with
    | true =>
     have HR := hid (show kndR (Pt.bkc C n) = kndR (Pt.bkc C i) by rw [HE2.out, knd_skip z _ HM.out])
     go_wp2_with fail
     refine (HBl.out _).mono ?_
     rintro e w6 ⟨rfl, e6⟩; obtain rfl := e6.symm
     clear e6
     go_wp2
     go_roundw
     case rel => exact ⟨i, _, rfl, rfl, by omega, trivial, HR⟩
     case measure => simp [intOf]
    | false =>
     have HR := hid (show kndR (Pt.bkc C n) = 0 by rw [HE2.out, knd_stop z _ HM.out, b9, b10]; rfl)
     go_wp2_with fail
     refine (HBl.out _).mono ?_
     rintro e w6 ⟨rfl, e6⟩; obtain rfl := e6.symm
     clear e6
     go_wp2
     go_ret; exact ⟨by rw [HR.out]; rfl, HB5.out⟩
end Go.Proofs.YtdpohgoikbeplaaGreatDoor.Sn
