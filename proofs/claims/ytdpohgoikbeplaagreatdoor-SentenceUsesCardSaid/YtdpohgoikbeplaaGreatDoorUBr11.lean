/- Br11, Br9: parts of the proof, joined. -/
import Derived.Test.YtdpohgoikbeplaaGreatDoorUKit
import Derived.Test.YtdpohgoikbeplaaGreatDoorUDcNm
namespace Go.Proofs.YtdpohgoikbeplaaGreatDoor.Br
open Go.RowKit
def BrAt (U : List (List UInt8)) (A : List Dc.Tr) (rs : List Pt.Rl) (rest : Bool) (X : Nat) (w : World) : Prop :=
 ∃ Q ro rc, w.heap[X]? = some (.cells #[.pointer (some ⟨Q, 0, none⟩), .slice ro rs.length rc, .bool rest] 48 (0, 0)) /\ Dc.Bk U A Q w /\ Pt.RdRl w ro rs
theorem BrAt.below {U : List (List UInt8)} {A : List Dc.Tr} {rs : List Pt.Rl} {rest : Bool} {X : Nat} {w w' : World} (h : BrAt U A rs rest X w) (hb : Below w.heap.size w w') : BrAt U A rs rest X w' := by
 obtain ⟨Q, ro, rc, h1, h2, h3⟩ := h
 exact ⟨Q, ro, rc, (hb.block X (Pt.heap_lt h1)).trans h1, h2.below hb, h3.below hb⟩
set_option maxHeartbeats 2000000 in
set_option maxRecDepth 100000 in
theorem of_any (P R : ByteArray) (U : List (List UInt8)) (A : List Dc.Tr) (rs : List Pt.Rl) (rest : Bool) (h0 : 0 < U.length) (h9 : U.length <= 1000)
  (hnew : ∀ w, Calls Tryz.prog 99 #[.string P] w fun e w' => Below w.heap.size w w' /\ ∃ Q, e = .returned (.tuple #[.pointer (some ⟨Q, 0, none⟩), .int .i64 0, .int .i64 0]) /\ Dc.Bk U A Q w')
  (hparse : ∀ g nc w, Pt.NmAt w g nc (Dc.strs U) -> Calls Tryz.prog 100 #[.string R, .slice (some ⟨g, 0, none⟩) U.length nc] w (Pt.PrQ g w rs rest)) (w : World) :
  Calls Tryz.prog 54 #[.string P, .string R] w fun e w' => Below w.heap.size w w' /\ ∃ X, e = .returned (.pointer (some ⟨X, 0, none⟩)) /\ BrAt U A rs rest X w' := by
 have HW := hid hnew
 have HP := hid hparse
 have HU := hid (And.intro h0 h9)
 clear hnew hparse h0 h9
 go_enter Tryz.func54, Tryz.ntmps54
 go_wp2_with fail
 refine (HW.out w).mono ?_
 rintro e w1 ⟨hb, Q, rfl, hk⟩
 have HB1 := hid hb
 have HK := hid hk
 have HN := hid (Dc.dnames_any U A Q w1 hk HU.out.1 HU.out.2)
 obtain ⟨N, hN⟩ : ∃ N, N = U.length := ⟨_, rfl⟩
 rw [<- hN] at HN HP
 clear hb hk HW hN
 go_wp2_with fail
 refine HN.out.mono ?_
 rintro e w2 ⟨g, nc, rfl, hn, hg, hb2⟩
 have HPg := hid (HP.out g nc w2 hn)
 have HG := hid hg
 have HB2 := hid hb2
 clear hn hg hb2 HN HP
 go_wp2_with fail
 refine HPg.out.mono ?_
 rintro e w3 ⟨ro, rc, rfl, hr, ho⟩
 have HB3 := hid (HB2.out.trans (ho.below HB2.out.size HG.out))
 have HR := hid hr
 clear hr ho HPg
 obtain ⟨n, hn⟩ : ∃ n, n = rs.length := ⟨_, rfl⟩
 rw [<- hn]
 have HNn := hid hn
 clear hn
 go_wp2
 go_ret
 refine ⟨HB1.out.trans ((HB3.out.mono HB1.out.size).trans (((Below.refl _ _).alloc (Nat.le_refl _) _ |>.alloc (by simp) _).mono (Nat.le_trans HB1.out.size HB3.out.size))), _, rfl, Q, ro, rc, ?_, (HK.out.below HB3.out).below ((Below.refl _ _).alloc (Nat.le_refl _) _ |>.alloc (by simp) _), HR.out.below ((Below.refl _ _).alloc (Nat.le_refl _) _ |>.alloc (by simp) _)⟩
 rw [<- HNn.out]
 have e := World.alloc_heap_new (w3.alloc (.cells #[.slice ro n rc, .bool rest] 46)) (.cells #[.pointer (some ⟨Q, 0, none⟩), .slice ro n rc, .bool rest] 48)
 rw [World.size_alloc] at e
 exact e
end Go.Proofs.YtdpohgoikbeplaaGreatDoor.Br
namespace Go.Proofs.YtdpohgoikbeplaaGreatDoor.Pt
open Go.RowKit
def dcl (A : List Dc.Tr) (l : List UInt8) : List Nat := (rl l).map fun x => Dc.gtp (Dc.instd (x.1 : Int)) A
theorem plr_rl (l : List UInt8) : ∀ (n p : Nat), l.length - p <= n -> (Dc.plr l p).map (fun x => x.2) = (rl (l.drop p)).map fun x => (x.1 : Int)
 | n, p, hn => by
  by_cases h : p < l.length
  ·have hne := drop_ne l p h
   have w1 := wid_ge l p h
   cases n with
   | zero => omega
   | succ n =>
    rw [Dc.plr_step l p h, decode_place l p h, rl_cons _ hne, List.map_cons, List.map_cons, List.drop_drop]; have := plr_rl l n (p + wid l p) (by omega)
    unfold wid at this
    rw [this]
  ·rw [Dc.plr_end l p h, List.drop_of_length_le (by omega)]; rfl
theorem cl64_dcl (A : List Dc.Tr) (l : List UInt8) : Dc.cl64 (Dc.evs A l 0) = i64n (dcl A l) := by
 have h := congrArg (List.map fun z => Value.int .i64 ((Dc.gtp (Dc.instd z) A : Nat) : Int)) (plr_rl l l.length 0 (by omega))
 rw [List.drop_zero, List.map_map, List.map_map] at h
 unfold Dc.cl64 Dc.evs dcl i64n
 rw [List.map_map, List.map_map]
 exact h
theorem dcl_len (A : List Dc.Tr) (l : List UInt8) : (dcl A l).length = (rl l).length := List.length_map ..
theorem evs_rl (A : List Dc.Tr) (l : List UInt8) : (Dc.evs A l 0).length = (rl l).length := by
 have h := congrArg List.length (cl64_dcl A l)
 unfold Dc.cl64 i64n at h
 rw [List.length_map, List.length_map, dcl_len] at h
 exact h
def dcs (A : List Dc.Tr) (l : List UInt8) : List Int := (dcl A l).map fun (x : Nat) => (x : Int)
theorem dcs_len (A : List Dc.Tr) (l : List UInt8) : (dcs A l).length = (rl l).length := by unfold dcs; rw [List.length_map, dcl_len]
def egs (l : List UInt8) : List Nat := (List.range ((rl l).length + 1)).map (Wt.pos l)
theorem edg_egs (l : List UInt8) : (edg l).map (Value.int .i64) = i64n (egs l) := by
 rw [Rf.edg_pos]
 unfold i64n egs
 rw [List.map_map, List.map_map]; rfl
theorem edg_len2 (l : List UInt8) : (edg l).length = (rl l).length + 1 := by rw [Rf.edg_pos]; simp
theorem egs_len (l : List UInt8) : (egs l).length = (rl l).length + 1 := by simp [egs]
noncomputable def bnd (A : List Dc.Tr) (rs : List Rl) (rest : Bool) (l : List UInt8) : List Nat := (flt (fun k => cutB rest rs (dcs A l) k = true) ((rl l).length + 1)).map (Wt.pos l)
theorem own_sl {w : World} {B n : Nat} {v : Value} {L : List Nat} (h : w.ownsRow B 3 1 v n (i64n L)) : ∃ vo vc, v = .slice vo n vc /\ n <= vc /\ (0 < n -> ∃ g, vo = some ⟨g, 0, none⟩) := by
 rcases h.2 with ⟨h1, h2⟩ | ⟨g, cap, cur, h1, _, _, h4, _⟩
 ·exact ⟨none, 0, by rw [h1, h2], by omega, fun e => by omega⟩
 ·exact ⟨_, cap, h1, h4, fun _ => ⟨g, rfl⟩⟩
set_option maxHeartbeats 8000000 in
set_option maxRecDepth 100000 in
theorem rbounds_any (U : List (List UInt8)) (A : List Dc.Tr) (rs : List Rl) (rest : Bool) (hrs : ∀ r ∈ rs, RlOk r) (hr9 : rs.length <= 1000) (hC : Dc.Cov 0 A 1114112) (hc : ∀ g ∈ A, g.2.2 < U.length) (hU : U.length <= 1000) (hA : A.length <= 10000000) (X : Nat) (l : List UInt8) (hl : l.length <= 80000) (hne : l ≠ []) (w : World) (h : Br.BrAt U A rs rest X w) :
  Calls Tryz.prog 16 #[.pointer (some ⟨X, 0, none⟩), .string ⟨l.toArray⟩] w (LsQ w (bnd A rs rest l)) := by
 have he : l.isEmpty = false := by simpa using hne
 have hl0 : 0 < l.length := List.length_pos_iff.2 hne
 have hrl : (rl l).length <= l.length := Rf.rl_len _ l (Nat.le_refl _)
 have hrl0 : 0 < (rl l).length := by rw [rl_cons l hne]; simp
 obtain ⟨Q, ro, rc, hX, ⟨B, nv, sv, vs, hD⟩, hR⟩ := h
 have HE := hid (Rf.edges_any l w (by omega))
 have HOf := hid (fun (W : World) (hb : Below w.heap.size w W) => Dc.rof_any B Q U.length U A nv sv vs l W (hD.below hb) hC hc hU hA (by omega))
 have HBd := hid (fun (W : World) (g o cn cc : Nat) (hb : Below w.heap.size w W) (hcn : cn = (dcs A l).length) (hcc : cn <= cc) (hI : RdI W (some ⟨g, o, none⟩) (dcs A l)) => bounds8_any rest rs hrs ro rs.length rc rfl hr9 (dcs A l) g o cn cc hcn (by rw [hcn, dcs_len]; exact hrl0) (by rw [hcn, dcs_len]; omega) hcc W (hR.below hb) hI)
 have HX := hid (fun (W : World) (hb : Below w.heap.size w W) => show W.cell? ⟨X, 0, none⟩ = some (.pointer (some ⟨Q, 0, none⟩)) /\ W.cell? ⟨X, 1, none⟩ = some (.slice ro rs.length rc) /\ W.cell? ⟨X, 2, none⟩ = some (.bool rest) from by
  have hX2 := (hb.block X (heap_lt hX)).trans hX
  exact ⟨by rw [cell_of_row W X 0 _ _ _ hX2]; rfl, by rw [cell_of_row W X 1 _ _ _ hX2]; rfl, by rw [cell_of_row W X 2 _ _ _ hX2]; rfl⟩)
 rw [edg_egs, edg_len2] at HE
 rw [evs_rl, cl64_dcl] at HOf
 have HN := hid (And.intro hrl hrl0)
 obtain ⟨N, hN⟩ : ∃ N, N = (rl l).length := ⟨_, rfl⟩
 rw [<- hN] at HE HOf
 have HNe := hid hN
 have hN1 : 1 <= N := by omega
 have hN9 : N <= 80000 := by omega
 obtain ⟨rn, hrn⟩ : ∃ n, n = rs.length := ⟨_, rfl⟩
 rw [<- hrn] at HX HBd hr9
 clear hrn
 clear hX hD hR hC hc hU hA hrs hne hrl hrl0 hN
 obtain ⟨i0, hi3, hz0, hz1, hz2⟩ := info_parts Tryz.info3
 have HI3 := hid (And.intro hi3 (And.intro hz0 (And.intro hz1 hz2)))
 clear hi3 hz0 hz1 hz2
 have l1 : ((l.length : Int) == 0) = false := beq_eq_false_iff_ne.2 (by omega)
 go_enter Tryz.func16, Tryz.ntmps16
 go_wp2_with fail
 refine HE.out.mono ?_
 rintro e w1 ⟨v, rfl, hO1, hb1⟩
 obtain ⟨eo, ec, rfl, _, he0⟩ := own_sl hO1
 obtain ⟨eg, rfl⟩ := he0 (by omega)
 have HEr := hid (rdi_own hO1 (by rw [egs_len, HNe.out]))
 have HB1 := hid hb1
 clear hO1 hb1 HE he0
 go_wp2_with fail
 refine wp_region_mix [(0, true), (1, true), (2, true), (3, true), (4, true), (5, true), (6, true), (7, true), (8, true), (9, false), (10, false), (11, false)] (fun W => W.cell? ⟨X, 0, none⟩ = some (.pointer (some ⟨Q, 0, none⟩)) /\ W.cell? ⟨X, 1, none⟩ = some (.slice ro rn rc) /\ W.cell? ⟨X, 2, none⟩ = some (.bool rest)) (fun _ => false) (by kernel_rfl) (by kernel_rfl) (fun j hj => by cases hj) rfl (by kernel_rfl) (HX.out _ (show Below w.heap.size w w1.drew from ⟨HB1.out.os, HB1.out.tape, HB1.out.output, HB1.out.size, HB1.out.block⟩)) ?_
 iterate 9 (refine mix_free ?_ rfl (by kernel_rfl) (fun w' hS => ?_) ?_; (rotate_left; (obtain ⟨s1, s2, s3⟩ := hS; go_simp; with_reducible rfl); rotate_left))
 refine mix_go rfl (by kernel_rfl) fun KK hKK => ?_
 go_simp
 have HB1d := hid (show Below w.heap.size w w1.drew from ⟨HB1.out.os, HB1.out.tape, HB1.out.output, HB1.out.size, HB1.out.block⟩)
 refine (HOf.out w1.drew HB1d.out).mono ?_
 rintro e w4 ⟨v, rfl, hO4, hB4⟩
 obtain ⟨co, cc, rfl, hcc, hc0⟩ := own_sl hO4
 obtain ⟨cg, rfl⟩ := hc0 (by omega)
 have HIc := hid (show RdI w4 (some ⟨cg, 0, none⟩) (dcs A l) from rdi_own hO4 (by rw [dcl_len, HNe.out]))
 have HB4' := hid (show Below w1.heap.size w1 w4 from ⟨hB4.os, hB4.tape, hB4.output, hB4.size, hB4.block⟩)
 have HB4 := hid (show Below w.heap.size w w4 from HB1.out.trans (HB4'.out.mono HB1.out.size))
 clear hO4 hB4 HOf hc0
 refine hKK _ _ (fun _ => HX.out _ HB4.out) ?_
 clear hKK
 refine mix_go rfl (by kernel_rfl) fun KK hKK => ?_
 go_simp
 refine (HBd.out w4 cg 0 N cc HB4.out (by rw [dcs_len, HNe.out]) hcc HIc.out).mono ?_
 rintro e w5 ⟨vo, vc, rfl, hO5, hB5⟩
 have HB5' := hid (show Below w1.heap.size w1 w5 from HB4'.out.trans (hB5.mono HB4'.out.size))
 have HB5 := hid (show Below w.heap.size w w5 from HB4.out.trans (hB5.mono HB4.out.size))
 obtain ⟨L, hL⟩ : ∃ L, L = flt (fun k => cutB rest rs (dcs A l) k = true) (N + 1) := ⟨_, rfl⟩
 rw [<- hL] at hO5 ⊢
 have HLb := hid (show ∀ x ∈ L, x < N + 1 from fun x hx => by rw [hL] at hx; exact ((flt_mem _ _ _).1 hx).1)
 have HBn := hid (show bnd A rs rest l = L.map (Wt.pos l) by unfold bnd; rw [hL, <- HNe.out])
 have HLl := hid (show L.length <= N + 1 by rw [hL]; exact flt_len _ _)
 have HIl := hid (rdi_own hO5 rfl)
 clear hL hO5 hB5 HBd HIc
 obtain ⟨m, hm⟩ : ∃ m, m = L.length := ⟨_, rfl⟩
 rw [<- hm]
 have HM := hid hm
 have hm9 : m <= 80001 := by have := HLl.out; omega
 clear hm
 refine hKK _ _ (fun _ => HX.out _ HB5.out) ?_
 clear hKK
 refine mix_go rfl (by kernel_rfl) fun KK hKK => ?_
 go_simp
 refine hKK _ _ (fun _ => HX.out _ HB5.out) ?_
 clear hKK
 refine mix_end (NoPanic.normal ?_)
 clear HX HB4 HB4' HB1d
 have HEr5 := hid (HEr.out.below HB5'.out)
 clear HEr
 go_wp2
 go_loopw [7, 8] (fun x y wr => ∃ (i n : Nat) (vo : Option Addr) (vc : Nat), x = .slice vo n vc /\ y = .int .i64 i /\ i <= m /\ n = i /\ Hid (wr.ownsRow w5.heap.size 3 1 (.slice vo n vc) n (i64n ((L.take i).map (Wt.pos l)))) /\ Hid (Below w5.heap.size w5 wr)) (fun _ y _ => m - (intOf y).toNat)
 case atStart => exact ⟨0, 0, none, 0, rfl, rfl, Nat.zero_le _, rfl, hid (World.ownsRow_nil _ _ _ _), hid (Below.refl _ _)⟩
 case round =>
  obtain ⟨i, n, uo, uc, rfl, rfl, hi, rfl, HO, HB⟩ := hrel
  by_cases hlt : n < m
  ·have i0' : (0 : Int) <= (n : Int) := by omega
   have i1 : (n : Int) < (m : Int) := by omega
   have hil : n < L.length := by have := HM.out; omega
   obtain ⟨a1, rfl, a2, a3⟩ := (HIl.out.below HB.out) n (L[n] : Int) (by rw [List.getElem?_map, List.getElem?_eq_getElem hil]; rfl)
   obtain ⟨z, hz⟩ : ∃ z, z = L[n] := ⟨_, rfl⟩
   rw [<- hz] at a3
   have hzN : z < N + 1 := by rw [hz]; exact HLb.out _ (List.getElem_mem _)
   obtain ⟨b1, hb1, b2, b3⟩ := (HEr5.out.below HB.out) z (Wt.pos l z : Int) (by rw [List.getElem?_map]; unfold egs; rw [List.getElem?_map, List.getElem?_range (by rw [<- HNe.out]; exact hzN)]; rfl)
   cases hb1
   have z0 : (0 : Int) <= (z : Int) := by omega
   have z1 : (z : Int) < (N : Int) + 1 := by omega
   obtain ⟨q, hq⟩ : ∃ q, q = Wt.pos l z := ⟨_, rfl⟩
   rw [<- hq] at b3
   have HF := hid (show (L.take (n + 1)).map (Wt.pos l) = (L.take n).map (Wt.pos l) ++ [q] by rw [List.take_succ_eq_append_getElem hil, List.map_append, <- hz, hq]; rfl)
   clear hz hq hil; rw [Addr.add_lit, Nat.zero_add] at b3
   go_wp2_with (at_builtin; refine wpList_append_lies _ rfl _ _ 23 rfl w5.heap.size 3 i0 (.int .i64 0) 1 8 Tryz.underInts HI3.out.1 HI3.out.2.1 HI3.out.2.2.1 HI3.out.2.2.2 rfl (by decide) (.slice uo n uc) n (i64n ((L.take n).map (Wt.pos l))) rfl (HO.out.alloc _) ⟨wr.heap.size, 0, none⟩ 1 1 [.int .i64 (q : Int)] rfl rfl (news_1 wr _ _) (i64n_one [q]) (by decide) (by unfold maxLen; omega) (by omega) (by have := HB.out.size; simp; omega) (wr.heap.size + 1) (by simp) ?_; intro g8 c8 w8 o8 gr8 hl8 hlt8; have HO8 := hid o8; have HB8 := hid (own_grown HB.out rfl HO.out gr8); clear o8 gr8 hl8 hlt8)
   go_roundw
   case rel => exact ⟨n + 1, n + 1, _, _, rfl, by go_num, by omega, rfl, hid (by rw [HF.out]; unfold i64n; rw [List.map_append]; exact HO8.out), HB8⟩
   case measure => simp [intOf]; omega
  ·have i1 : ¬ (n : Int) < (m : Int) := by omega
   have e : n = m := by omega
   subst e; have HQ := hid (show LsQ w (bnd A rs rest l) (.returned (.slice uo n uc)) wr from by
    have h2 := HO.out
    have e : (L.take n).map (Wt.pos l) = bnd A rs rest l := by rw [HBn.out, List.take_of_length_le (by rw [HM.out]; exact Nat.le_refl _)]
    have e2 : n = (bnd A rs rest l).length := by rw [HBn.out, List.length_map]; exact HM.out
    rw [e] at h2
    refine ⟨uo, uc, by rw [e2], ?_, HB5.out.trans (HB.out.mono HB5.out.size)⟩
    rw [<- e2]; exact ⟨h2.1, h2.2.imp (fun h => h) fun ⟨g, cap, cur, a1, a2, a3⟩ => ⟨g, cap, cur, a1, Nat.le_trans HB5.out.size a2, a3⟩⟩)
   go_wp2
   go_ret; exact HQ.out
end Go.Proofs.YtdpohgoikbeplaaGreatDoor.Pt
