/- The contract of Reverse (the document's). -/
import Derived.Test.YteacehfihogmpaaDoorSpoilJoint
namespace Go.Proofs.YteacehfihogmpaaDoor
open Go.RowKit

set_option maxHeartbeats 32000000 in
set_option maxRecDepth 100000 in
theorem rrev_any (so : Option Addr) (sc n : Nat) (L : List St) (s f : Int) (w : World) (hn : n = L.length) (hs : RdS w so L) (hnm : n ≤ most) (he : eS L ≤ 1000000) (hf : fS L ≤ 1000000) :
    Calls Tryd.prog 36 #[.agg #[.slice so n sc, .int .i64 s, .int .i64 f]] w fun e w' => RvQ w L s f e w' := by
  obtain ⟨i86, hi86, hs0, hs1, hs2⟩ := info_parts Tryd.info86
  obtain ⟨i88, hi88, he0, he1, he2⟩ := info_parts Tryd.info88
  obtain ⟨i3x, hi3, hz0, hz1', hz2⟩ := info_parts Tryd.info3
  have HN := hid hn
  have HS := hid hs
  have HES := hid he
  have HFS := hid hf
  obtain ⟨w1, hw1⟩ : ∃ w1, w1 = (w.alloc (.cells #[.slice so n sc, .int .i64 s, .int .i64 f] 28)).alloc (.cells #[.slice none 0 0, .int .i64 0, .int .i64 0] 28) := ⟨_, rfl⟩
  have q1 : w1.heap[w.heap.size]? = some (.cells #[.slice so n sc, .int .i64 s, .int .i64 f] 28) := by rw [hw1, al_old _ _ (by simp), al_new _ _ rfl]
  have q2 : w1.heap[w.heap.size + 1]? = some (.cells #[.slice none 0 0, .int .i64 0, .int .i64 0] 28) := by rw [hw1, al_new _ _ (by simp)]
  have hsz1 : w1.heap.size = w.heap.size + 2 := by rw [hw1]; simp
  have b1 : Below w.heap.size w w1 := by rw [hw1]; exact ((Below.refl _ _).alloc (Nat.le_refl _) _).alloc (by simp) _
  have HB1 := hid b1
  have HQ1 := hid q1
  have HQ2 := hid q2
  have HSZ1 := hid hsz1
  have c0 : w1.cell? ⟨w.heap.size, 0, none⟩ = some (.slice so n sc) := by rw [cell_of_row w1 w.heap.size 0 _ 28 (0, 0) q1]; rfl
  have c1 : w1.cell? ⟨w.heap.size, 1, none⟩ = some (.int .i64 s) := by rw [cell_of_row w1 w.heap.size 1 _ 28 (0, 0) q1]; rfl
  have c2 : w1.cell? ⟨w.heap.size, 2, none⟩ = some (.int .i64 f) := by rw [cell_of_row w1 w.heap.size 2 _ 28 (0, 0) q1]; rfl
  have HC1 := hid c1
  have HC2 := hid c2
  clear hn hs q1 q2 hsz1 b1 he hf
  go_enter Tryd.func36, Tryd.ntmps36
  go_wp2_with fail
  rw [← hw1]
  clear hw1
  refine (rgood_any so sc n L s f w1 HN.out (HS.out.below HB1.out) hnm).mono ?_
  rintro e w2 ⟨rfl, b2⟩
  have HB2 := hid b2
  have d0 := cell_bl b2 c0
  have d1 := cell_bl b2 c1
  have d2 := cell_bl b2 c2
  clear b2 c0 c1 c2 HC1 HC2
  rcases bool_cases (gdB L s f) with hG | hG
  · have hgd := gdd_of hG
    rw [hG]
    have hn4 : n ≤ 4096 := by have := hgd.few; have := HN.out; omega
    have M1 := mkT Tryd.underlying26 hi86 hs0 hs1 hs2 (by decide) n (by omega)
    obtain ⟨Z, hZ⟩ : ∃ Z, Z = madeCells (Value.agg #[.slice none 0 0, .slice none 0 0]).cells (n * 2) := ⟨_, rfl⟩
    rw [← hZ] at M1
    have HGD := hid hgd
    have HGB := hid hG
    obtain ⟨B, hB⟩ : ∃ B, B = w2.heap.size := ⟨_, rfl⟩
    have HGP := hid (show w.heap.size + 2 ≤ B by have h1 := HB2.out.size; have h2 := HSZ1.out; omega)
    have HBB := hid hB
    have HST0 := hid (show ∀ (W0 : World) (g p3 : Nat), W0.heap.size = B + 2 → (∀ b, b < B → W0.heap[b]? = w2.heap[b]?) → W0.os = w2.os ∧ W0.tape = w2.tape ∧ W0.output = w2.output → W0.heap[g]? = some (.cells Z 86) → W0.heap[p3]? = some (.cells #[.slice (some ⟨g, 0, none⟩) n n, .int .i64 f, .int .i64 s] 28) → B ≤ g → B ≤ p3 → p3 ≠ g → p3 < B + 2 →
        Gro W0 B (.slice (some ⟨g, 0, none⟩) n n) n (rvK L 0) (List.replicate (n * 2) (.slice none 0 0)) ∧ ∀ (wr : World) (R : List Value), Gst W0 wr (.slice (some ⟨g, 0, none⟩) n n) (List.replicate (n * 2) (.slice none 0 0)) R → Below w.heap.size w wr ∧ wr.heap[p3]? = some (.cells #[.slice (some ⟨g, 0, none⟩) n n, .int .i64 f, .int .i64 s] 28) ∧ wr.heap[w.heap.size]? = some (.cells #[.slice so n sc, .int .i64 s, .int .i64 f] 28) ∧ wr.heap[w.heap.size + 1]? = some (.cells #[.slice none 0 0, .int .i64 0, .int .i64 0] 28) ∧ (∀ v ∈ R, v.ownBlock ≠ some p3) ∧ B + 2 ≤ wr.heap.size from fun W0 g p3 hsz ho ht hg hp hBg hBp hne hlt => by
      have hz1 := HSZ1.out
      have hb2 := HB2.out
      have hbz := hb2.size
      refine ⟨?_, fun wr R h => ?_⟩
      · rw [hZ] at hg
        have h := Gro.start (B := B) hg hBg (show n ≤ maxLen by unfold maxLen; omega)
        rw [HN.out] at h ⊢
        exact h
      · obtain ⟨h1, h2⟩ := h.old
        have hg2 := HGP.out
        refine ⟨⟨h.os.trans (ht.1.trans (hb2.os.trans HB1.out.os)), h.tape.trans (ht.2.1.trans (hb2.tape.trans HB1.out.tape)), h.output.trans (ht.2.2.trans (hb2.output.trans HB1.out.output)), by have := h.size; omega, fun k hk => ?_⟩, ?_, ?_, ?_, h2 p3 (by omega), by have := h.size; omega⟩
        · rw [h1 k (by omega) (by omega), ho k (by omega), hb2.block k (by omega), HB1.out.block k hk]
        · rw [h1 p3 (by omega) hne]; exact hp
        · rw [h1 _ (by omega) (by omega), ho _ (by omega), hb2.block _ (by omega)]; exact HQ1.out
        · rw [h1 _ (by omega) (by omega), ho _ (by omega), hb2.block _ (by omega)]; exact HQ2.out)
    clear hG hgd hZ hB HB2
    go_wp2_with fail
    refine wp_region_mixT (.one 0 1 (.one 1 1 (.one 2 1 (.one 4 1 (.one 5 1 (.one 6 1 (.one 7 1 (.two 3 9 (.one 8 1 (.one 9 2 (.one 10 2 .nil))) (.one 3 2 (.one 8 1 (.one 10 2 .nil))))))))))) (fun _ => True) (fun w' => w'.cell? ⟨w.heap.size, 0, none⟩ = some (.slice so n sc) ∧ w'.cell? ⟨w.heap.size, 1, none⟩ = some (.int .i64 s) ∧ w'.cell? ⟨w.heap.size, 2, none⟩ = some (.int .i64 f)) (fun _ => false) (by kernel_rfl) (by kernel_rfl) (fun j hj => by cases hj) rfl (by kernel_rfl) trivial ⟨d0, d1, d2⟩ ?_
    iterate 7 (refine mixT_t ?_ rfl (by kernel_rfl) (fun w' hS => ?_) ?_; (rotate_left; (obtain ⟨s1, s2, s3⟩ := hS; go_simp; with_reducible rfl); rotate_left))
    refine mixT_two ?xa ?xb
    case xa =>
      refine hand_go rfl (by kernel_rfl) fun KK hKK => ?_
      go_simp
      refine hKK _ _ (fun _ => trivial) ⟨cell_al d0, cell_al d1, cell_al d2⟩ ?_
      clear hKK KK
      refine mixT_t ?_ rfl (by kernel_rfl) (fun w' hS => ?_) ?_; (rotate_left; (go_simp; with_reducible rfl); rotate_left)
      refine mixT_go rfl (by kernel_rfl) fun KK hKK => ?_
      go_simp
      refine hKK _ _ (fun _ => trivial) ⟨cell_al (cell_al d0), cell_al (cell_al d1), cell_al (cell_al d2)⟩ ?_
      clear hKK KK
      refine mixT_go rfl (by kernel_rfl) fun KK hKK => ?_
      go_simp
      refine hKK _ _ (fun _ => trivial) ⟨cell_al (cell_al d0), cell_al (cell_al d1), cell_al (cell_al d2)⟩ ?_
      clear hKK KK
      refine mixT_end (NoPanic.normal ?_)
      obtain ⟨q1, q2, bW⟩ := alloc2 w2 (.cells Z 86) (.cells #[.slice (some ⟨w2.heap.size, 0, none⟩) n n, .int .i64 f, .int .i64 s] 28)
      obtain ⟨W0, hW⟩ : ∃ W, W = ((w2.alloc (.cells Z 86)).alloc (.cells #[.slice (some ⟨w2.heap.size, 0, none⟩) n n, .int .i64 f, .int .i64 s] 28)).drew := ⟨_, rfl⟩
      have hsW : W0.heap.size = B + 2 := by rw [hW, HBB.out]; show ((w2.alloc _).alloc _).heap.size = _; simp
      rw [← hW] at q1 q2 bW
      rw [← hW]
      obtain ⟨p3, hp3⟩ : ∃ z, z = w2.heap.size + 1 := ⟨_, rfl⟩
      obtain ⟨g, hg⟩ : ∃ z, z = w2.heap.size := ⟨_, rfl⟩
      rw [← hp3] at q2
      rw [← hp3]
      rw [← hg] at q1 q2
      rw [← hg]
      obtain ⟨hGR, hKP⟩ := HST0.out W0 g p3 hsW (fun b hb => bW.block b (by have := HBB.out; omega)) ⟨bW.os, bW.tape, bW.output⟩ q1 q2 (by have := HBB.out; omega) (by have := HBB.out; omega) (by omega) (by have := HBB.out; omega)
      have HGR := hid hGR
      have HKP := hid hKP
      have HGS := hid (show B ≤ g ∧ g < B + 2 ∧ p3 < B + 2 ∧ p3 ≠ g from by have := HBB.out; omega)
      clear hW hp3 hg q1 q2 bW hsW hGR hKP d0 d1 d2 HST0 M1 HBB
      go_wp2
      go_loopw [4] (fun y wr => ∃ i : Nat, y = .int .i64 i ∧ i ≤ n ∧ Hid (∃ R, Gro wr B (.slice (some ⟨g, 0, none⟩) n n) n (rvK L i) R ∧ Gst W0 wr (.slice (some ⟨g, 0, none⟩) n n) (List.replicate (n * 2) (.slice none 0 0)) R)) (fun y _ => n - (intOf y).toNat)
      case atStart => exact ⟨0, rfl, Nat.zero_le _, ⟨_, HGR.out, Gst.refl _ _ _⟩⟩
      case round =>
        clear HGR
        obtain ⟨i, rfl, hi, HI⟩ := hrel
        obtain ⟨R, hGr, hSt⟩ := HI.out
        clear HI
        have HG := hid hGr
        have HST := hid hSt
        obtain ⟨bw, hP, hn1, hz1, hno, hsz⟩ := HKP.out _ _ hSt
        have m0 : wr.cell? ⟨w.heap.size, 0, none⟩ = some (.slice so n sc) := by rw [cell_of_row wr w.heap.size 0 _ 28 (0, 0) hn1]; rfl
        clear hGr hSt
        by_cases hlt : i < n
        · have i3 : (i : Int) < (n : Int) := by omega
          have i0 : (0 : Int) ≤ (i : Int) := by omega
          have hiL : i < L.length := by have := HN.out; omega
          obtain ⟨E, F, hEF⟩ : ∃ E F, L[i]? = some (E, F) := ⟨L[i].1, _, List.getElem?_eq_getElem hiL⟩
          obtain ⟨a, ea, hab, eo, ec, fo, fc, f0w, f1w, hE, hF, _, _⟩ := HS.out i (E, F) hEF
          dsimp only at f0w f1w hE hF
          subst ea
          have f0 := (bw.cell (p := a.add (i * 2)) (by rw [add_blk]; exact hab)).trans f0w
          have f1 := (bw.cell (p := ⟨(a.add (i * 2)).block, (a.add (i * 2)).off + 1, none⟩) (show (a.add (i * 2)).block < _ by rw [add_blk]; exact hab)).trans f1w
          obtain ⟨en, hen⟩ : ∃ en, en = E.length := ⟨_, rfl⟩
          obtain ⟨fn, hfn⟩ : ∃ fn, fn = F.length := ⟨_, rfl⟩
          rw [← hen] at f0
          rw [← hfn] at f1
          have HEN := hid hen
          have HFN := hid hfn
          have HER := hid hE
          have HFR := hid hF
          have HEF := hid hEF
          have hle1 : en ≤ 1000000 := by
            have h1 := eS_in (List.mem_of_getElem? hEF)
            have h2 := HES.out
            dsimp only at h1
            omega
          have hle2 : fn ≤ 1000000 := by
            have h1 := fS_in (List.mem_of_getElem? hEF)
            have h2 := HFS.out
            dsimp only at h1
            omega
          obtain ⟨w5, hw5⟩ : ∃ w5, w5 = wr.alloc (.cells #[.slice eo en ec, .slice fo fn fc] 86) := ⟨_, rfl⟩
          obtain ⟨p5, hp5⟩ : ∃ p5, p5 = wr.heap.size := ⟨_, rfl⟩
          have hb5 : Below wr.heap.size wr w5 := by rw [hw5]; exact (Below.refl _ _).alloc (Nat.le_refl _) _
          have HG5 := hid (HG.out.keep hb5)
          have HST5 := hid (HST.out.trans (Gst.below hb5 _ _))
          have hgs := HGS.out
          have HP5 := hid (show ∀ (W : World) (R2 : List Value), Gst w5 W (.slice (some ⟨g, 0, none⟩) n n) R R2 → W.heap[p5]? = some (.cells #[.slice eo en ec, .slice fo fn fc] 86) ∧ (∀ v ∈ R2, v.ownBlock ≠ some p5) ∧ p5 ≠ g from fun W R2 h => by
            have hlR : ∀ v ∈ R, v.ownBlock ≠ some p5 := fun v hv e => by have := (HG.out.lts.2 v hv p5 e).2; omega
            refine ⟨?_, fun v hv e => ?_, by omega⟩
            · rw [h.block p5 (by rw [hw5, hp5]; simp) (fun e => by have e' : g = p5 := Option.some.inj e; omega) hlR, hw5]
              exact al_new _ _ hp5
            · obtain ⟨u, hu, e'⟩ := h.sub p5 (by rw [hw5, hp5]; simp) ⟨v, hv, e⟩
              exact hlR u hu e')
          have HW5 := hid hw5
          have HPP := hid hp5
          clear hen hfn hE hF f0w f1w hEF hab hiL hw5 hp5 hb5 hP hn1 hz1 hno HG HST hgs
          go_wp2
          rw [← HPP.out, ← HW5.out]
          clear HPP HW5 f0 f1 hsz bw m0
          go_loopw [6] (fun y wr => ∃ k : Nat, y = .int .i64 k ∧ k ≤ en ∧ Hid (∃ R', Gro wr B (.slice (some ⟨g, 0, none⟩) n n) n (rvE i (rvK L i) (E.take k)) R' ∧ Gst w5 wr (.slice (some ⟨g, 0, none⟩) n n) R R')) (fun y _ => en - (intOf y).toNat)
          case atStart => exact ⟨0, rfl, Nat.zero_le _, ⟨R, HG5.out, Gst.refl _ _ _⟩⟩
          case round =>
            clear HG5
            obtain ⟨k, rfl, hk, HI⟩ := hrel
            obtain ⟨R1, hGr, hSt⟩ := HI.out
            clear HI
            have HG := hid hGr
            have HST := hid hSt
            obtain ⟨bw, hP, hn1, hz1, hno, hsz⟩ := HKP.out _ _ (HST5.out.trans hSt)
            obtain ⟨hp5, hno5, hp5g⟩ := HP5.out _ _ hSt
            have y0 : wr.cell? ⟨p5, 0, none⟩ = some (.slice eo en ec) := by rw [cell_of_row wr p5 0 _ 86 (0, 0) hp5]; rfl
            by_cases hkl : k < en
            · have k3 : (k : Int) < (en : Int) := by omega
              have k0 : (0 : Int) ≤ (k : Int) := by omega
              have hkE : k < E.length := by have := HEN.out; omega
              obtain ⟨C, t, hCt⟩ : ∃ C t, E[k]? = some (C, t) := ⟨E[k].1, _, List.getElem?_eq_getElem hkE⟩
              obtain ⟨d, ed, hdb, co, cc, u0w, u1w, hC, _⟩ := HER.out k (C, t) hCt
              subst ed
              have htb := HGD.out.ge (u := i) (C := C) (t := t) ⟨_, HEF.out, List.mem_of_getElem? hCt⟩
              obtain ⟨tn, rfl⟩ : ∃ tn : Nat, t = (tn : Int) := ⟨t.toNat, by omega⟩
              dsimp only at u0w u1w hC
              have u0 := (bw.cell (p := d.add (k * 2)) (by rw [add_blk]; exact hdb)).trans u0w
              have u1 := (bw.cell (p := ⟨(d.add (k * 2)).block, (d.add (k * 2)).off + 1, none⟩) (show (d.add (k * 2)).block < _ by rw [add_blk]; exact hdb)).trans u1w
              have hcl : C.length ≤ 64 := HGD.out.lens _ (List.mem_of_getElem? HEF.out) _ (List.mem_of_getElem? hCt)
              obtain ⟨cn, hcn⟩ : ∃ cn, cn = C.length := ⟨_, rfl⟩
              rw [← hcn] at u0 hcl
              obtain ⟨E', F', hM⟩ : ∃ E' F', (rvE i (rvK L i) (E.take k))[tn]? = some (E', F') := ⟨_, _, List.getElem?_eq_getElem (by rw [rvE_len, rvK_len]; omega)⟩
              have hE' : E'.length ≤ 1000000 := by
                have h1 := (rv_small HGD.out (k := k) (m := 0) HEF.out).1
                have h2 := eS_in (List.mem_of_getElem? hM)
                have h3 := HES.out
                rw [List.take_zero] at h1
                have h4 : eS (rvE i (rvK L i) (E.take k)) ≤ eS L := h1
                dsimp only at h2
                omega
              have htn : tn < n := by have := HN.out; omega
              have t0 : (0 : Int) ≤ (tn : Int) := by omega
              have t1 : (tn : Int) < (n : Int) := by omega
              obtain ⟨go, gc, _, _, RE, r0, _, oE, gE, _, x0, _⟩ := HG.out.at hM
              obtain ⟨gn, hgn⟩ : ∃ gn, gn = E'.length := ⟨_, rfl⟩
              rw [← hgn] at x0 oE hE' r0
              have HM := hid hM
              have HR0 := hid r0
              have HOE := hid oE
              have HGE := hid gE
              have HGN := hid hgn
              have HC := hid hC
              have HCN := hid hcn
              have HCT := hid hCt
              have HBW := hid bw
              have hBs : B ≤ wr.heap.size := by omega
              have hww : w.heap.size ≤ B := by have := HGP.out; omega
              have hgs : g < wr.heap.size := (HG.out.lts.1 g rfl).2
              have HFO := hid (show ∀ k, (Value.slice go gn gc).ownBlock = some k → k ≠ p3 ∧ k ≠ g ∧ k < wr.heap.size ∧ k ≠ p5 ∧ B ≤ k from fun k hk => ⟨fun e => hno _ (List.mem_of_getElem? r0) (by rw [hk, e]), fun e => HG.out.off _ (List.mem_of_getElem? r0) k hk (by rw [e]; rfl), (oE.lt k hk).2, fun e => hno5 _ (List.mem_of_getElem? r0) (by rw [hk, e]), (oE.lt k hk).1⟩)
              have cP : wr.cell? ⟨p3, 0, none⟩ = some (.slice (some ⟨g, 0, none⟩) n n) := by rw [cell_of_row wr p3 0 _ 28 (0, 0) hP]; rfl
              have hdw : (d.add (k * 2)).block < w.heap.size := by rw [add_blk]; exact hdb
              clear hM r0 oE gE hgn hC hcn hCt hP hn1 hz1 hno hno5 hp5 hGr hSt hkE u0w u1w htb hdb bw hsz hp5g
              go_wp2_with fail
              clear u1
              refine wp_region_mix [(0, true), (1, true), (2, true), (3, true), (4, true), (5, true), (6, true), (7, true), (8, true), (10, true), (11, true), (12, true), (13, true), (14, true), (15, true), (17, true), (9, false), (16, false), (18, true), (19, false), (20, false), (21, false), (22, true), (23, false)] (fun w' => w'.cell? ⟨p3, 0, none⟩ = some (.slice (some ⟨g, 0, none⟩) n n) ∧ w'.cell? ⟨g, tn * 2, none⟩ = some (.slice go gn gc) ∧ w'.cell? ⟨p5, 0, none⟩ = some (.slice (some d) en ec) ∧ w'.cell? (d.add (k * 2)) = some (.slice co cn cc)) (fun j => j == 23) (by kernel_rfl) (by kernel_rfl) (fun j hj => by have := beq_iff_eq.1 hj; subst this; decide) rfl (by kernel_rfl) ⟨cP, x0, y0, u0⟩ ?_
              iterate 16 (refine mix_free ?_ rfl (by kernel_rfl) (fun w' hS => ?_) ?_; (rotate_left; (obtain ⟨s1, s2, s3, s4⟩ := hS; go_simp; with_reducible rfl); rotate_left))
              refine mix_go rfl (by kernel_rfl) fun KK hKK => ?_
              go_simp
              refine hKK _ _ (fun _ => ⟨cell_al cP, cell_al x0, cell_al y0, cell_al u0⟩) ?_
              clear hKK KK
              have HW5 := hid (show (wr.alloc (.cells #[] 3)).drew.ownsRow wr.heap.size 3 1 (.slice (some ⟨wr.heap.size, 0, none⟩) 0 0) 0 [] from (World.ownsRow_lit wr #[] 0 (Nat.le_refl _) (by decide) (by simp)).drew)
              have HB5 := hid (show Below wr.heap.size wr (wr.alloc (.cells #[] 3)).drew from ((Below.refl _ _).alloc (Nat.le_refl _) _).drew)
              refine mix_go rfl (by kernel_rfl) fun KK hKK => ?_
              refine wp_copy _ _ rfl wr.heap.size wr.heap.size rfl HW5.out co cn cc C rfl (HC.out.below (HBW.out.trans (HB5.out.mono HBW.out.size))) HCN.out (by omega) (by show wr.heap.size ≤ (wr.alloc _).heap.size; simp) ?_
              intro q4 qc4 w4 o4 gr4 hq4 hlt4
              have b4 : Below wr.heap.size wr w4 := HB5.out.grown gr4 (by show wr.heap.size ≤ (wr.alloc _).heap.size; simp) (fun k hk => by have e : wr.heap.size = k := Option.some.inj hk; omega)
              have hs4 : wr.heap.size ≤ w4.heap.size := b4.size
              have x4 := cell_bl b4 cP
              have v4 := cell_bl b4 x0
              have y4 := cell_bl b4 y0
              have u4 := cell_bl b4 u0
              refine hKK _ _ (fun _ => ⟨x4, v4, y4, u4⟩) ?_
              clear hKK KK
              refine mix_free ?_ rfl (by kernel_rfl) (fun w' hS => ?_) ?_; (rotate_left; (go_simp; with_reducible rfl); rotate_left)
              have HK4 := hid (show w4.ownsRow wr.heap.size 3 1 (.slice (some ⟨q4, 0, none⟩) cn qc4) cn (i64s C) from o4)
              have HB4 := hid (show ∀ b, b < wr.heap.size → w4.heap[b]? = wr.heap[b]? from fun b hb => b4.block b hb)
              have HT4 := hid (show w4.os = wr.os ∧ w4.tape = wr.tape ∧ w4.output = wr.output from ⟨b4.os, b4.tape, b4.output⟩)
              have HOE4 := hid (show w4.ownsRow B 88 2 (.slice go gn gc) gn RE from own_same HOE.out fun b _ hb => b4.block b hb)
              clear o4 gr4 hq4 hlt4 b4 HW5 HB5
              refine mix_go rfl (by kernel_rfl) fun KK hKK => ?_
              go_simp
              refine hKK _ _ (fun _ => ⟨cell_al x4, cell_al v4, cell_al y4, cell_al u4⟩) ?_
              clear hKK KK
              refine mix_go rfl (by kernel_rfl) fun KK hKK => ?_
              refine wp_append_lies _ _ _ 84 rfl B 88 i88 (.agg #[.slice none 0 0, .int .i64 0]) 2 32 Tryd.underlying84 hi88 he0 he1 he2 rfl (by decide) (.slice go gn gc) gn RE rfl (HOE4.out.alloc _) ⟨w4.heap.size, 0, none⟩ 1 1 [.slice (some ⟨q4, 0, none⟩) cn qc4, .int .i64 (i : Int)] rfl rfl (news_two w4 _ _ 88) (fun u hu => by simp at hu; rcases hu with h | h <;> rw [h] <;> rfl) (by decide) (by unfold maxLen; omega) (by omega) (by show B ≤ (w4.alloc _).heap.size; simp; omega) (w4.heap.size + 1) (by show (w4.alloc _).heap.size = _; simp) ?_
              intro q qc w8 o8 gr8 hl8 hlt8
              have hs8 : w4.heap.size + 1 ≤ w8.heap.size := by
                have h : (w4.alloc (.cells #[.slice (some ⟨q4, 0, none⟩) cn qc4, .int .i64 (i : Int)] 88)).heap.size ≤ w8.heap.size := gr8.size
                simpa using h
              have hblk48 : ∀ b, b < w4.heap.size → (Value.slice go gn gc).ownBlock ≠ some b → w8.heap[b]? = w4.heap[b]? := fun b hb hne => (gr8.block b (by show b < (w4.alloc _).heap.size; simp; omega) (fun e => hne e.symm)).trans (al_old w4 _ hb)
              have hblk8 : ∀ b, b < wr.heap.size → (Value.slice go gn gc).ownBlock ≠ some b → w8.heap[b]? = wr.heap[b]? := fun b hb hne => (hblk48 b (by omega) hne).trans (HB4.out b hb)
              have hg8 : w8.heap[g]? = wr.heap[g]? := hblk8 g hgs fun e => (HFO.out g e).2.1 rfl
              have x8 : w8.cell? ⟨p3, 0, none⟩ = some (.slice (some ⟨g, 0, none⟩) n n) := (World.cell?_of_block (hblk8 p3 (World.block_lt_of_cell? wr _ cP) (fun e => (HFO.out p3 e).1 rfl))).trans cP
              have v8 : w8.cell? ⟨g, tn * 2, none⟩ = some (.slice go gn gc) := (World.cell?_of_block hg8).trans x0
              have y8 : w8.cell? ⟨p5, 0, none⟩ = some (.slice (some d) en ec) := (World.cell?_of_block (hblk8 p5 (World.block_lt_of_cell? wr _ y0) (fun e => (HFO.out p5 e).2.2.2.1 rfl))).trans y0
              have u8 : w8.cell? (d.add (k * 2)) = some (.slice co cn cc) := (World.cell?_of_block (hblk8 _ (World.block_lt_of_cell? wr _ u0) (fun e => by have := (HFO.out _ e).2.2.2.2; omega))).trans u0
              have orow : w8.ownsRow B 86 2 (.slice (some ⟨g, 0, none⟩) n n) n R1 := own_same HG.out.row fun k hk _ => by
                have e : g = k := Option.some.inj hk
                rw [← e]; exact hg8
              have fz := orow.frozenAt (tn * 2)
              refine hKK _ _ (fun _ => ⟨x8, v8, y8, u8⟩) ?_
              clear hKK KK
              refine mix_go rfl (by kernel_rfl) fun KK hKK => ?_
              go_simp
              refine hKK _ _ (fun _ => ⟨x8, v8, y8, u8⟩) ?_
              clear hKK KK
              refine mix_free ?_ rfl (by kernel_rfl) (fun w' hS => ?_) ?_; (rotate_left; (obtain ⟨s1, s2, s3, s4⟩ := hS; go_simp; with_reducible rfl); rotate_left)
              have HO8 := hid o8
              have HROW := hid orow
              have HB8 := hid hblk8
              have HB48 := hid hblk48
              have HS8 := hid hs8
              have HS4 := hid hs4
              have HL8 := hid hl8
              have HT8 := hid (show w8.os = wr.os ∧ w8.tape = wr.tape ∧ w8.output = wr.output from ⟨(show w8.os = w4.os from gr8.os).trans HT4.out.1, (show w8.tape = w4.tape from gr8.tape).trans HT4.out.2.1, (show w8.output = w4.output from gr8.output).trans HT4.out.2.2⟩)
              clear o8 gr8 hl8 hlt8 hs8 hblk8 hblk48 orow hg8 hs4 x4 y4 v4 u4
              refine mix_go rfl (by kernel_rfl) fun KK hKK => ?_
              go_simp
              refine hKK _ _ (fun h => by cases h) ?_
              clear hKK KK
              refine mix_end (NoPanic.normal ?_)
              have hst := HROW.out.stored (tn * 2) (.slice (some ⟨q, 0, none⟩) (gn + 1) qc)
              have hset : ∀ b, b ≠ g → (w8.setCell ⟨g, tn * 2, none⟩ (.slice (some ⟨q, 0, none⟩) (gn + 1) qc)).heap[b]? = w8.heap[b]? := fun b hb => heap_setCell_other w8 ⟨g, tn * 2, none⟩ b _ (fun e => hb e)
              have hss : (w8.setCell ⟨g, tn * 2, none⟩ (.slice (some ⟨q, 0, none⟩) (gn + 1) qc)).heap.size = w8.heap.size := by simp
              have hs4 := HS4.out
              have hs8 := HS8.out
              have hv : ∀ b, (Value.slice (some ⟨q, 0, none⟩) (gn + 1) qc).ownBlock = some b → (Value.slice go gn gc).ownBlock = some b ∨ wr.heap.size ≤ b := fun b hb => by
                have e : q = b := Option.some.inj hb
                rcases HL8.out with h | h
                · exact .inl (e ▸ h)
                · exact .inr (by omega)
              have hk' : ∀ k, k < wr.heap.size → (Value.slice (some ⟨g, 0, none⟩) n n).ownBlock ≠ some k → (Value.slice go gn gc).ownBlock ≠ some k → (w8.setCell ⟨g, tn * 2, none⟩ (.slice (some ⟨q, 0, none⟩) (gn + 1) qc)).heap[k]? = wr.heap[k]? := fun k hk h1 h2 => (hset k (fun e => h1 (by rw [e]; rfl))).trans (HB8.out k hk h2)
              have hs9 : wr.heap.size ≤ (w8.setCell ⟨g, tn * 2, none⟩ (.slice (some ⟨q, 0, none⟩) (gn + 1) qc)).heap.size := by rw [hss]; omega
              have hqg : q ≠ g := fun e => by
                rcases HL8.out with h | h
                · exact (HFO.out q h).2.1 e
                · omega
              have hq4b := HK4.out.lt q4 rfl
              have hq4q : q4 ≠ q := fun e => by
                rcases HL8.out with h | h
                · have := (HFO.out q h).2.2.1; omega
                · omega
              have HG2 := hid (show Gro (w8.setCell ⟨g, tn * 2, none⟩ (.slice (some ⟨q, 0, none⟩) (gn + 1) qc)) B (.slice (some ⟨g, 0, none⟩) n n) n (adE (rvE i (rvK L i) (E.take k)) tn (C, (i : Int))) (R1.set (tn * 2) (.slice (some ⟨q, 0, none⟩) (gn + 1) qc)) from by
                refine HG.out.addE (co := some ⟨q4, 0, none⟩) (cc := qc4) HM.out HR0.out (by rw [← HGN.out]; exact HOE.out) HGE.out hs9 hk' hst.1 hv ?_ ?_ (fun _ b hb => ?_)
                · rw [← HGN.out, ← HCN.out]
                  exact own_same HO8.out fun b hb _ => hset b (by have e : q = b := Option.some.inj hb; omega)
                · rw [← HCN.out]
                  refine .inr ?_
                  rw [← HCN.out]
                  refine own_same (own_mono' HK4.out hBs) fun b hb hl => ?_
                  have e : q4 = b := Option.some.inj hb
                  subst e
                  rw [hset q4 (by omega), HB48.out q4 hl (fun e => by have := (HFO.out q4 e).2.2.1; omega)]
                · have e : q4 = b := Option.some.inj hb
                  subst e
                  exact ⟨hq4b.1, fun e => hq4q (Option.some.inj e).symm⟩)
              have HST2 := hid (HST.out.trans (Gst.put (w' := w8.setCell ⟨g, tn * 2, none⟩ (.slice (some ⟨q, 0, none⟩) (gn + 1) qc)) HR0.out HT8.out.1 HT8.out.2.1 HT8.out.2.2 hs9 hk' hv))
              clear hst hset hss hs4 hs8 hv hk' hs9 hqg hq4b hq4q HG HST
              go_wp2
              go_roundw
              case rel => exact ⟨k + 1, by go_num, by omega, ⟨_, by rw [rvE_take HCT.out]; exact HG2.out, HST2.out⟩⟩
              case measure => simp [intOf]; omega
            · have k3 : ¬ (k : Int) < (en : Int) := by omega
              have HT := hid (show E.take k = E from List.take_of_length_le (by have := HEN.out; omega))
              rw [HT.out] at HG
              have y1 : wr.cell? ⟨p5, 1, none⟩ = some (.slice fo fn fc) := by rw [cell_of_row wr p5 1 _ 86 (0, 0) hp5]; rfl
              clear HT hp5 hno5 hp5g bw hP hn1 hz1 hno hsz hGr hSt
              go_wp2
              clear y1 y0
              go_loopw [8] (fun y wr => ∃ k : Nat, y = .int .i64 k ∧ k ≤ fn ∧ Hid (∃ R', Gro wr B (.slice (some ⟨g, 0, none⟩) n n) n (rvF i (rvE i (rvK L i) E) (F.take k)) R' ∧ Gst w5 wr (.slice (some ⟨g, 0, none⟩) n n) R R')) (fun y _ => fn - (intOf y).toNat)
              case atStart => exact ⟨0, rfl, Nat.zero_le _, ⟨R1, HG.out, HST.out⟩⟩
              case round =>
                clear HG HST
                obtain ⟨m, rfl, hm, HI⟩ := hrel
                obtain ⟨R2, hGr, hSt⟩ := HI.out
                clear HI
                have HG := hid hGr
                have HST := hid hSt
                obtain ⟨bw, hP, hn1, hz1, hno, hsz⟩ := HKP.out _ _ (HST5.out.trans hSt)
                obtain ⟨hp5, hno5, hp5g⟩ := HP5.out _ _ hSt
                have y1 : wr.cell? ⟨p5, 1, none⟩ = some (.slice fo fn fc) := by rw [cell_of_row wr p5 1 _ 86 (0, 0) hp5]; rfl
                by_cases hml : m < fn
                · have m3 : (m : Int) < (fn : Int) := by omega
                  have m0 : (0 : Int) ≤ (m : Int) := by omega
                  have hmF : m < F.length := by have := HFN.out; omega
                  obtain ⟨t, hFt⟩ : ∃ t, F[m]? = some t := ⟨_, List.getElem?_eq_getElem hmF⟩
                  obtain ⟨d, ed, hdb, u0w⟩ := HFR.out m t hFt
                  subst ed
                  have htb := HGD.out.gf (u := i) (t := t) ⟨_, HEF.out, List.mem_of_getElem? hFt⟩
                  obtain ⟨tn, rfl⟩ : ∃ tn : Nat, t = (tn : Int) := ⟨t.toNat, by omega⟩
                  have u0 := (bw.cell (p := d.add m) (by rw [add_blk]; exact hdb)).trans u0w
                  obtain ⟨E', F', hM⟩ : ∃ E' F', (rvF i (rvE i (rvK L i) E) (F.take m))[tn]? = some (E', F') := ⟨_, _, List.getElem?_eq_getElem (by rw [rvF_len, rvE_len, rvK_len]; omega)⟩
                  have hF' : F'.length ≤ 1000000 := by
                    have h1 := (rv_small HGD.out (k := E.length) (m := m) HEF.out).2
                    have h2 := fS_in (List.mem_of_getElem? hM)
                    have h3 := HFS.out
                    rw [List.take_of_length_le (Nat.le_refl _)] at h1
                    dsimp only at h2
                    omega
                  have htn : tn < n := by have := HN.out; omega
                  have t0 : (0 : Int) ≤ (tn : Int) := by omega
                  have t1 : (tn : Int) < (n : Int) := by omega
                  obtain ⟨_, _, go, gc, _, _, r1, _, _, oF, _, x1⟩ := HG.out.at hM
                  obtain ⟨gn, hgn⟩ : ∃ gn, gn = F'.length := ⟨_, rfl⟩
                  rw [← hgn] at x1 oF hF' r1
                  have HM := hid hM
                  have HR1 := hid r1
                  have HOF := hid oF
                  have HGN := hid hgn
                  have HCT := hid hFt
                  have hBs : B ≤ wr.heap.size := by omega
                  have hgs : g < wr.heap.size := (HG.out.lts.1 g rfl).2
                  have HFO := hid (show ∀ k, (Value.slice go gn gc).ownBlock = some k → k ≠ p3 ∧ k ≠ g ∧ k < wr.heap.size from fun k hk => ⟨fun e => hno _ (List.mem_of_getElem? r1) (by rw [hk, e]), fun e => HG.out.off _ (List.mem_of_getElem? r1) k hk (by rw [e]; rfl), (oF.lt k hk).2⟩)
                  have cP : wr.cell? ⟨p3, 0, none⟩ = some (.slice (some ⟨g, 0, none⟩) n n) := by rw [cell_of_row wr p3 0 _ 28 (0, 0) hP]; rfl
                  clear hM r1 oF hgn hFt hP hn1 hz1 hno hno5 hp5 hGr hSt hmF u0w htb hdb bw hsz hp5g
                  go_wp2_with fail
                  clear u0
                  refine wp_region_mix [(0, true), (1, true), (2, true), (3, true), (4, true), (5, true), (6, true), (7, true), (8, true), (9, true), (10, false), (11, false), (12, false), (13, true), (14, false)] (fun w' => w'.cell? ⟨p3, 0, none⟩ = some (.slice (some ⟨g, 0, none⟩) n n) ∧ w'.cell? ⟨g, tn * 2 + 1, none⟩ = some (.slice go gn gc)) (fun j => j == 14) (by kernel_rfl) (by kernel_rfl) (fun j hj => by have := beq_iff_eq.1 hj; subst this; decide) rfl (by kernel_rfl) ⟨cP, x1⟩ ?_
                  iterate 10 (refine mix_free ?_ rfl (by kernel_rfl) (fun w' hS => ?_) ?_; (rotate_left; (obtain ⟨s1, s2⟩ := hS; go_simp; with_reducible rfl); rotate_left))
                  refine mix_go rfl (by kernel_rfl) fun KK hKK => ?_
                  go_simp
                  refine hKK _ _ (fun _ => ⟨cell_al cP, cell_al x1⟩) ?_
                  clear hKK KK
                  refine mix_go rfl (by kernel_rfl) fun KK hKK => ?_
                  refine wp_append_lies _ _ _ 22 rfl B 3 i3x (.int .i64 0) 1 8 Tryd.underlying22 hi3 hz0 hz1' hz2 rfl (by decide) (.slice go gn gc) gn (i64s F') rfl (HOF.out.alloc _).drew ⟨wr.heap.size, 0, none⟩ 1 1 [.int .i64 (i : Int)] rfl rfl (news1 wr _ 3) (fun u hu => by simp at hu; rw [hu]; rfl) (by decide) (by unfold maxLen; omega) (by omega) (by show B ≤ (wr.alloc _).heap.size; simp; omega) (wr.heap.size + 1) (by show (wr.alloc _).heap.size = _; simp) ?_
                  intro q qc w8 o8 gr8 hl8 hlt8
                  have hs8 : wr.heap.size + 1 ≤ w8.heap.size := by
                    have h : (wr.alloc (.cells #[.int .i64 (i : Int)] 3)).heap.size ≤ w8.heap.size := gr8.size
                    simpa using h
                  have hblk8 : ∀ b, b < wr.heap.size → (Value.slice go gn gc).ownBlock ≠ some b → w8.heap[b]? = wr.heap[b]? := fun b hb hne => (gr8.block b (by show b < (wr.alloc _).heap.size; simp; omega) (fun e => hne e.symm)).trans (al_old wr _ hb)
                  have hg8 : w8.heap[g]? = wr.heap[g]? := hblk8 g hgs fun e => (HFO.out g e).2.1 rfl
                  have x8 : w8.cell? ⟨p3, 0, none⟩ = some (.slice (some ⟨g, 0, none⟩) n n) := (World.cell?_of_block (hblk8 p3 (World.block_lt_of_cell? wr _ cP) (fun e => (HFO.out p3 e).1 rfl))).trans cP
                  have v8 : w8.cell? ⟨g, tn * 2 + 1, none⟩ = some (.slice go gn gc) := (World.cell?_of_block hg8).trans x1
                  have orow : w8.ownsRow B 86 2 (.slice (some ⟨g, 0, none⟩) n n) n R2 := own_same HG.out.row fun k hk _ => by
                    have e : g = k := Option.some.inj hk
                    rw [← e]; exact hg8
                  have fz := orow.frozenAt (tn * 2 + 1)
                  refine hKK _ _ (fun _ => ⟨x8, v8⟩) ?_
                  clear hKK KK
                  refine mix_go rfl (by kernel_rfl) fun KK hKK => ?_
                  go_simp
                  refine hKK _ _ (fun _ => ⟨x8, v8⟩) ?_
                  clear hKK KK
                  refine mix_free ?_ rfl (by kernel_rfl) (fun w' hS => ?_) ?_; (rotate_left; (obtain ⟨s1, s2⟩ := hS; go_simp; with_reducible rfl); rotate_left)
                  have HO8 := hid o8
                  have HROW := hid orow
                  have HB8 := hid hblk8
                  have HS8 := hid hs8
                  have HL8 := hid hl8
                  have HT8 := hid (show w8.os = wr.os ∧ w8.tape = wr.tape ∧ w8.output = wr.output from ⟨gr8.os, gr8.tape, gr8.output⟩)
                  clear o8 gr8 hl8 hlt8 hs8 hblk8 orow hg8
                  refine mix_go rfl (by kernel_rfl) fun KK hKK => ?_
                  go_simp
                  refine hKK _ _ (fun h => by cases h) ?_
                  clear hKK KK
                  refine mix_end (NoPanic.normal ?_)
                  have hst := HROW.out.stored (tn * 2 + 1) (.slice (some ⟨q, 0, none⟩) (gn + 1) qc)
                  have hset : ∀ b, b ≠ g → (w8.setCell ⟨g, tn * 2 + 1, none⟩ (.slice (some ⟨q, 0, none⟩) (gn + 1) qc)).heap[b]? = w8.heap[b]? := fun b hb => heap_setCell_other w8 ⟨g, tn * 2 + 1, none⟩ b _ (fun e => hb e)
                  have hss : (w8.setCell ⟨g, tn * 2 + 1, none⟩ (.slice (some ⟨q, 0, none⟩) (gn + 1) qc)).heap.size = w8.heap.size := by simp
                  have hs8 := HS8.out
                  have hv : ∀ b, (Value.slice (some ⟨q, 0, none⟩) (gn + 1) qc).ownBlock = some b → (Value.slice go gn gc).ownBlock = some b ∨ wr.heap.size ≤ b := fun b hb => by
                    have e : q = b := Option.some.inj hb
                    rcases HL8.out with h | h
                    · exact .inl (e ▸ h)
                    · exact .inr (by omega)
                  have hk' : ∀ k, k < wr.heap.size → (Value.slice (some ⟨g, 0, none⟩) n n).ownBlock ≠ some k → (Value.slice go gn gc).ownBlock ≠ some k → (w8.setCell ⟨g, tn * 2 + 1, none⟩ (.slice (some ⟨q, 0, none⟩) (gn + 1) qc)).heap[k]? = wr.heap[k]? := fun k hk h1 h2 => (hset k (fun e => h1 (by rw [e]; rfl))).trans (HB8.out k hk h2)
                  have hs9 : wr.heap.size ≤ (w8.setCell ⟨g, tn * 2 + 1, none⟩ (.slice (some ⟨q, 0, none⟩) (gn + 1) qc)).heap.size := by rw [hss]; omega
                  have hqg : q ≠ g := fun e => by
                    rcases HL8.out with h | h
                    · exact (HFO.out q h).2.1 e
                    · omega
                  have HG2 := hid (show Gro (w8.setCell ⟨g, tn * 2 + 1, none⟩ (.slice (some ⟨q, 0, none⟩) (gn + 1) qc)) B (.slice (some ⟨g, 0, none⟩) n n) n (adF (rvF i (rvE i (rvK L i) E) (F.take m)) tn (i : Int)) (R2.set (tn * 2 + 1) (.slice (some ⟨q, 0, none⟩) (gn + 1) qc)) from by
                    refine HG.out.addF HM.out HR1.out hs9 hk' hst.1 hv ?_
                    rw [← HGN.out]
                    exact own_same HO8.out fun b hb _ => hset b (by have e : q = b := Option.some.inj hb; omega))
                  have HST2 := hid (HST.out.trans (Gst.put (w' := w8.setCell ⟨g, tn * 2 + 1, none⟩ (.slice (some ⟨q, 0, none⟩) (gn + 1) qc)) HR1.out HT8.out.1 HT8.out.2.1 HT8.out.2.2 hs9 hk' hv))
                  clear hst hset hss hs8 hv hk' hs9 hqg HG HST
                  go_wp2
                  go_roundw
                  case rel => exact ⟨m + 1, by go_num, by omega, ⟨_, by rw [rvF_take HCT.out]; exact HG2.out, HST2.out⟩⟩
                  case measure => simp [intOf]; omega
                · have m3 : ¬ (m : Int) < (fn : Int) := by omega
                  have HT := hid (show F.take m = F from List.take_of_length_le (by have := HFN.out; omega))
                  rw [HT.out] at HG
                  have HG2 := hid (show Gro wr B (.slice (some ⟨g, 0, none⟩) n n) n (rvK L (i + 1)) R2 by rw [rvK_next HEF.out]; exact HG.out)
                  have HST2 := hid (HST5.out.trans HST.out)
                  clear HT HG HST bw hP hn1 hz1 hno hsz hGr hSt hp5 hno5 hp5g
                  go_wp2
                  go_roundw
                  case rel => exact ⟨i + 1, by go_num, by omega, ⟨R2, HG2.out, HST2.out⟩⟩
                  case measure => simp [intOf]; omega
        · have i3 : ¬ (i : Int) < (n : Int) := by omega
          have hin : i = n := by omega
          subst hin
          have r0 : wr.cell? ⟨p3, 0, none⟩ = some (.slice (some ⟨g, 0, none⟩) i i) := by rw [cell_of_row wr p3 0 _ 28 (0, 0) hP]; rfl
          have c1 : wr.cell? ⟨p3, 1, none⟩ = some (.int .i64 f) := by rw [cell_of_row wr p3 1 _ 28 (0, 0) hP]; rfl
          have c2 : wr.cell? ⟨p3, 2, none⟩ = some (.int .i64 s) := by rw [cell_of_row wr p3 2 _ 28 (0, 0) hP]; rfl
          have z0 := frozen_of_row wr (w.heap.size + 1) 0 _ 28 hz1
          have z1 := frozen_of_row wr (w.heap.size + 1) 1 _ 28 hz1
          have z2 := frozen_of_row wr (w.heap.size + 1) 2 _ 28 hz1
          have y0 : wr.cell? ⟨w.heap.size + 1, 0, none⟩ = some (.slice none 0 0) := by rw [cell_of_row wr (w.heap.size + 1) 0 _ 28 (0, 0) hz1]; rfl
          have y1 : wr.cell? ⟨w.heap.size + 1, 1, none⟩ = some (.int .i64 0) := by rw [cell_of_row wr (w.heap.size + 1) 1 _ 28 (0, 0) hz1]; rfl
          have y2 : wr.cell? ⟨w.heap.size + 1, 2, none⟩ = some (.int .i64 0) := by rw [cell_of_row wr (w.heap.size + 1) 2 _ 28 (0, 0) hz1]; rfl
          have HR := hid hz1
          have HBW := hid bw
          have hgg : w.heap.size + 2 ≤ B := HGP.out
          clear hz1 bw hP hn1 hno
          go_wp2
          (try simp only [Exit.inBlock, Exit.then])
          have e1 := heap_setCell_same wr (w.heap.size + 1) 0 _ 28 (.slice (some ⟨g, 0, none⟩) i i) HR.out
          have e2 := heap_setCell_same _ (w.heap.size + 1) 1 _ 28 (.int .i64 f) e1
          have e3 := heap_setCell_same _ (w.heap.size + 1) 2 _ 28 (.int .i64 s) e2
          refine bodyPost_ret (results_cell_row rfl _ _ (w.heap.size + 1) 28 #[.slice (some ⟨g, 0, none⟩) i i, .int .i64 f, .int .i64 s] (0, 0) _ rfl e3 Tryd.underlying28 rfl (by kernel_rfl)) rfl ?_
          have hoth : ∀ b, b ≠ w.heap.size + 1 → (((wr.setCell ⟨w.heap.size + 1, 0, none⟩ (.slice (some ⟨g, 0, none⟩) i i)).setCell ⟨w.heap.size + 1, 1, none⟩ (.int .i64 f)).setCell ⟨w.heap.size + 1, 2, none⟩ (.int .i64 s)).heap[b]? = wr.heap[b]? := fun b hb => by
            rw [heap_setCell_other _ ⟨w.heap.size + 1, 2, none⟩ b _ (fun e => hb e), heap_setCell_other _ ⟨w.heap.size + 1, 1, none⟩ b _ (fun e => hb e), heap_setCell_other _ ⟨w.heap.size + 1, 0, none⟩ b _ (fun e => hb e)]
          have hfin : Below w.heap.size w (((wr.setCell ⟨w.heap.size + 1, 0, none⟩ (.slice (some ⟨g, 0, none⟩) i i)).setCell ⟨w.heap.size + 1, 1, none⟩ (.int .i64 f)).setCell ⟨w.heap.size + 1, 2, none⟩ (.int .i64 s)) := HBW.out.trans ⟨rfl, rfl, rfl, by simp, fun b hb => hoth b (by omega)⟩
          have hrv : rvK L i = rv L := by rw [HN.out]; rfl
          refine ⟨B, _, _, _, rv L, R, f, s, rfl, ⟨fun _ => ⟨rfl, rfl, rfl⟩, fun h => by rw [HGB.out] at h; cases h⟩, by omega, (by have h : B ≤ wr.heap.size := (by omega); simpa using h), ?_, hfin⟩
          rw [← hrv]
          exact HG.out.keep2 (by simp) fun k hk _ => hoth k (by omega)
    case xb =>
      refine hand_go rfl (by kernel_rfl) fun KK hKK => ?_
      go_simp
      refine hKK _ _ (fun _ => trivial) ⟨cell_al d0, cell_al d1, cell_al d2⟩ ?_
      clear hKK KK
      refine mixT_go rfl (by kernel_rfl) fun KK hKK => ?_
      go_simp
      refine hKK _ _ (fun _ => trivial) ⟨cell_al (cell_al d0), cell_al (cell_al d1), cell_al (cell_al d2)⟩ ?_
      clear hKK KK
      refine mixT_t ?_ rfl (by kernel_rfl) (fun w' hS => ?_) ?_; (rotate_left; (go_simp; with_reducible rfl); rotate_left)
      refine mixT_go rfl (by kernel_rfl) fun KK hKK => ?_
      go_simp
      refine hKK _ _ (fun _ => trivial) ⟨cell_al (cell_al d0), cell_al (cell_al d1), cell_al (cell_al d2)⟩ ?_
      clear hKK KK
      refine mixT_end (NoPanic.normal ?_)
      obtain ⟨q2, q1, bW⟩ := alloc2 w2 (.cells #[.slice (some ⟨w2.heap.size + 1, 0, none⟩) n n, .int .i64 f, .int .i64 s] 28) (.cells Z 86)
      obtain ⟨W0, hW⟩ : ∃ W, W = ((w2.alloc (.cells #[.slice (some ⟨w2.heap.size + 1, 0, none⟩) n n, .int .i64 f, .int .i64 s] 28)).alloc (.cells Z 86)).drew := ⟨_, rfl⟩
      have hsW : W0.heap.size = B + 2 := by rw [hW, HBB.out]; show ((w2.alloc _).alloc _).heap.size = _; simp
      rw [← hW] at q1 q2 bW
      rw [← hW]
      obtain ⟨g, hg⟩ : ∃ z, z = w2.heap.size + 1 := ⟨_, rfl⟩
      obtain ⟨p3, hp3⟩ : ∃ z, z = w2.heap.size := ⟨_, rfl⟩
      rw [← hg] at q1 q2
      rw [← hg]
      rw [← hp3] at q2
      rw [← hp3]
      obtain ⟨hGR, hKP⟩ := HST0.out W0 g p3 hsW (fun b hb => bW.block b (by have := HBB.out; omega)) ⟨bW.os, bW.tape, bW.output⟩ q1 q2 (by have := HBB.out; omega) (by have := HBB.out; omega) (by omega) (by have := HBB.out; omega)
      have HGR := hid hGR
      have HKP := hid hKP
      have HGS := hid (show B ≤ g ∧ g < B + 2 ∧ p3 < B + 2 ∧ p3 ≠ g from by have := HBB.out; omega)
      clear hW hp3 hg q1 q2 bW hsW hGR hKP d0 d1 d2 HST0 M1 HBB
      go_wp2
      go_loopw [4] (fun y wr => ∃ i : Nat, y = .int .i64 i ∧ i ≤ n ∧ Hid (∃ R, Gro wr B (.slice (some ⟨g, 0, none⟩) n n) n (rvK L i) R ∧ Gst W0 wr (.slice (some ⟨g, 0, none⟩) n n) (List.replicate (n * 2) (.slice none 0 0)) R)) (fun y _ => n - (intOf y).toNat)
      case atStart => exact ⟨0, rfl, Nat.zero_le _, ⟨_, HGR.out, Gst.refl _ _ _⟩⟩
      case round =>
        clear HGR
        obtain ⟨i, rfl, hi, HI⟩ := hrel
        obtain ⟨R, hGr, hSt⟩ := HI.out
        clear HI
        have HG := hid hGr
        have HST := hid hSt
        obtain ⟨bw, hP, hn1, hz1, hno, hsz⟩ := HKP.out _ _ hSt
        have m0 : wr.cell? ⟨w.heap.size, 0, none⟩ = some (.slice so n sc) := by rw [cell_of_row wr w.heap.size 0 _ 28 (0, 0) hn1]; rfl
        clear hGr hSt
        by_cases hlt : i < n
        · have i3 : (i : Int) < (n : Int) := by omega
          have i0 : (0 : Int) ≤ (i : Int) := by omega
          have hiL : i < L.length := by have := HN.out; omega
          obtain ⟨E, F, hEF⟩ : ∃ E F, L[i]? = some (E, F) := ⟨L[i].1, _, List.getElem?_eq_getElem hiL⟩
          obtain ⟨a, ea, hab, eo, ec, fo, fc, f0w, f1w, hE, hF, _, _⟩ := HS.out i (E, F) hEF
          dsimp only at f0w f1w hE hF
          subst ea
          have f0 := (bw.cell (p := a.add (i * 2)) (by rw [add_blk]; exact hab)).trans f0w
          have f1 := (bw.cell (p := ⟨(a.add (i * 2)).block, (a.add (i * 2)).off + 1, none⟩) (show (a.add (i * 2)).block < _ by rw [add_blk]; exact hab)).trans f1w
          obtain ⟨en, hen⟩ : ∃ en, en = E.length := ⟨_, rfl⟩
          obtain ⟨fn, hfn⟩ : ∃ fn, fn = F.length := ⟨_, rfl⟩
          rw [← hen] at f0
          rw [← hfn] at f1
          have HEN := hid hen
          have HFN := hid hfn
          have HER := hid hE
          have HFR := hid hF
          have HEF := hid hEF
          have hle1 : en ≤ 1000000 := by
            have h1 := eS_in (List.mem_of_getElem? hEF)
            have h2 := HES.out
            dsimp only at h1
            omega
          have hle2 : fn ≤ 1000000 := by
            have h1 := fS_in (List.mem_of_getElem? hEF)
            have h2 := HFS.out
            dsimp only at h1
            omega
          obtain ⟨w5, hw5⟩ : ∃ w5, w5 = wr.alloc (.cells #[.slice eo en ec, .slice fo fn fc] 86) := ⟨_, rfl⟩
          obtain ⟨p5, hp5⟩ : ∃ p5, p5 = wr.heap.size := ⟨_, rfl⟩
          have hb5 : Below wr.heap.size wr w5 := by rw [hw5]; exact (Below.refl _ _).alloc (Nat.le_refl _) _
          have HG5 := hid (HG.out.keep hb5)
          have HST5 := hid (HST.out.trans (Gst.below hb5 _ _))
          have hgs := HGS.out
          have HP5 := hid (show ∀ (W : World) (R2 : List Value), Gst w5 W (.slice (some ⟨g, 0, none⟩) n n) R R2 → W.heap[p5]? = some (.cells #[.slice eo en ec, .slice fo fn fc] 86) ∧ (∀ v ∈ R2, v.ownBlock ≠ some p5) ∧ p5 ≠ g from fun W R2 h => by
            have hlR : ∀ v ∈ R, v.ownBlock ≠ some p5 := fun v hv e => by have := (HG.out.lts.2 v hv p5 e).2; omega
            refine ⟨?_, fun v hv e => ?_, by omega⟩
            · rw [h.block p5 (by rw [hw5, hp5]; simp) (fun e => by have e' : g = p5 := Option.some.inj e; omega) hlR, hw5]
              exact al_new _ _ hp5
            · obtain ⟨u, hu, e'⟩ := h.sub p5 (by rw [hw5, hp5]; simp) ⟨v, hv, e⟩
              exact hlR u hu e')
          have HW5 := hid hw5
          have HPP := hid hp5
          clear hen hfn hE hF f0w f1w hEF hab hiL hw5 hp5 hb5 hP hn1 hz1 hno HG HST hgs
          go_wp2
          rw [← HPP.out, ← HW5.out]
          clear HPP HW5 f0 f1 hsz bw m0
          go_loopw [6] (fun y wr => ∃ k : Nat, y = .int .i64 k ∧ k ≤ en ∧ Hid (∃ R', Gro wr B (.slice (some ⟨g, 0, none⟩) n n) n (rvE i (rvK L i) (E.take k)) R' ∧ Gst w5 wr (.slice (some ⟨g, 0, none⟩) n n) R R')) (fun y _ => en - (intOf y).toNat)
          case atStart => exact ⟨0, rfl, Nat.zero_le _, ⟨R, HG5.out, Gst.refl _ _ _⟩⟩
          case round =>
            clear HG5
            obtain ⟨k, rfl, hk, HI⟩ := hrel
            obtain ⟨R1, hGr, hSt⟩ := HI.out
            clear HI
            have HG := hid hGr
            have HST := hid hSt
            obtain ⟨bw, hP, hn1, hz1, hno, hsz⟩ := HKP.out _ _ (HST5.out.trans hSt)
            obtain ⟨hp5, hno5, hp5g⟩ := HP5.out _ _ hSt
            have y0 : wr.cell? ⟨p5, 0, none⟩ = some (.slice eo en ec) := by rw [cell_of_row wr p5 0 _ 86 (0, 0) hp5]; rfl
            by_cases hkl : k < en
            · have k3 : (k : Int) < (en : Int) := by omega
              have k0 : (0 : Int) ≤ (k : Int) := by omega
              have hkE : k < E.length := by have := HEN.out; omega
              obtain ⟨C, t, hCt⟩ : ∃ C t, E[k]? = some (C, t) := ⟨E[k].1, _, List.getElem?_eq_getElem hkE⟩
              obtain ⟨d, ed, hdb, co, cc, u0w, u1w, hC, _⟩ := HER.out k (C, t) hCt
              subst ed
              have htb := HGD.out.ge (u := i) (C := C) (t := t) ⟨_, HEF.out, List.mem_of_getElem? hCt⟩
              obtain ⟨tn, rfl⟩ : ∃ tn : Nat, t = (tn : Int) := ⟨t.toNat, by omega⟩
              dsimp only at u0w u1w hC
              have u0 := (bw.cell (p := d.add (k * 2)) (by rw [add_blk]; exact hdb)).trans u0w
              have u1 := (bw.cell (p := ⟨(d.add (k * 2)).block, (d.add (k * 2)).off + 1, none⟩) (show (d.add (k * 2)).block < _ by rw [add_blk]; exact hdb)).trans u1w
              have hcl : C.length ≤ 64 := HGD.out.lens _ (List.mem_of_getElem? HEF.out) _ (List.mem_of_getElem? hCt)
              obtain ⟨cn, hcn⟩ : ∃ cn, cn = C.length := ⟨_, rfl⟩
              rw [← hcn] at u0 hcl
              obtain ⟨E', F', hM⟩ : ∃ E' F', (rvE i (rvK L i) (E.take k))[tn]? = some (E', F') := ⟨_, _, List.getElem?_eq_getElem (by rw [rvE_len, rvK_len]; omega)⟩
              have hE' : E'.length ≤ 1000000 := by
                have h1 := (rv_small HGD.out (k := k) (m := 0) HEF.out).1
                have h2 := eS_in (List.mem_of_getElem? hM)
                have h3 := HES.out
                rw [List.take_zero] at h1
                have h4 : eS (rvE i (rvK L i) (E.take k)) ≤ eS L := h1
                dsimp only at h2
                omega
              have htn : tn < n := by have := HN.out; omega
              have t0 : (0 : Int) ≤ (tn : Int) := by omega
              have t1 : (tn : Int) < (n : Int) := by omega
              obtain ⟨go, gc, _, _, RE, r0, _, oE, gE, _, x0, _⟩ := HG.out.at hM
              obtain ⟨gn, hgn⟩ : ∃ gn, gn = E'.length := ⟨_, rfl⟩
              rw [← hgn] at x0 oE hE' r0
              have HM := hid hM
              have HR0 := hid r0
              have HOE := hid oE
              have HGE := hid gE
              have HGN := hid hgn
              have HC := hid hC
              have HCN := hid hcn
              have HCT := hid hCt
              have HBW := hid bw
              have hBs : B ≤ wr.heap.size := by omega
              have hww : w.heap.size ≤ B := by have := HGP.out; omega
              have hgs : g < wr.heap.size := (HG.out.lts.1 g rfl).2
              have HFO := hid (show ∀ k, (Value.slice go gn gc).ownBlock = some k → k ≠ p3 ∧ k ≠ g ∧ k < wr.heap.size ∧ k ≠ p5 ∧ B ≤ k from fun k hk => ⟨fun e => hno _ (List.mem_of_getElem? r0) (by rw [hk, e]), fun e => HG.out.off _ (List.mem_of_getElem? r0) k hk (by rw [e]; rfl), (oE.lt k hk).2, fun e => hno5 _ (List.mem_of_getElem? r0) (by rw [hk, e]), (oE.lt k hk).1⟩)
              have cP : wr.cell? ⟨p3, 0, none⟩ = some (.slice (some ⟨g, 0, none⟩) n n) := by rw [cell_of_row wr p3 0 _ 28 (0, 0) hP]; rfl
              have hdw : (d.add (k * 2)).block < w.heap.size := by rw [add_blk]; exact hdb
              clear hM r0 oE gE hgn hC hcn hCt hP hn1 hz1 hno hno5 hp5 hGr hSt hkE u0w u1w htb hdb bw hsz hp5g
              go_wp2_with fail
              clear u1
              refine wp_region_mix [(0, true), (1, true), (2, true), (3, true), (4, true), (5, true), (6, true), (7, true), (8, true), (10, true), (11, true), (12, true), (13, true), (14, true), (15, true), (17, true), (9, false), (16, false), (18, true), (19, false), (20, false), (21, false), (22, true), (23, false)] (fun w' => w'.cell? ⟨p3, 0, none⟩ = some (.slice (some ⟨g, 0, none⟩) n n) ∧ w'.cell? ⟨g, tn * 2, none⟩ = some (.slice go gn gc) ∧ w'.cell? ⟨p5, 0, none⟩ = some (.slice (some d) en ec) ∧ w'.cell? (d.add (k * 2)) = some (.slice co cn cc)) (fun j => j == 23) (by kernel_rfl) (by kernel_rfl) (fun j hj => by have := beq_iff_eq.1 hj; subst this; decide) rfl (by kernel_rfl) ⟨cP, x0, y0, u0⟩ ?_
              iterate 16 (refine mix_free ?_ rfl (by kernel_rfl) (fun w' hS => ?_) ?_; (rotate_left; (obtain ⟨s1, s2, s3, s4⟩ := hS; go_simp; with_reducible rfl); rotate_left))
              refine mix_go rfl (by kernel_rfl) fun KK hKK => ?_
              go_simp
              refine hKK _ _ (fun _ => ⟨cell_al cP, cell_al x0, cell_al y0, cell_al u0⟩) ?_
              clear hKK KK
              have HW5 := hid (show (wr.alloc (.cells #[] 3)).drew.ownsRow wr.heap.size 3 1 (.slice (some ⟨wr.heap.size, 0, none⟩) 0 0) 0 [] from (World.ownsRow_lit wr #[] 0 (Nat.le_refl _) (by decide) (by simp)).drew)
              have HB5 := hid (show Below wr.heap.size wr (wr.alloc (.cells #[] 3)).drew from ((Below.refl _ _).alloc (Nat.le_refl _) _).drew)
              refine mix_go rfl (by kernel_rfl) fun KK hKK => ?_
              refine wp_copy _ _ rfl wr.heap.size wr.heap.size rfl HW5.out co cn cc C rfl (HC.out.below (HBW.out.trans (HB5.out.mono HBW.out.size))) HCN.out (by omega) (by show wr.heap.size ≤ (wr.alloc _).heap.size; simp) ?_
              intro q4 qc4 w4 o4 gr4 hq4 hlt4
              have b4 : Below wr.heap.size wr w4 := HB5.out.grown gr4 (by show wr.heap.size ≤ (wr.alloc _).heap.size; simp) (fun k hk => by have e : wr.heap.size = k := Option.some.inj hk; omega)
              have hs4 : wr.heap.size ≤ w4.heap.size := b4.size
              have x4 := cell_bl b4 cP
              have v4 := cell_bl b4 x0
              have y4 := cell_bl b4 y0
              have u4 := cell_bl b4 u0
              refine hKK _ _ (fun _ => ⟨x4, v4, y4, u4⟩) ?_
              clear hKK KK
              refine mix_free ?_ rfl (by kernel_rfl) (fun w' hS => ?_) ?_; (rotate_left; (go_simp; with_reducible rfl); rotate_left)
              have HK4 := hid (show w4.ownsRow wr.heap.size 3 1 (.slice (some ⟨q4, 0, none⟩) cn qc4) cn (i64s C) from o4)
              have HB4 := hid (show ∀ b, b < wr.heap.size → w4.heap[b]? = wr.heap[b]? from fun b hb => b4.block b hb)
              have HT4 := hid (show w4.os = wr.os ∧ w4.tape = wr.tape ∧ w4.output = wr.output from ⟨b4.os, b4.tape, b4.output⟩)
              have HOE4 := hid (show w4.ownsRow B 88 2 (.slice go gn gc) gn RE from own_same HOE.out fun b _ hb => b4.block b hb)
              clear o4 gr4 hq4 hlt4 b4 HW5 HB5
              refine mix_go rfl (by kernel_rfl) fun KK hKK => ?_
              go_simp
              refine hKK _ _ (fun _ => ⟨cell_al x4, cell_al v4, cell_al y4, cell_al u4⟩) ?_
              clear hKK KK
              refine mix_go rfl (by kernel_rfl) fun KK hKK => ?_
              refine wp_append_lies _ _ _ 84 rfl B 88 i88 (.agg #[.slice none 0 0, .int .i64 0]) 2 32 Tryd.underlying84 hi88 he0 he1 he2 rfl (by decide) (.slice go gn gc) gn RE rfl (HOE4.out.alloc _) ⟨w4.heap.size, 0, none⟩ 1 1 [.slice (some ⟨q4, 0, none⟩) cn qc4, .int .i64 (i : Int)] rfl rfl (news_two w4 _ _ 88) (fun u hu => by simp at hu; rcases hu with h | h <;> rw [h] <;> rfl) (by decide) (by unfold maxLen; omega) (by omega) (by show B ≤ (w4.alloc _).heap.size; simp; omega) (w4.heap.size + 1) (by show (w4.alloc _).heap.size = _; simp) ?_
              intro q qc w8 o8 gr8 hl8 hlt8
              have hs8 : w4.heap.size + 1 ≤ w8.heap.size := by
                have h : (w4.alloc (.cells #[.slice (some ⟨q4, 0, none⟩) cn qc4, .int .i64 (i : Int)] 88)).heap.size ≤ w8.heap.size := gr8.size
                simpa using h
              have hblk48 : ∀ b, b < w4.heap.size → (Value.slice go gn gc).ownBlock ≠ some b → w8.heap[b]? = w4.heap[b]? := fun b hb hne => (gr8.block b (by show b < (w4.alloc _).heap.size; simp; omega) (fun e => hne e.symm)).trans (al_old w4 _ hb)
              have hblk8 : ∀ b, b < wr.heap.size → (Value.slice go gn gc).ownBlock ≠ some b → w8.heap[b]? = wr.heap[b]? := fun b hb hne => (hblk48 b (by omega) hne).trans (HB4.out b hb)
              have hg8 : w8.heap[g]? = wr.heap[g]? := hblk8 g hgs fun e => (HFO.out g e).2.1 rfl
              have x8 : w8.cell? ⟨p3, 0, none⟩ = some (.slice (some ⟨g, 0, none⟩) n n) := (World.cell?_of_block (hblk8 p3 (World.block_lt_of_cell? wr _ cP) (fun e => (HFO.out p3 e).1 rfl))).trans cP
              have v8 : w8.cell? ⟨g, tn * 2, none⟩ = some (.slice go gn gc) := (World.cell?_of_block hg8).trans x0
              have y8 : w8.cell? ⟨p5, 0, none⟩ = some (.slice (some d) en ec) := (World.cell?_of_block (hblk8 p5 (World.block_lt_of_cell? wr _ y0) (fun e => (HFO.out p5 e).2.2.2.1 rfl))).trans y0
              have u8 : w8.cell? (d.add (k * 2)) = some (.slice co cn cc) := (World.cell?_of_block (hblk8 _ (World.block_lt_of_cell? wr _ u0) (fun e => by have := (HFO.out _ e).2.2.2.2; omega))).trans u0
              have orow : w8.ownsRow B 86 2 (.slice (some ⟨g, 0, none⟩) n n) n R1 := own_same HG.out.row fun k hk _ => by
                have e : g = k := Option.some.inj hk
                rw [← e]; exact hg8
              have fz := orow.frozenAt (tn * 2)
              refine hKK _ _ (fun _ => ⟨x8, v8, y8, u8⟩) ?_
              clear hKK KK
              refine mix_go rfl (by kernel_rfl) fun KK hKK => ?_
              go_simp
              refine hKK _ _ (fun _ => ⟨x8, v8, y8, u8⟩) ?_
              clear hKK KK
              refine mix_free ?_ rfl (by kernel_rfl) (fun w' hS => ?_) ?_; (rotate_left; (obtain ⟨s1, s2, s3, s4⟩ := hS; go_simp; with_reducible rfl); rotate_left)
              have HO8 := hid o8
              have HROW := hid orow
              have HB8 := hid hblk8
              have HB48 := hid hblk48
              have HS8 := hid hs8
              have HS4 := hid hs4
              have HL8 := hid hl8
              have HT8 := hid (show w8.os = wr.os ∧ w8.tape = wr.tape ∧ w8.output = wr.output from ⟨(show w8.os = w4.os from gr8.os).trans HT4.out.1, (show w8.tape = w4.tape from gr8.tape).trans HT4.out.2.1, (show w8.output = w4.output from gr8.output).trans HT4.out.2.2⟩)
              clear o8 gr8 hl8 hlt8 hs8 hblk8 hblk48 orow hg8 hs4 x4 y4 v4 u4
              refine mix_go rfl (by kernel_rfl) fun KK hKK => ?_
              go_simp
              refine hKK _ _ (fun h => by cases h) ?_
              clear hKK KK
              refine mix_end (NoPanic.normal ?_)
              have hst := HROW.out.stored (tn * 2) (.slice (some ⟨q, 0, none⟩) (gn + 1) qc)
              have hset : ∀ b, b ≠ g → (w8.setCell ⟨g, tn * 2, none⟩ (.slice (some ⟨q, 0, none⟩) (gn + 1) qc)).heap[b]? = w8.heap[b]? := fun b hb => heap_setCell_other w8 ⟨g, tn * 2, none⟩ b _ (fun e => hb e)
              have hss : (w8.setCell ⟨g, tn * 2, none⟩ (.slice (some ⟨q, 0, none⟩) (gn + 1) qc)).heap.size = w8.heap.size := by simp
              have hs4 := HS4.out
              have hs8 := HS8.out
              have hv : ∀ b, (Value.slice (some ⟨q, 0, none⟩) (gn + 1) qc).ownBlock = some b → (Value.slice go gn gc).ownBlock = some b ∨ wr.heap.size ≤ b := fun b hb => by
                have e : q = b := Option.some.inj hb
                rcases HL8.out with h | h
                · exact .inl (e ▸ h)
                · exact .inr (by omega)
              have hk' : ∀ k, k < wr.heap.size → (Value.slice (some ⟨g, 0, none⟩) n n).ownBlock ≠ some k → (Value.slice go gn gc).ownBlock ≠ some k → (w8.setCell ⟨g, tn * 2, none⟩ (.slice (some ⟨q, 0, none⟩) (gn + 1) qc)).heap[k]? = wr.heap[k]? := fun k hk h1 h2 => (hset k (fun e => h1 (by rw [e]; rfl))).trans (HB8.out k hk h2)
              have hs9 : wr.heap.size ≤ (w8.setCell ⟨g, tn * 2, none⟩ (.slice (some ⟨q, 0, none⟩) (gn + 1) qc)).heap.size := by rw [hss]; omega
              have hqg : q ≠ g := fun e => by
                rcases HL8.out with h | h
                · exact (HFO.out q h).2.1 e
                · omega
              have hq4b := HK4.out.lt q4 rfl
              have hq4q : q4 ≠ q := fun e => by
                rcases HL8.out with h | h
                · have := (HFO.out q h).2.2.1; omega
                · omega
              have HG2 := hid (show Gro (w8.setCell ⟨g, tn * 2, none⟩ (.slice (some ⟨q, 0, none⟩) (gn + 1) qc)) B (.slice (some ⟨g, 0, none⟩) n n) n (adE (rvE i (rvK L i) (E.take k)) tn (C, (i : Int))) (R1.set (tn * 2) (.slice (some ⟨q, 0, none⟩) (gn + 1) qc)) from by
                refine HG.out.addE (co := some ⟨q4, 0, none⟩) (cc := qc4) HM.out HR0.out (by rw [← HGN.out]; exact HOE.out) HGE.out hs9 hk' hst.1 hv ?_ ?_ (fun _ b hb => ?_)
                · rw [← HGN.out, ← HCN.out]
                  exact own_same HO8.out fun b hb _ => hset b (by have e : q = b := Option.some.inj hb; omega)
                · rw [← HCN.out]
                  refine .inr ?_
                  rw [← HCN.out]
                  refine own_same (own_mono' HK4.out hBs) fun b hb hl => ?_
                  have e : q4 = b := Option.some.inj hb
                  subst e
                  rw [hset q4 (by omega), HB48.out q4 hl (fun e => by have := (HFO.out q4 e).2.2.1; omega)]
                · have e : q4 = b := Option.some.inj hb
                  subst e
                  exact ⟨hq4b.1, fun e => hq4q (Option.some.inj e).symm⟩)
              have HST2 := hid (HST.out.trans (Gst.put (w' := w8.setCell ⟨g, tn * 2, none⟩ (.slice (some ⟨q, 0, none⟩) (gn + 1) qc)) HR0.out HT8.out.1 HT8.out.2.1 HT8.out.2.2 hs9 hk' hv))
              clear hst hset hss hs4 hs8 hv hk' hs9 hqg hq4b hq4q HG HST
              go_wp2
              go_roundw
              case rel => exact ⟨k + 1, by go_num, by omega, ⟨_, by rw [rvE_take HCT.out]; exact HG2.out, HST2.out⟩⟩
              case measure => simp [intOf]; omega
            · have k3 : ¬ (k : Int) < (en : Int) := by omega
              have HT := hid (show E.take k = E from List.take_of_length_le (by have := HEN.out; omega))
              rw [HT.out] at HG
              have y1 : wr.cell? ⟨p5, 1, none⟩ = some (.slice fo fn fc) := by rw [cell_of_row wr p5 1 _ 86 (0, 0) hp5]; rfl
              clear HT hp5 hno5 hp5g bw hP hn1 hz1 hno hsz hGr hSt
              go_wp2
              clear y1 y0
              go_loopw [8] (fun y wr => ∃ k : Nat, y = .int .i64 k ∧ k ≤ fn ∧ Hid (∃ R', Gro wr B (.slice (some ⟨g, 0, none⟩) n n) n (rvF i (rvE i (rvK L i) E) (F.take k)) R' ∧ Gst w5 wr (.slice (some ⟨g, 0, none⟩) n n) R R')) (fun y _ => fn - (intOf y).toNat)
              case atStart => exact ⟨0, rfl, Nat.zero_le _, ⟨R1, HG.out, HST.out⟩⟩
              case round =>
                clear HG HST
                obtain ⟨m, rfl, hm, HI⟩ := hrel
                obtain ⟨R2, hGr, hSt⟩ := HI.out
                clear HI
                have HG := hid hGr
                have HST := hid hSt
                obtain ⟨bw, hP, hn1, hz1, hno, hsz⟩ := HKP.out _ _ (HST5.out.trans hSt)
                obtain ⟨hp5, hno5, hp5g⟩ := HP5.out _ _ hSt
                have y1 : wr.cell? ⟨p5, 1, none⟩ = some (.slice fo fn fc) := by rw [cell_of_row wr p5 1 _ 86 (0, 0) hp5]; rfl
                by_cases hml : m < fn
                · have m3 : (m : Int) < (fn : Int) := by omega
                  have m0 : (0 : Int) ≤ (m : Int) := by omega
                  have hmF : m < F.length := by have := HFN.out; omega
                  obtain ⟨t, hFt⟩ : ∃ t, F[m]? = some t := ⟨_, List.getElem?_eq_getElem hmF⟩
                  obtain ⟨d, ed, hdb, u0w⟩ := HFR.out m t hFt
                  subst ed
                  have htb := HGD.out.gf (u := i) (t := t) ⟨_, HEF.out, List.mem_of_getElem? hFt⟩
                  obtain ⟨tn, rfl⟩ : ∃ tn : Nat, t = (tn : Int) := ⟨t.toNat, by omega⟩
                  have u0 := (bw.cell (p := d.add m) (by rw [add_blk]; exact hdb)).trans u0w
                  obtain ⟨E', F', hM⟩ : ∃ E' F', (rvF i (rvE i (rvK L i) E) (F.take m))[tn]? = some (E', F') := ⟨_, _, List.getElem?_eq_getElem (by rw [rvF_len, rvE_len, rvK_len]; omega)⟩
                  have hF' : F'.length ≤ 1000000 := by
                    have h1 := (rv_small HGD.out (k := E.length) (m := m) HEF.out).2
                    have h2 := fS_in (List.mem_of_getElem? hM)
                    have h3 := HFS.out
                    rw [List.take_of_length_le (Nat.le_refl _)] at h1
                    dsimp only at h2
                    omega
                  have htn : tn < n := by have := HN.out; omega
                  have t0 : (0 : Int) ≤ (tn : Int) := by omega
                  have t1 : (tn : Int) < (n : Int) := by omega
                  obtain ⟨_, _, go, gc, _, _, r1, _, _, oF, _, x1⟩ := HG.out.at hM
                  obtain ⟨gn, hgn⟩ : ∃ gn, gn = F'.length := ⟨_, rfl⟩
                  rw [← hgn] at x1 oF hF' r1
                  have HM := hid hM
                  have HR1 := hid r1
                  have HOF := hid oF
                  have HGN := hid hgn
                  have HCT := hid hFt
                  have hBs : B ≤ wr.heap.size := by omega
                  have hgs : g < wr.heap.size := (HG.out.lts.1 g rfl).2
                  have HFO := hid (show ∀ k, (Value.slice go gn gc).ownBlock = some k → k ≠ p3 ∧ k ≠ g ∧ k < wr.heap.size from fun k hk => ⟨fun e => hno _ (List.mem_of_getElem? r1) (by rw [hk, e]), fun e => HG.out.off _ (List.mem_of_getElem? r1) k hk (by rw [e]; rfl), (oF.lt k hk).2⟩)
                  have cP : wr.cell? ⟨p3, 0, none⟩ = some (.slice (some ⟨g, 0, none⟩) n n) := by rw [cell_of_row wr p3 0 _ 28 (0, 0) hP]; rfl
                  clear hM r1 oF hgn hFt hP hn1 hz1 hno hno5 hp5 hGr hSt hmF u0w htb hdb bw hsz hp5g
                  go_wp2_with fail
                  clear u0
                  refine wp_region_mix [(0, true), (1, true), (2, true), (3, true), (4, true), (5, true), (6, true), (7, true), (8, true), (9, true), (10, false), (11, false), (12, false), (13, true), (14, false)] (fun w' => w'.cell? ⟨p3, 0, none⟩ = some (.slice (some ⟨g, 0, none⟩) n n) ∧ w'.cell? ⟨g, tn * 2 + 1, none⟩ = some (.slice go gn gc)) (fun j => j == 14) (by kernel_rfl) (by kernel_rfl) (fun j hj => by have := beq_iff_eq.1 hj; subst this; decide) rfl (by kernel_rfl) ⟨cP, x1⟩ ?_
                  iterate 10 (refine mix_free ?_ rfl (by kernel_rfl) (fun w' hS => ?_) ?_; (rotate_left; (obtain ⟨s1, s2⟩ := hS; go_simp; with_reducible rfl); rotate_left))
                  refine mix_go rfl (by kernel_rfl) fun KK hKK => ?_
                  go_simp
                  refine hKK _ _ (fun _ => ⟨cell_al cP, cell_al x1⟩) ?_
                  clear hKK KK
                  refine mix_go rfl (by kernel_rfl) fun KK hKK => ?_
                  refine wp_append_lies _ _ _ 22 rfl B 3 i3x (.int .i64 0) 1 8 Tryd.underlying22 hi3 hz0 hz1' hz2 rfl (by decide) (.slice go gn gc) gn (i64s F') rfl (HOF.out.alloc _).drew ⟨wr.heap.size, 0, none⟩ 1 1 [.int .i64 (i : Int)] rfl rfl (news1 wr _ 3) (fun u hu => by simp at hu; rw [hu]; rfl) (by decide) (by unfold maxLen; omega) (by omega) (by show B ≤ (wr.alloc _).heap.size; simp; omega) (wr.heap.size + 1) (by show (wr.alloc _).heap.size = _; simp) ?_
                  intro q qc w8 o8 gr8 hl8 hlt8
                  have hs8 : wr.heap.size + 1 ≤ w8.heap.size := by
                    have h : (wr.alloc (.cells #[.int .i64 (i : Int)] 3)).heap.size ≤ w8.heap.size := gr8.size
                    simpa using h
                  have hblk8 : ∀ b, b < wr.heap.size → (Value.slice go gn gc).ownBlock ≠ some b → w8.heap[b]? = wr.heap[b]? := fun b hb hne => (gr8.block b (by show b < (wr.alloc _).heap.size; simp; omega) (fun e => hne e.symm)).trans (al_old wr _ hb)
                  have hg8 : w8.heap[g]? = wr.heap[g]? := hblk8 g hgs fun e => (HFO.out g e).2.1 rfl
                  have x8 : w8.cell? ⟨p3, 0, none⟩ = some (.slice (some ⟨g, 0, none⟩) n n) := (World.cell?_of_block (hblk8 p3 (World.block_lt_of_cell? wr _ cP) (fun e => (HFO.out p3 e).1 rfl))).trans cP
                  have v8 : w8.cell? ⟨g, tn * 2 + 1, none⟩ = some (.slice go gn gc) := (World.cell?_of_block hg8).trans x1
                  have orow : w8.ownsRow B 86 2 (.slice (some ⟨g, 0, none⟩) n n) n R2 := own_same HG.out.row fun k hk _ => by
                    have e : g = k := Option.some.inj hk
                    rw [← e]; exact hg8
                  have fz := orow.frozenAt (tn * 2 + 1)
                  refine hKK _ _ (fun _ => ⟨x8, v8⟩) ?_
                  clear hKK KK
                  refine mix_go rfl (by kernel_rfl) fun KK hKK => ?_
                  go_simp
                  refine hKK _ _ (fun _ => ⟨x8, v8⟩) ?_
                  clear hKK KK
                  refine mix_free ?_ rfl (by kernel_rfl) (fun w' hS => ?_) ?_; (rotate_left; (obtain ⟨s1, s2⟩ := hS; go_simp; with_reducible rfl); rotate_left)
                  have HO8 := hid o8
                  have HROW := hid orow
                  have HB8 := hid hblk8
                  have HS8 := hid hs8
                  have HL8 := hid hl8
                  have HT8 := hid (show w8.os = wr.os ∧ w8.tape = wr.tape ∧ w8.output = wr.output from ⟨gr8.os, gr8.tape, gr8.output⟩)
                  clear o8 gr8 hl8 hlt8 hs8 hblk8 orow hg8
                  refine mix_go rfl (by kernel_rfl) fun KK hKK => ?_
                  go_simp
                  refine hKK _ _ (fun h => by cases h) ?_
                  clear hKK KK
                  refine mix_end (NoPanic.normal ?_)
                  have hst := HROW.out.stored (tn * 2 + 1) (.slice (some ⟨q, 0, none⟩) (gn + 1) qc)
                  have hset : ∀ b, b ≠ g → (w8.setCell ⟨g, tn * 2 + 1, none⟩ (.slice (some ⟨q, 0, none⟩) (gn + 1) qc)).heap[b]? = w8.heap[b]? := fun b hb => heap_setCell_other w8 ⟨g, tn * 2 + 1, none⟩ b _ (fun e => hb e)
                  have hss : (w8.setCell ⟨g, tn * 2 + 1, none⟩ (.slice (some ⟨q, 0, none⟩) (gn + 1) qc)).heap.size = w8.heap.size := by simp
                  have hs8 := HS8.out
                  have hv : ∀ b, (Value.slice (some ⟨q, 0, none⟩) (gn + 1) qc).ownBlock = some b → (Value.slice go gn gc).ownBlock = some b ∨ wr.heap.size ≤ b := fun b hb => by
                    have e : q = b := Option.some.inj hb
                    rcases HL8.out with h | h
                    · exact .inl (e ▸ h)
                    · exact .inr (by omega)
                  have hk' : ∀ k, k < wr.heap.size → (Value.slice (some ⟨g, 0, none⟩) n n).ownBlock ≠ some k → (Value.slice go gn gc).ownBlock ≠ some k → (w8.setCell ⟨g, tn * 2 + 1, none⟩ (.slice (some ⟨q, 0, none⟩) (gn + 1) qc)).heap[k]? = wr.heap[k]? := fun k hk h1 h2 => (hset k (fun e => h1 (by rw [e]; rfl))).trans (HB8.out k hk h2)
                  have hs9 : wr.heap.size ≤ (w8.setCell ⟨g, tn * 2 + 1, none⟩ (.slice (some ⟨q, 0, none⟩) (gn + 1) qc)).heap.size := by rw [hss]; omega
                  have hqg : q ≠ g := fun e => by
                    rcases HL8.out with h | h
                    · exact (HFO.out q h).2.1 e
                    · omega
                  have HG2 := hid (show Gro (w8.setCell ⟨g, tn * 2 + 1, none⟩ (.slice (some ⟨q, 0, none⟩) (gn + 1) qc)) B (.slice (some ⟨g, 0, none⟩) n n) n (adF (rvF i (rvE i (rvK L i) E) (F.take m)) tn (i : Int)) (R2.set (tn * 2 + 1) (.slice (some ⟨q, 0, none⟩) (gn + 1) qc)) from by
                    refine HG.out.addF HM.out HR1.out hs9 hk' hst.1 hv ?_
                    rw [← HGN.out]
                    exact own_same HO8.out fun b hb _ => hset b (by have e : q = b := Option.some.inj hb; omega))
                  have HST2 := hid (HST.out.trans (Gst.put (w' := w8.setCell ⟨g, tn * 2 + 1, none⟩ (.slice (some ⟨q, 0, none⟩) (gn + 1) qc)) HR1.out HT8.out.1 HT8.out.2.1 HT8.out.2.2 hs9 hk' hv))
                  clear hst hset hss hs8 hv hk' hs9 hqg HG HST
                  go_wp2
                  go_roundw
                  case rel => exact ⟨m + 1, by go_num, by omega, ⟨_, by rw [rvF_take HCT.out]; exact HG2.out, HST2.out⟩⟩
                  case measure => simp [intOf]; omega
                · have m3 : ¬ (m : Int) < (fn : Int) := by omega
                  have HT := hid (show F.take m = F from List.take_of_length_le (by have := HFN.out; omega))
                  rw [HT.out] at HG
                  have HG2 := hid (show Gro wr B (.slice (some ⟨g, 0, none⟩) n n) n (rvK L (i + 1)) R2 by rw [rvK_next HEF.out]; exact HG.out)
                  have HST2 := hid (HST5.out.trans HST.out)
                  clear HT HG HST bw hP hn1 hz1 hno hsz hGr hSt hp5 hno5 hp5g
                  go_wp2
                  go_roundw
                  case rel => exact ⟨i + 1, by go_num, by omega, ⟨R2, HG2.out, HST2.out⟩⟩
                  case measure => simp [intOf]; omega
        · have i3 : ¬ (i : Int) < (n : Int) := by omega
          have hin : i = n := by omega
          subst hin
          have r0 : wr.cell? ⟨p3, 0, none⟩ = some (.slice (some ⟨g, 0, none⟩) i i) := by rw [cell_of_row wr p3 0 _ 28 (0, 0) hP]; rfl
          have c1 : wr.cell? ⟨p3, 1, none⟩ = some (.int .i64 f) := by rw [cell_of_row wr p3 1 _ 28 (0, 0) hP]; rfl
          have c2 : wr.cell? ⟨p3, 2, none⟩ = some (.int .i64 s) := by rw [cell_of_row wr p3 2 _ 28 (0, 0) hP]; rfl
          have z0 := frozen_of_row wr (w.heap.size + 1) 0 _ 28 hz1
          have z1 := frozen_of_row wr (w.heap.size + 1) 1 _ 28 hz1
          have z2 := frozen_of_row wr (w.heap.size + 1) 2 _ 28 hz1
          have y0 : wr.cell? ⟨w.heap.size + 1, 0, none⟩ = some (.slice none 0 0) := by rw [cell_of_row wr (w.heap.size + 1) 0 _ 28 (0, 0) hz1]; rfl
          have y1 : wr.cell? ⟨w.heap.size + 1, 1, none⟩ = some (.int .i64 0) := by rw [cell_of_row wr (w.heap.size + 1) 1 _ 28 (0, 0) hz1]; rfl
          have y2 : wr.cell? ⟨w.heap.size + 1, 2, none⟩ = some (.int .i64 0) := by rw [cell_of_row wr (w.heap.size + 1) 2 _ 28 (0, 0) hz1]; rfl
          have HR := hid hz1
          have HBW := hid bw
          have hgg : w.heap.size + 2 ≤ B := HGP.out
          clear hz1 bw hP hn1 hno
          go_wp2
          (try simp only [Exit.inBlock, Exit.then])
          have e1 := heap_setCell_same wr (w.heap.size + 1) 0 _ 28 (.slice (some ⟨g, 0, none⟩) i i) HR.out
          have e2 := heap_setCell_same _ (w.heap.size + 1) 1 _ 28 (.int .i64 f) e1
          have e3 := heap_setCell_same _ (w.heap.size + 1) 2 _ 28 (.int .i64 s) e2
          refine bodyPost_ret (results_cell_row rfl _ _ (w.heap.size + 1) 28 #[.slice (some ⟨g, 0, none⟩) i i, .int .i64 f, .int .i64 s] (0, 0) _ rfl e3 Tryd.underlying28 rfl (by kernel_rfl)) rfl ?_
          have hoth : ∀ b, b ≠ w.heap.size + 1 → (((wr.setCell ⟨w.heap.size + 1, 0, none⟩ (.slice (some ⟨g, 0, none⟩) i i)).setCell ⟨w.heap.size + 1, 1, none⟩ (.int .i64 f)).setCell ⟨w.heap.size + 1, 2, none⟩ (.int .i64 s)).heap[b]? = wr.heap[b]? := fun b hb => by
            rw [heap_setCell_other _ ⟨w.heap.size + 1, 2, none⟩ b _ (fun e => hb e), heap_setCell_other _ ⟨w.heap.size + 1, 1, none⟩ b _ (fun e => hb e), heap_setCell_other _ ⟨w.heap.size + 1, 0, none⟩ b _ (fun e => hb e)]
          have hfin : Below w.heap.size w (((wr.setCell ⟨w.heap.size + 1, 0, none⟩ (.slice (some ⟨g, 0, none⟩) i i)).setCell ⟨w.heap.size + 1, 1, none⟩ (.int .i64 f)).setCell ⟨w.heap.size + 1, 2, none⟩ (.int .i64 s)) := HBW.out.trans ⟨rfl, rfl, rfl, by simp, fun b hb => hoth b (by omega)⟩
          have hrv : rvK L i = rv L := by rw [HN.out]; rfl
          refine ⟨B, _, _, _, rv L, R, f, s, rfl, ⟨fun _ => ⟨rfl, rfl, rfl⟩, fun h => by rw [HGB.out] at h; cases h⟩, by omega, (by have h : B ≤ wr.heap.size := (by omega); simpa using h), ?_, hfin⟩
          rw [← hrv]
          exact HG.out.keep2 (by simp) fun k hk _ => hoth k (by omega)
  · rw [hG]
    have hz1 : w2.heap[w.heap.size + 1]? = some (.cells #[.slice none 0 0, .int .i64 0, .int .i64 0] 28) := by rw [HB2.out.block _ (by have := HSZ1.out; omega)]; exact HQ2.out
    have z0 := frozen_of_row w2 (w.heap.size + 1) 0 _ 28 hz1
    have z1 := frozen_of_row w2 (w.heap.size + 1) 1 _ 28 hz1
    have z2 := frozen_of_row w2 (w.heap.size + 1) 2 _ 28 hz1
    have y0 : w2.cell? ⟨w.heap.size + 1, 0, none⟩ = some (.slice none 0 0) := by rw [cell_of_row w2 (w.heap.size + 1) 0 _ 28 (0, 0) hz1]; rfl
    have y1 : w2.cell? ⟨w.heap.size + 1, 1, none⟩ = some (.int .i64 0) := by rw [cell_of_row w2 (w.heap.size + 1) 1 _ 28 (0, 0) hz1]; rfl
    have y2 : w2.cell? ⟨w.heap.size + 1, 2, none⟩ = some (.int .i64 0) := by rw [cell_of_row w2 (w.heap.size + 1) 2 _ 28 (0, 0) hz1]; rfl
    have HR := hid hz1
    have HGB := hid hG
    have HBW := hid (HB1.out.trans (HB2.out.mono HB1.out.size))
    clear hz1 hG d0 d1 d2
    go_wp2
    (try simp only [Exit.inBlock, Exit.then])
    have e1 := heap_setCell_same w2 (w.heap.size + 1) 0 _ 28 (.slice none 0 0) HR.out
    have e2 := heap_setCell_same _ (w.heap.size + 1) 1 _ 28 (.int .i64 0) e1
    have e3 := heap_setCell_same _ (w.heap.size + 1) 2 _ 28 (.int .i64 0) e2
    refine bodyPost_ret (results_cell_row rfl _ _ (w.heap.size + 1) 28 #[.slice none 0 0, .int .i64 0, .int .i64 0] (0, 0) _ rfl e3 Tryd.underlying28 rfl (by kernel_rfl)) rfl ?_
    have hfin : Below w.heap.size w (((w2.setCell ⟨w.heap.size + 1, 0, none⟩ (.slice none 0 0)).setCell ⟨w.heap.size + 1, 1, none⟩ (.int .i64 0)).setCell ⟨w.heap.size + 1, 2, none⟩ (.int .i64 0)) := HBW.out.trans ⟨rfl, rfl, rfl, by simp, fun b hb => by
      rw [heap_setCell_other _ ⟨w.heap.size + 1, 2, none⟩ b _ (fun e => by have e' : b = w.heap.size + 1 := e; omega), heap_setCell_other _ ⟨w.heap.size + 1, 1, none⟩ b _ (fun e => by have e' : b = w.heap.size + 1 := e; omega), heap_setCell_other _ ⟨w.heap.size + 1, 0, none⟩ b _ (fun e => by have e' : b = w.heap.size + 1 := e; omega)]⟩
    exact ⟨w.heap.size, none, 0, 0, [], [], 0, 0, rfl, ⟨fun h => (by rw [HGB.out] at h; cases h), fun _ => ⟨rfl, rfl, rfl⟩⟩, Nat.le_refl _, hfin.size, Gro.nil _ _, hfin⟩
end Go.Proofs.YteacehfihogmpaaDoor
/- NfaTurns: the walk. -/
namespace Go.Proofs.YteacehfihogmpaaDoor
open Go.RowKit

theorem wid_len {L : List St} (h : wdb L = false) : ∀ x ∈ L, x.1.length ≤ 1000000 ∧ x.2.length ≤ 1000000 ∧ ∀ e ∈ x.1, e.1.length ≤ 1000000 := fun x hx => by
  have h1 := (wdb_small h).2
  have h2 := wS_in hx
  unfold wS at h2
  refine ⟨by omega, by omega, fun e he => ?_⟩
  rw [List.take_of_length_le (by omega)] at h2
  have := wE_in he
  omega
theorem RvS.uniq {L M M' : List St} {s f a b a' b' : Int} (h : RvS L s f M a b) (h' : RvS L s f M' a' b') : M = M' ∧ a = a' ∧ b = b' := by
  rcases bool_cases (gdB L s f) with hg | hg
  · obtain ⟨h1, h2, h3⟩ := h.yes hg
    obtain ⟨h4, h5, h6⟩ := h'.yes hg
    exact ⟨h1.trans h4.symm, h2.trans h5.symm, h3.trans h6.symm⟩
  · obtain ⟨h1, h2, h3⟩ := h.no hg
    obtain ⟨h4, h5, h6⟩ := h'.no hg
    exact ⟨h1.trans h4.symm, h2.trans h5.symm, h3.trans h6.symm⟩
theorem RvS.sums {L M : List St} {s f a b : Int} (h : RvS L s f M a b) (he : eS L ≤ 1000000) (hf : fS L ≤ 1000000) : eS M ≤ 1000000 ∧ fS M ≤ 1000000 ∧ M.length ≤ 4096 ∧ ∀ x ∈ M, x.1.length ≤ 1000000 ∧ x.2.length ≤ 1000000 ∧ ∀ e ∈ x.1, e.1.length ≤ 1000000 := by
  rcases bool_cases (gdB L s f) with hg | hg
  · obtain ⟨rfl, _, _⟩ := h.yes hg
    obtain ⟨h1, h2⟩ := sums_rv (gdd_of hg)
    have h3 := gdd_of (gd_rv hg)
    refine ⟨by omega, by omega, h3.few, fun x hx => ⟨?_, ?_, fun e he' => ?_⟩⟩
    · have := eS_in hx; omega
    · have := fS_in hx; omega
    · have := h3.lens x hx e he'; omega
  · obtain ⟨rfl, _, _⟩ := h.no hg
    exact ⟨by decide, by decide, by decide, fun x hx => by simp at hx⟩
theorem TakA.tk {w w' : World} {L : List St} {s f : Int} {c : List Int} {e : Ending} (h : TakA w L s f c e w') (hg : gdB L s f = true) : e = .returned (.bool (Go.Proofs.YteacehfihogmpaaDoor.tk L s f c)) ∧ Below w.heap.size w w' := by
  obtain ⟨E, h1, h2, h3⟩ := h
  have h4 := h2.yes ⟨hg, by omega, by omega⟩
  exact ⟨by rw [h1, tk_last h4], h3⟩
section
variable {P : Program} {ops : Array Oper} {Q : Exit → Act → World → Prop} {S : World → Prop} {fin : Nat → Bool} {o : Oper} {k : Nat} {r : List (Nat × Bool)} {a : Act} {w : World}
/-- An operation whose guard is false, and whose slot is empty as yet. -/
theorem mix_pass0 (h0 : ops[k]? = some o) (hw : Region.wanted o (yielded ops a.tmps) = false) (he : a.put o.dst undef = a) (h2 : wpMix P ops Q S fin r a w) : wpMix P ops Q S fin ((k, true) :: r) a w :=
  mix_pass h0 hw (by rw [he]; exact h2)
theorem mix_skip0 (h0 : ops[k]? = some o) (hw : Region.wanted o (yielded ops a.tmps) = false) (he : a.put o.dst undef = a) (hS : fin k = false → S w) (h2 : wpMix P ops Q S fin r a w) : wpMix P ops Q S fin ((k, false) :: r) a w :=
  ⟨o, h0, by rw [if_neg (by rw [hw]; decide), he]; exact ⟨hS, h2⟩⟩
end
set_option maxHeartbeats 16000000 in
set_option maxRecDepth 100000 in
theorem turns_walk (so : Option Addr) (sc n : Nat) (L : List St) (s f : Int) (co : Option Addr) (cl cc : Nat) (c : List Int) (w : World) (hn : n = L.length) (hs : RdS w so L) (hl : n ≤ most) (hc : RdI w co c) (hcl : cl = c.length) (hcm : cl ≤ most) (ht : Tb w) :
    Calls Tryd.prog 7 #[.agg #[.slice so n sc, .int .i64 s, .int .i64 f], .slice co cl cc] w fun e w' => e = .returned (.bool true) ∧ Below w.heap.size w w' := by
  obtain ⟨i3x, hi3, hz0, hz1', hz2⟩ := info_parts Tryd.info3
  have HN := hid hn
  have HS := hid hs
  have HNM := hid hl
  have HC := hid hc
  have HCL := hid hcl
  have HTB := hid ht
  have hp := ht.pos
  unfold most at hcm
  clear hn hs hl hc hcl ht
  obtain ⟨w1, hw1⟩ : ∃ w1, w1 = w.alloc (.cells #[.slice so n sc, .int .i64 s, .int .i64 f] 28) := ⟨_, rfl⟩
  have q1 : w1.heap[w.heap.size]? = some (.cells #[.slice so n sc, .int .i64 s, .int .i64 f] 28) := by rw [hw1]; exact al_new _ _ rfl
  have HB1 := hid (show Below w.heap.size w w1 by rw [hw1]; exact (Below.refl _ _).alloc (Nat.le_refl _) _)
  have HS1 := hid (show w1.heap.size = w.heap.size + 1 by rw [hw1]; simp)
  have HP2 := hid (show (w1.cell? ⟨w.heap.size, 0, none⟩ = some (.slice so n sc) ∧ w1.cell? ⟨w.heap.size, 1, none⟩ = some (.int .i64 s) ∧ w1.cell? ⟨w.heap.size, 2, none⟩ = some (.int .i64 f)) from ⟨by rw [cell_of_row w1 w.heap.size 0 _ 28 (0, 0) q1]; rfl, by rw [cell_of_row w1 w.heap.size 1 _ 28 (0, 0) q1]; rfl, by rw [cell_of_row w1 w.heap.size 2 _ 28 (0, 0) q1]; rfl⟩)
  clear q1
  go_enter Tryd.func7, Tryd.ntmps7
  go_wp2_with fail
  rw [← hw1]
  clear hw1
  refine (wide_any so sc n L s f w1 HN.out (HS.out.below HB1.out) HNM.out).mono ?_
  rintro e w2 ⟨rfl, be_w2⟩
  have HB_w2 := hid be_w2
  have c0 := cell_bl be_w2 HP2.out.1
  have c1 := cell_bl be_w2 HP2.out.2.1
  have c2 := cell_bl be_w2 HP2.out.2.2
  clear be_w2
  rcases bool_cases (wdb L) with hW | hW
  · rw [hW]
    go_wp2_with fail
    refine (live_tb (HTB.out.keep (HB1.out.trans (HB_w2.out.mono HB1.out.size)) hp)).mono ?_
    rintro e w3 ⟨rfl, be_w3⟩
    have HB_w3 := hid (HB1.out.trans ((HB_w2.out.trans (be_w3.mono HB_w2.out.size)).mono HB1.out.size))
    clear be_w3
    go_wp2
    go_ret
    exact ⟨rfl, HB_w3.out⟩
  · rw [hW]
    by_cases h60 : cl ≤ 60
    · have i60 : ¬ (60 : Int) < (cl : Int) := by omega
      have HLE := hid (wid_len hW)
      have hsm := wdb_small hW
      have HE := hid (show eS L ≤ 1000000 by have := eS_wid L; omega)
      have HF := hid (show fS L ≤ 1000000 by have := fS_wid L; omega)
      have hn4 : n ≤ 120 := by have := HN.out; omega
      have hc6 : cl ≤ 1000000 := by omega
      clear hsm hcm hW
      go_wp2_with fail
      refine (own_any so sc n L s f w2 HN.out ((HS.out.below HB1.out).below HB_w2.out) (by omega) HLE.out).mono ?_
      rintro e w3 ⟨to, tc, rfl, hT, be_w3⟩
      have HB_w3 := hid (HB_w2.out.trans (be_w3.mono HB_w2.out.size))
      clear be_w3 c0 c1 c2
      obtain ⟨w4, hw4⟩ : ∃ w4, w4 = w3.alloc (.cells #[.slice to n tc, .int .i64 s, .int .i64 f] 28) := ⟨_, rfl⟩
      obtain ⟨p5, hp5⟩ : ∃ p, p = w3.heap.size := ⟨_, rfl⟩
      have hr5 : w4.heap[p5]? = some (.cells #[.slice to n tc, .int .i64 s, .int .i64 f] 28) := by rw [hw4]; exact al_new _ _ hp5
      have b4 : Below w3.heap.size w3 w4 := by rw [hw4]; exact (Below.refl _ _).alloc (Nat.le_refl _) _
      have HT4 := hid (show RdS w4 to L from hT.below b4)
      have HB4 := hid (show Below w1.heap.size w1 w4 from HB_w3.out.trans (b4.mono HB_w3.out.size))
      have HP5 := hid (show (w4.cell? ⟨p5, 0, none⟩ = some (.slice to n tc) ∧ w4.cell? ⟨p5, 1, none⟩ = some (.int .i64 s) ∧ w4.cell? ⟨p5, 2, none⟩ = some (.int .i64 f)) from ⟨by rw [cell_of_row w4 p5 0 _ 28 (0, 0) hr5]; rfl, by rw [cell_of_row w4 p5 1 _ 28 (0, 0) hr5]; rfl, by rw [cell_of_row w4 p5 2 _ 28 (0, 0) hr5]; rfl⟩)
      have HPL := hid (lt_of hr5)
      have HW4 := hid hw4
      have HQ5 := hid hp5
      clear hw4 hp5 hr5 b4 hT HB_w3 HB_w2
      go_wp2_with fail
      rw [← HQ5.out, ← HW4.out]
      clear HW4 HQ5
      refine (rev_any to tc n L s f w4 HN.out HT4.out HNM.out HE.out HF.out).mono ?_
      rintro e w5 ⟨B, vo, m, vc, M, R, a, b, rfl, hrs, hB, hBs, hGr, be_w5⟩
      obtain ⟨w6, hw6⟩ : ∃ w6, w6 = w5.alloc (.cells #[.slice vo m vc, .int .i64 a, .int .i64 b] 28) := ⟨_, rfl⟩
      obtain ⟨p6, hp6⟩ : ∃ p, p = w5.heap.size := ⟨_, rfl⟩
      have hr6 : w6.heap[p6]? = some (.cells #[.slice vo m vc, .int .i64 a, .int .i64 b] 28) := by rw [hw6]; exact al_new _ _ hp6
      have b6 : Below w5.heap.size w5 w6 := by rw [hw6]; exact (Below.refl _ _).alloc (Nat.le_refl _) _
      have b46 : Below w4.heap.size w4 w6 := be_w5.trans (b6.mono be_w5.size)
      have HRS := hid hrs
      have HSU := hid (hrs.sums HE.out HF.out)
      have HBB := hid hB
      have HG6 := hid (hGr.keep b6)
      have HML := hid hGr.len
      have HBL := hid (show B ≤ w6.heap.size from by
        have h0 := b46.size
        have h1 := b6.size
        have h2 := hBs
        omega)
      have HB46 := hid b46
      have HBW := hid (HB1.out.trans ((HB4.out.trans (b46.mono HB4.out.size)).mono HB1.out.size))
      have hmm : m ≤ 4096 := by have h1 := HSU.out.2.2.1; have h2 := HML.out; omega
      have HMM := hid (show m ≤ most by unfold most; omega)
      have HMD := hid (show ∀ s ∈ M, s.1.length ≤ most ∧ s.2.length ≤ most ∧ ∀ e ∈ s.1, e.1.length ≤ most from fun x hx => by
        obtain ⟨h1, h2, h3⟩ := HSU.out.2.2.2 x hx
        unfold most
        exact ⟨by omega, by omega, fun e he => by have := h3 e he; omega⟩)
      have HX := hid (show ∀ W, Below w6.heap.size w6 W → (W.cell? ⟨w.heap.size, 0, none⟩ = some (.slice so n sc) ∧ W.cell? ⟨w.heap.size, 1, none⟩ = some (.int .i64 s) ∧ W.cell? ⟨w.heap.size, 2, none⟩ = some (.int .i64 f)) ∧ (W.cell? ⟨p5, 0, none⟩ = some (.slice to n tc) ∧ W.cell? ⟨p5, 1, none⟩ = some (.int .i64 s) ∧ W.cell? ⟨p5, 2, none⟩ = some (.int .i64 f)) ∧ (W.cell? ⟨p6, 0, none⟩ = some (.slice vo m vc) ∧ W.cell? ⟨p6, 1, none⟩ = some (.int .i64 a) ∧ W.cell? ⟨p6, 2, none⟩ = some (.int .i64 b)) from fun W h => ⟨⟨cell_bl h (cell_bl b46 (cell_bl HB4.out HP2.out.1)), cell_bl h (cell_bl b46 (cell_bl HB4.out HP2.out.2.1)), cell_bl h (cell_bl b46 (cell_bl HB4.out HP2.out.2.2))⟩, ⟨cell_bl h (cell_bl b46 HP5.out.1), cell_bl h (cell_bl b46 HP5.out.2.1), cell_bl h (cell_bl b46 HP5.out.2.2)⟩, cell_bl h (by rw [cell_of_row w6 p6 0 _ 28 (0, 0) hr6]; rfl), cell_bl h (by rw [cell_of_row w6 p6 1 _ 28 (0, 0) hr6]; rfl), cell_bl h (by rw [cell_of_row w6 p6 2 _ 28 (0, 0) hr6]; rfl)⟩)
      have HSW := hid (show ∀ W, Below w6.heap.size w6 W → RdS W so L from fun W h => (HS.out.below HBW.out).below h)
      have HTW := hid (show ∀ W, Below w6.heap.size w6 W → RdS W to L from fun W h => (HT4.out.below b46).below h)
      have HCW := hid (show ∀ W, Below w6.heap.size w6 W → RdI W co c from fun W h => (HC.out.below HBW.out).below h)
      have HGW := hid (show ∀ W, Below w6.heap.size w6 W → Gro W B (.slice vo m vc) m M R from fun W h => HG6.out.keep h)
      have HRW := hid (show ∀ W, Below w6.heap.size w6 W → RdS W vo M from fun W h => (HG6.out.keep h).reads HMD.out)
      have HW6 := hid hw6
      have HQ6 := hid hp6
      clear hw6 hp6 hr6 b6 b46 hrs hB hBs hGr be_w5
      go_wp2_with fail
      rw [← HQ6.out, ← HW6.out]
      clear HW6 HQ6
      refine wp_region_mix [(0, true), (1, true), (2, false), (3, false), (4, true), (5, true), (6, true), (7, true), (8, false), (9, true), (10, true)] (fun w' => (w'.cell? ⟨w.heap.size, 0, none⟩ = some (.slice so n sc) ∧ w'.cell? ⟨w.heap.size, 1, none⟩ = some (.int .i64 s) ∧ w'.cell? ⟨w.heap.size, 2, none⟩ = some (.int .i64 f)) ∧ (w'.cell? ⟨p5, 0, none⟩ = some (.slice to n tc) ∧ w'.cell? ⟨p5, 1, none⟩ = some (.int .i64 s) ∧ w'.cell? ⟨p5, 2, none⟩ = some (.int .i64 f)) ∧ (w'.cell? ⟨p6, 0, none⟩ = some (.slice vo m vc) ∧ w'.cell? ⟨p6, 1, none⟩ = some (.int .i64 a) ∧ w'.cell? ⟨p6, 2, none⟩ = some (.int .i64 b))) (fun _ => false) (by kernel_rfl) (by kernel_rfl) (fun j hj => by cases hj) rfl (by kernel_rfl) (HX.out _ (Below.refl _ _).drew) ?_
      iterate 2 (refine mix_free ?_ rfl (by kernel_rfl) (fun w' hS => ?_) ?_; (rotate_left; (obtain ⟨⟨s1, s2, s3⟩, ⟨s4, s5, s6⟩, s7, s8, s9⟩ := hS; go_simp; with_reducible rfl); rotate_left))
      have HBd := hid (show Below w6.heap.size w6 w6.drew from (Below.refl _ _).drew)
      refine mix_go rfl (by kernel_rfl) fun KK hKK => ?_
      go_simp
      refine (rrev_any so sc n L s f w6.drew HN.out (HSW.out _ HBd.out) HNM.out HE.out HF.out).mono ?_
      rintro e w7 ⟨B7, uo, m7, uc, M7, R7, a7, b7, rfl, hrs7, _, _, hGr7, be_w7⟩
      obtain ⟨rfl, rfl, rfl⟩ := HRS.out.uniq hrs7
      obtain rfl : m = m7 := HML.out.symm.trans hGr7.len
      have HB7 := hid (HBd.out.trans (be_w7.mono HBd.out.size))
      have HU7 := hid (hGr7.reads HMD.out)
      refine hKK _ _ (fun _ => HX.out _ HB7.out) ?_
      clear hKK KK be_w7 hGr7 hrs7
      refine mix_go rfl (by kernel_rfl) fun KK hKK => ?_
      go_simp
      refine (same_any vo uo vc uc m M a b w7 HML.out.symm (HRW.out _ HB7.out) HU7.out HMM.out (fun x hx => ⟨(HSU.out.2.2.2 x hx).1, (HSU.out.2.2.2 x hx).2.1⟩)).mono ?_
      rintro e w8 ⟨rfl, be_w8⟩
      have HB8 := hid (HB7.out.trans (be_w8.mono HB7.out.size))
      refine hKK _ _ (fun _ => HX.out _ HB8.out) ?_
      clear hKK KK be_w8
      iterate 2 (refine mix_free ?_ rfl (by kernel_rfl) (fun w' hS => ?_) ?_; (rotate_left; (go_simp; with_reducible rfl); rotate_left))
      iterate 2 (refine mix_free ?_ rfl (by kernel_rfl) (fun w' hS => ?_) ?_; (rotate_left; (obtain ⟨⟨s1, s2, s3⟩, ⟨s4, s5, s6⟩, s7, s8, s9⟩ := hS; go_simp; with_reducible rfl); rotate_left))
      refine mix_go rfl (by kernel_rfl) fun KK hKK => ?_
      go_simp
      refine (same_any to so tc sc n L s f w8 HN.out (HTW.out _ HB8.out) (HSW.out _ HB8.out) HNM.out (fun x hx => ⟨(HLE.out x hx).1, (HLE.out x hx).2.1⟩)).mono ?_
      rintro e w9 ⟨rfl, be_w9⟩
      have HB9 := hid (HB8.out.trans (be_w9.mono HB8.out.size))
      refine hKK _ _ (fun _ => HX.out _ HB9.out) ?_
      clear hKK KK be_w9
      iterate 2 (refine mix_free ?_ rfl (by kernel_rfl) (fun w' hS => ?_) ?_; (rotate_left; (go_simp; with_reducible rfl); rotate_left))
      refine mix_end (NoPanic.normal ?_)
      clear HB7 HB8 HU7 HBd
      go_wp2
      go_loopw [7, 8] (fun x y wr => ∃ (k : Nat) (dO : Option Addr) (dc : Nat), x = .slice dO k dc ∧ y = .int .i64 ((cl : Int) - 1 - k) ∧ k ≤ cl ∧ Hid (wr.ownsRow w9.heap.size 3 1 (.slice dO k dc) k (i64s (c.reverse.take k))) ∧ Hid (Below w9.heap.size w9 wr)) (fun _ y _ => ((intOf y) + 1).toNat)
      case atStart => exact ⟨0, none, 0, rfl, by simp, Nat.zero_le _, World.ownsRow_nil _ _ _ _, Below.refl _ _⟩
      case round =>
        obtain ⟨k, dO, dc, rfl, rfl, hk, HO, HBR⟩ := hrel
        have HBW9 := hid (HB9.out.trans (HBR.out.mono HB9.out.size))
        by_cases hkc : k < cl
        · obtain ⟨j, hj⟩ : ∃ j : Nat, cl - 1 - k = j := ⟨_, rfl⟩
          have hjj : (cl : Int) - 1 - k = (j : Int) := by omega
          rw [hjj]
          have j0 : (0 : Int) ≤ (j : Int) := by omega
          have j1 : (j : Int) < (cl : Int) := by omega
          have hjc : j < c.length := by have := HCL.out; omega
          obtain ⟨z, hz⟩ : ∃ z, c[j]? = some z := ⟨_, List.getElem?_eq_getElem hjc⟩
          obtain ⟨q, eq, hqb, u0⟩ := HCW.out _ HBW9.out j z hz
          subst eq
          have HRV := hid (show c.reverse.take (k + 1) = c.reverse.take k ++ [z] from by
            rw [List.take_add_one, List.getElem?_reverse (by have := HCL.out; omega), show c.length - 1 - k = j by have := HCL.out; omega, hz]
            rfl)
          have hs9 := HBR.out.size
          have HJJ := hid hjj
          clear hz hjc hqb hjj hj
          go_wp2_with (at_builtin; go_loud (refine wpList_append_lies _ rfl _ _ 22 rfl w9.heap.size 3 i3x (.int .i64 0) 1 8 Tryd.underlying22 hi3 hz0 hz1' hz2 rfl (by decide) (.slice dO k dc) k (i64s (c.reverse.take k)) rfl (HO.out.alloc _) ⟨wr.heap.size, 0, none⟩ 1 1 [.int .i64 z] rfl rfl (news1 wr _ 3) (fun u hu => by simp at hu; rw [hu]; rfl) (by decide) (by unfold maxLen; omega) (by omega) (by simp; omega) (wr.heap.size + 1) (by simp) ?_); intro g9 c9 w10 o9 gr9 hl9 hlt9)
          have HO9 := hid (show w10.ownsRow w9.heap.size 3 1 (.slice (some ⟨g9, 0, none⟩) (k + 1) c9) (k + 1) (i64s (c.reverse.take (k + 1))) by rw [HRV.out]; simpa [i64s] using o9)
          have HB10 := hid ((HBR.out.alloc hs9 (.cells #[.int .i64 z] 3)).grown gr9 (by simp; omega) (fun b hb => (HO.out.lt b hb).1))
          clear o9 gr9 hl9 hlt9 u0
          go_roundw
          case rel => exact ⟨k + 1, some ⟨g9, 0, none⟩, c9, rfl, by have := HJJ.out; go_num, by omega, HO9, HB10⟩
          case measure => simp [intOf]
        · have hkc' : k = cl := by omega
          subst hkc'
          have e1 : ((k : Int) - 1 - k) = -1 := by omega
          rw [e1]
          have HD := hid (show RdI wr dO c.reverse from by
            have h := HO.out
            rw [List.take_of_length_le (by rw [List.length_reverse]; have := HCL.out; omega)] at h
            exact rdi_own h)
          have HDL := hid (show k = c.reverse.length by rw [List.length_reverse]; exact HCL.out)
          clear HO e1 HBR
          go_wp2_with fail
          refine wp_region_mix [(0, true), (1, false), (2, true), (3, true), (4, true), (6, true), (7, true), (5, false), (8, false), (9, true), (10, true), (11, true), (13, true), (15, true), (16, true), (12, false), (14, false), (17, false), (18, true), (19, true), (20, true)] (fun w' => (w'.cell? ⟨w.heap.size, 0, none⟩ = some (.slice so n sc) ∧ w'.cell? ⟨w.heap.size, 1, none⟩ = some (.int .i64 s) ∧ w'.cell? ⟨w.heap.size, 2, none⟩ = some (.int .i64 f)) ∧ (w'.cell? ⟨p5, 0, none⟩ = some (.slice to n tc) ∧ w'.cell? ⟨p5, 1, none⟩ = some (.int .i64 s) ∧ w'.cell? ⟨p5, 2, none⟩ = some (.int .i64 f)) ∧ (w'.cell? ⟨p6, 0, none⟩ = some (.slice vo m vc) ∧ w'.cell? ⟨p6, 1, none⟩ = some (.int .i64 a) ∧ w'.cell? ⟨p6, 2, none⟩ = some (.int .i64 b))) (fun _ => false) (by kernel_rfl) (by kernel_rfl) (fun j hj => by cases hj) rfl (by kernel_rfl) (HX.out _ HBW9.out.drew) ?_
          iterate 1 (refine mix_free ?_ rfl (by kernel_rfl) (fun w' hS => ?_) ?_; (rotate_left; (obtain ⟨⟨s1, s2, s3⟩, ⟨s4, s5, s6⟩, s7, s8, s9⟩ := hS; go_simp; with_reducible rfl); rotate_left))
          have HBd := hid HBW9.out.drew
          have HDd := hid (show ∀ W, Below wr.heap.size wr W → RdI W dO c.reverse from fun W h => HD.out.below h)
          refine mix_go rfl (by kernel_rfl) fun KK hKK => ?_
          go_simp
          refine (rgood_any so sc n L s f wr.drew HN.out (HSW.out _ HBd.out) HNM.out).mono ?_
          rintro e w11 ⟨rfl, be_w11⟩
          have HB11 := hid (HBd.out.trans (be_w11.mono HBd.out.size))
          have HR11 := hid (show Below wr.heap.size wr w11 from ((Below.refl _ _).drew).trans be_w11)
          clear be_w11
          rcases bool_cases (gdB L s f) with hG | hG
          · rw [hG]
            have HGB := hid hG
            have HMR := hid (HRS.out.yes hG)
            have HGM := hid (show gdB M a b = true by obtain ⟨h1, h2, h3⟩ := HMR.out; rw [h1, h2, h3]; exact gd_rv HGB.out)
            clear hG
            refine hKK _ _ (fun _ => HX.out _ HB11.out) ?_
            clear hKK KK
            iterate 1 (refine mix_free ?_ rfl (by kernel_rfl) (fun w' hS => ?_) ?_; (rotate_left; (go_simp; with_reducible rfl); rotate_left))
            iterate 4 (refine mix_free ?_ rfl (by kernel_rfl) (fun w' hS => ?_) ?_; (rotate_left; (obtain ⟨⟨s1, s2, s3⟩, ⟨s4, s5, s6⟩, s7, s8, s9⟩ := hS; go_simp; with_reducible rfl); rotate_left))
            obtain ⟨T, hT⟩ : ∃ T, T = tk L s f c := ⟨_, rfl⟩
            have HT := hid hT
            have HTR := hid (show tk M a b c.reverse = T by obtain ⟨h1, h2, h3⟩ := HMR.out; rw [h1, h2, h3, tk_rv HGB.out, HT.out])
            clear hT
            refine mix_go rfl (by kernel_rfl) fun KK hKK => ?_
            go_simp
            refine (takesA_any vo vc m M a b dO k dc c.reverse w11 HML.out.symm (HRW.out _ HB11.out) HMM.out HSU.out.1 HSU.out.2.1 (HDd.out _ HR11.out) HDL.out hc6).mono ?_
            intro e w12 htk
            obtain ⟨rfl, be_w12⟩ := htk.tk HGM.out
            rw [HTR.out]
            have HB12 := hid (HB11.out.trans (be_w12.mono HB11.out.size))
            refine hKK _ _ (fun _ => HX.out _ HB12.out) ?_
            clear hKK KK be_w12 htk
            refine mix_go rfl (by kernel_rfl) fun KK hKK => ?_
            go_simp
            refine (takesA_any so sc n L s f co k cc c w12 HN.out (HSW.out _ HB12.out) HNM.out HE.out HF.out (HCW.out _ HB12.out) HCL.out hc6).mono ?_
            intro e w13 htk
            obtain ⟨rfl, be_w13⟩ := htk.tk HGB.out
            rw [← HT.out]
            have HB13 := hid (HB12.out.trans (be_w13.mono HB12.out.size))
            refine hKK _ _ (fun _ => HX.out _ HB13.out) ?_
            clear hKK KK be_w13 htk
            iterate 2 (refine mix_free ?_ rfl (by kernel_rfl) (fun w' hS => ?_) ?_; (rotate_left; (go_simp; with_reducible rfl); rotate_left))
            iterate 4 (refine mix_free ?_ rfl (by kernel_rfl) (fun w' hS => ?_) ?_; (rotate_left; (obtain ⟨⟨s1, s2, s3⟩, ⟨s4, s5, s6⟩, s7, s8, s9⟩ := hS; go_simp; with_reducible rfl); rotate_left))
            refine mix_go rfl (by kernel_rfl) fun KK hKK => ?_
            go_simp
            refine (rev_any vo vc m M a b w13 HML.out.symm (HRW.out _ HB13.out) HMM.out HSU.out.1 HSU.out.2.1).mono ?_
            rintro e w14 ⟨B14, uo, m14, uc, M14, R14, a14, b14, rfl, hrs14, _, _, hGr14, be_w14⟩
            have HB14 := hid (HB13.out.trans (be_w14.mono HB13.out.size))
            have hsu := hrs14.sums HSU.out.1 HSU.out.2.1
            have HSU14 := hid hsu
            have HU14 := hid (hGr14.reads (fun x hx => by
              obtain ⟨h1, h2, h3⟩ := hsu.2.2.2 x hx
              unfold most
              exact ⟨by omega, by omega, fun e he => by have := h3 e he; omega⟩))
            have HL14 := hid hGr14.len
            have hm14 : m14 ≤ most := by have := hsu.2.2.1; have := hGr14.len; unfold most; omega
            have HY14 := hid (hrs14.yes HGM.out)
            have HGM14 := hid (show gdB M14 a14 b14 = true by obtain ⟨h1, h2, h3⟩ := HY14.out; rw [h1, h2, h3]; exact gd_rv HGM.out)
            have HTR14 := hid (show tk M14 a14 b14 c = T by
              obtain ⟨h1, h2, h3⟩ := HY14.out
              have h4 := tk_rv HGM.out c.reverse
              rw [List.reverse_reverse] at h4
              rw [h1, h2, h3, h4, HTR.out])
            refine hKK _ _ (fun _ => HX.out _ HB14.out) ?_
            clear hKK KK be_w14 hrs14 hGr14 hsu
            refine mix_go rfl (by kernel_rfl) fun KK hKK => ?_
            go_simp
            refine (takesA_any uo uc m14 M14 a14 b14 co k cc c w14 HL14.out.symm HU14.out hm14 HSU14.out.1 HSU14.out.2.1 (HCW.out _ HB14.out) HCL.out hc6).mono ?_
            intro e w15 htk
            obtain ⟨rfl, be_w15⟩ := htk.tk HGM14.out
            rw [HTR14.out]
            have HB15 := hid (HB14.out.trans (be_w15.mono HB14.out.size))
            refine hKK _ _ (fun _ => HX.out _ HB15.out) ?_
            clear hKK KK be_w15 htk HU14 HL14 HY14 HGM14 HTR14 HSU14
            refine mix_go rfl (by kernel_rfl) fun KK hKK => ?_
            go_simp
            refine (takesA_any so sc n L s f co k cc c w15 HN.out (HSW.out _ HB15.out) HNM.out HE.out HF.out (HCW.out _ HB15.out) HCL.out hc6).mono ?_
            intro e w16 htk
            obtain ⟨rfl, be_w16⟩ := htk.tk HGB.out
            rw [← HT.out]
            have HB16 := hid (HB15.out.trans (be_w16.mono HB15.out.size))
            refine hKK _ _ (fun _ => HX.out _ HB16.out) ?_
            clear hKK KK be_w16 htk
            iterate 3 (refine mix_free ?_ rfl (by kernel_rfl) (fun w' hS => ?_) ?_; (rotate_left; (go_simp; with_reducible rfl); rotate_left))
            refine mix_end (NoPanic.normal ?_)
            clear HB11 HB12 HB13 HB14 HB15 HBd HDd HD HDL HR11 HMR HGM HT HTR HBW9
            obtain ⟨x0, x1, x2⟩ := (HX.out _ HB16.out).2.2
            go_wp2_with fail
            refine (spoil_any B vo vc m a b R w16 ((HGW.out _ HB16.out).spoils HSU.out.2.2.2) (by omega) (by have h1 := HBL.out; have h2 := HB16.out.size; omega)).mono ?_
            rintro e w17 ⟨rfl, be_w17⟩
            have h4B := HBB.out
            have HBS := hid (show Below w4.heap.size w4 w17 from (HB46.out.trans (HB16.out.mono HB46.out.size)).trans (be_w17.mono h4B))
            have HBZ := hid (show Below w.heap.size w w17 from HB1.out.trans ((HB4.out.trans (HBS.out.mono HB4.out.size)).mono HB1.out.size))
            have y0 := cell_bl HBS.out HP5.out.1
            have y1 := cell_bl HBS.out HP5.out.2.1
            have y2 := cell_bl HBS.out HP5.out.2.2
            have z0 := cell_bl HBS.out (cell_bl HB4.out HP2.out.1)
            have z1 := cell_bl HBS.out (cell_bl HB4.out HP2.out.2.1)
            have z2 := cell_bl HBS.out (cell_bl HB4.out HP2.out.2.2)
            clear be_w17 x0 x1 x2 h4B
            go_wp2_with fail
            refine (same_any to so tc sc n L s f w17 HN.out (HT4.out.below HBS.out) (HS.out.below HBZ.out) HNM.out (fun x hx => ⟨(HLE.out x hx).1, (HLE.out x hx).2.1⟩)).mono ?_
            rintro e w18 ⟨rfl, be_w18⟩
            have HB18 := hid (HBZ.out.trans (be_w18.mono HBZ.out.size))
            clear be_w18 y0 y1 y2 z0 z1 z2
            go_wp2_with fail
            refine (live_tb (HTB.out.keep HB18.out hp)).mono ?_
            rintro e w19 ⟨rfl, be_w19⟩
            have HB19 := hid (HB18.out.trans (be_w19.mono HB18.out.size))
            clear be_w19
            go_wp2
            go_ret
            exact ⟨rfl, HB19.out⟩
          · rw [hG]
            obtain ⟨w16, hw16⟩ : ∃ w16, w16 = w11 := ⟨_, rfl⟩
            rw [← hw16] at HB11 HR11 ⊢
            have HB16 := hid HB11.out
            refine hKK _ _ (fun _ => HX.out _ HB16.out) ?_
            clear hKK KK hw16 hG
            iterate 1 (refine mix_free ?_ rfl (by kernel_rfl) (fun w' hS => ?_) ?_; (rotate_left; (go_simp; with_reducible rfl); rotate_left))
            refine mix_pass0 rfl (by kernel_rfl) (by kernel_rfl) ?_
            refine mix_pass0 rfl (by kernel_rfl) (by kernel_rfl) ?_
            refine mix_pass0 rfl (by kernel_rfl) (by kernel_rfl) ?_
            refine mix_pass0 rfl (by kernel_rfl) (by kernel_rfl) ?_
            refine mix_skip0 rfl (by kernel_rfl) (by kernel_rfl) (fun _ => HX.out _ HB16.out) ?_
            refine mix_skip0 rfl (by kernel_rfl) (by kernel_rfl) (fun _ => HX.out _ HB16.out) ?_
            refine mix_pass0 rfl (by kernel_rfl) (by kernel_rfl) ?_
            refine mix_pass0 rfl (by kernel_rfl) (by kernel_rfl) ?_
            refine mix_pass0 rfl (by kernel_rfl) (by kernel_rfl) ?_
            refine mix_pass0 rfl (by kernel_rfl) (by kernel_rfl) ?_
            refine mix_pass0 rfl (by kernel_rfl) (by kernel_rfl) ?_
            refine mix_pass0 rfl (by kernel_rfl) (by kernel_rfl) ?_
            refine mix_skip0 rfl (by kernel_rfl) (by kernel_rfl) (fun _ => HX.out _ HB16.out) ?_
            refine mix_skip0 rfl (by kernel_rfl) (by kernel_rfl) (fun _ => HX.out _ HB16.out) ?_
            refine mix_skip0 rfl (by kernel_rfl) (by kernel_rfl) (fun _ => HX.out _ HB16.out) ?_
            refine mix_pass0 rfl (by kernel_rfl) (by kernel_rfl) ?_
            refine mix_pass0 rfl (by kernel_rfl) (by kernel_rfl) ?_
            iterate 1 (refine mix_free ?_ rfl (by kernel_rfl) (fun w' hS => ?_) ?_; (rotate_left; (go_simp; with_reducible rfl); rotate_left))
            refine mix_end (NoPanic.normal ?_)
            clear HB11 HBd HDd HD HDL HR11 HBW9
            obtain ⟨x0, x1, x2⟩ := (HX.out _ HB16.out).2.2
            go_wp2_with fail
            refine (spoil_any B vo vc m a b R w16 ((HGW.out _ HB16.out).spoils HSU.out.2.2.2) (by omega) (by have h1 := HBL.out; have h2 := HB16.out.size; omega)).mono ?_
            rintro e w17 ⟨rfl, be_w17⟩
            have h4B := HBB.out
            have HBS := hid (show Below w4.heap.size w4 w17 from (HB46.out.trans (HB16.out.mono HB46.out.size)).trans (be_w17.mono h4B))
            have HBZ := hid (show Below w.heap.size w w17 from HB1.out.trans ((HB4.out.trans (HBS.out.mono HB4.out.size)).mono HB1.out.size))
            have y0 := cell_bl HBS.out HP5.out.1
            have y1 := cell_bl HBS.out HP5.out.2.1
            have y2 := cell_bl HBS.out HP5.out.2.2
            have z0 := cell_bl HBS.out (cell_bl HB4.out HP2.out.1)
            have z1 := cell_bl HBS.out (cell_bl HB4.out HP2.out.2.1)
            have z2 := cell_bl HBS.out (cell_bl HB4.out HP2.out.2.2)
            clear be_w17 x0 x1 x2 h4B
            go_wp2_with fail
            refine (same_any to so tc sc n L s f w17 HN.out (HT4.out.below HBS.out) (HS.out.below HBZ.out) HNM.out (fun x hx => ⟨(HLE.out x hx).1, (HLE.out x hx).2.1⟩)).mono ?_
            rintro e w18 ⟨rfl, be_w18⟩
            have HB18 := hid (HBZ.out.trans (be_w18.mono HBZ.out.size))
            clear be_w18 y0 y1 y2 z0 z1 z2
            go_wp2_with fail
            refine (live_tb (HTB.out.keep HB18.out hp)).mono ?_
            rintro e w19 ⟨rfl, be_w19⟩
            have HB19 := hid (HB18.out.trans (be_w19.mono HB18.out.size))
            clear be_w19
            go_wp2
            go_ret
            exact ⟨rfl, HB19.out⟩
    · have i60 : (60 : Int) < (cl : Int) := by omega
      go_wp2_with fail
      refine (live_tb (HTB.out.keep (HB1.out.trans (HB_w2.out.mono HB1.out.size)) hp)).mono ?_
      rintro e w3 ⟨rfl, be_w3⟩
      have HB_w3 := hid (HB1.out.trans ((HB_w2.out.trans (be_w3.mono HB_w2.out.size)).mono HB1.out.size))
      clear be_w3
      go_wp2
      go_ret
      exact ⟨rfl, HB_w3.out⟩
end Go.Proofs.YteacehfihogmpaaDoor
