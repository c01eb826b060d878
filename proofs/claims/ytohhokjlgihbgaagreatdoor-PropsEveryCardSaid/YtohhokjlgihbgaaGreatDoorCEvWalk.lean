/- The walk of PropsEvery. -/
import Derived.Deep.RegionHeld3
import Derived.Test.YtohhokjlgihbgaaGreatDoorCEvKit
import Derived.Test.YtohhokjlgihbgaaGreatDoorCBare
import Derived.Test.YtohhokjlgihbgaaGreatDoorCEvMath
import Derived.Test.YtohhokjlgihbgaaGreatDoorCRCnt
import Derived.Test.YtohhokjlgihbgaaGreatDoorCLive4
namespace Go.Proofs.YtohhokjlgihbgaaGreatDoor
open Go.RowKit

theorem alS_le (A : List Tr) : ∀ k, (alS A k).length + (A.filter fun g => decide (k ≤ g.2.2)).length = A.length
  | 0 => by
    have e : (A.filter fun g => decide (0 ≤ g.2.2)) = A := List.filter_eq_self.2 (fun _ _ => by simp)
    rw [e]; simp [alS]
  | k + 1 => by
    have ih := alS_le A k
    have h5 : (A.filter fun g => decide (k ≤ g.2.2)).length = (stc (k : Int) A).length + (A.filter fun g => decide (k + 1 ≤ g.2.2)).length := by
      clear ih
      induction A with
      | nil => rfl
      | cons g R ih =>
        rw [stc_cons, List.filter_cons, List.filter_cons]
        by_cases h1 : g.2.2 = k
        · rw [if_pos (show decide (k ≤ g.2.2) = true from decide_eq_true (by omega)), if_neg (show ¬ decide (k + 1 ≤ g.2.2) = true from by rw [decide_eq_true_iff]; omega), if_pos (show (g.2.2 : Int) = (k : Int) by omega), List.length_cons, List.length_append, ih, List.length_singleton]
          omega
        · by_cases h2 : k ≤ g.2.2
          · rw [if_pos (show decide (k ≤ g.2.2) = true from decide_eq_true h2), if_pos (show decide (k + 1 ≤ g.2.2) = true from decide_eq_true (by omega)), if_neg (show ¬ (g.2.2 : Int) = (k : Int) by omega), List.length_cons, List.length_cons, List.nil_append, ih]
            omega
          · rw [if_neg (show ¬ decide (k ≤ g.2.2) = true from by rw [decide_eq_true_iff]; omega), if_neg (show ¬ decide (k + 1 ≤ g.2.2) = true from by rw [decide_eq_true_iff]; omega), if_neg (show ¬ (g.2.2 : Int) = (k : Int) by omega), List.nil_append, ih]
    unfold alS
    rw [List.length_append]
    omega
theorem szk_bd : ∀ (A : List Tr) (a b k : Nat), Cov a A b → 0 ≤ szk k A ∧ szk k A ≤ (b : Int) - (a : Int)
  | [], a, b, k, h => by have h' : a = b := h; unfold szk; omega
  | g :: R, a, b, k, h => by
    obtain ⟨c1, c2, c3⟩ := h
    have ih := szk_bd R _ b k c3
    unfold szk
    split <;> omega

set_option maxRecDepth 100000 in
set_option maxHeartbeats 4000000 in
theorem every_walk (t : List UInt8) (ao : Option Addr) (ac : Nat) (zs : List Int) (m : Int) (w : World) (h : Tbs m w) (hz : RdZ w ao zs) (ht : t.length ≤ 9223372036854775807) (hzl : zs.length ≤ 9223372036854775807) :
    Calls Tryz.prog 5 #[.string ⟨t.toArray⟩, .slice ao zs.length ac] w fun e w' => e = .returned (.bool true) ∧ Below w.heap.size w w' := by
  have HT := hid h
  have HLV := hid (live_any m)
  have HNU := hid num_any
  have HSZ := hid (show (⟨t.toArray⟩ : ByteArray).size = t.length by show t.toArray.size = _; simp)
  obtain ⟨nz, hnz⟩ : ∃ nz, nz = zs.length := ⟨_, rfl⟩
  have HNZ := hid hnz
  have HZ := hid hz
  rw [← hnz] at hzl ⊢
  clear h hz hnz
  by_cases h1 : 12000 < t.length
  · have h1' : (12000 : Int) < (t.length : Int) := by omega
    go_enter Tryz.func5, Tryz.ntmps5
    go_wp2_with fail
    refine (HLV.out w HT.out).mono ?_
    rintro e w1 ⟨rfl, b1⟩
    have HB1 := hid b1
    clear b1
    go_wp2
    go_ret
    exact ⟨rfl, HB1.out⟩
  have h1' : ¬ (12000 : Int) < (t.length : Int) := by omega
  by_cases h2 : 300 < nz
  · have h2' : (300 : Int) < (nz : Int) := by omega
    go_enter Tryz.func5, Tryz.ntmps5
    go_wp2_with fail
    refine (HLV.out w HT.out).mono ?_
    rintro e w1 ⟨rfl, b1⟩
    have HB1 := hid b1
    clear b1
    go_wp2
    go_ret
    exact ⟨rfl, HB1.out⟩
  have h2' : ¬ (300 : Int) < (nz : Int) := by omega
  have HNE := hid (new_any t m w HT.out)
  have HGD := hid (nw_good t)
  obtain ⟨er, her⟩ : ∃ er, er = (nw t).1.1 := ⟨_, rfl⟩
  obtain ⟨ln, hln⟩ : ∃ ln, ln = (nw t).1.2 := ⟨_, rfl⟩
  obtain ⟨U, hU⟩ : ∃ U, U = (nw t).2.1 := ⟨_, rfl⟩
  obtain ⟨S, hS⟩ : ∃ S, S = (nw t).2.2 := ⟨_, rfl⟩
  rw [← her, ← hln, ← hU, ← hS] at HNE
  rw [← her, ← hU, ← hS] at HGD
  clear her hln hU hS
  go_enter Tryz.func5, Tryz.ntmps5
  go_wp2_with fail
  refine HNE.out.mono ?_
  rintro e w1 ⟨b1, (⟨hne, rfl⟩ | ⟨he0, P, K, nv, po, pc, rfl, d1, o1, r1, nd1, ln1⟩)⟩
  · have HB1 := hid b1
    have hne' : (er == 0) = false := beq_eq_false_iff_ne.2 hne
    have HL := hid (HLV.out w1 (HT.out.below b1))
    clear b1 HNE
    go_wp2_with (first | (go_at_call 12; refine (HNU.out _ _).mono ?_; rintro e w2 ⟨rfl, hw⟩; obtain rfl := hw.symm) | fail)
    refine HL.out.mono ?_
    rintro e w2 ⟨rfl, b2⟩
    have HB2 := hid (HB1.out.trans (b2.mono HB1.out.size))
    clear b2 HB1 HL
    go_wp2
    go_ret
    exact ⟨rfl, HB2.out⟩
  obtain ⟨hg1, hg2⟩ := HGD.out he0
  obtain ⟨k1, k2, k3, k4⟩ := whl_good U S hg1 r1
  obtain ⟨st1, st2⟩ := whl_st S r1
  obtain ⟨A, hA⟩ : ∃ A, A = whl S := ⟨_, rfl⟩
  rw [← hA] at k1 k2 k3 k4 st1 st2 d1 o1
  have hAl : A.length ≤ 24001 := by omega
  obtain ⟨n, hn⟩ : ∃ n, n = U.length := ⟨_, rfl⟩
  rw [← hn] at k3 ln1
  have hU0 : 0 < U.length := (List.getElem?_eq_some_iff.1 hg1.1).1
  obtain ⟨N, hN⟩ : ∃ N, N = w1.heap.size := ⟨_, rfl⟩
  have HB1 := hid b1
  have HT1 := hid (HT.out.below b1)
  have HDB := hid (show ∀ W, Below N w1 W → DbAt w.heap.size P K U nv (.slice po A.length pc) W ∧ RdK W po (A.map rkT) from fun W hW => ⟨d1.below (by rw [← hN]; exact hW), (rd_own o1).below (by rw [← hN]; exact hW)⟩)
  have HZW := hid (show ∀ W, Below N w1 W → RdZ W ao zs from fun W hW => (HZ.out.below b1).below (by rw [← hN]; exact hW))
  have HSET := hid (show ∀ (i : Nat) W, Below N w1 W → Calls Tryz.prog 20 #[.pointer (some ⟨P, 0, none⟩), .int .i64 (i : Int)] W fun e w' => ∃ v', e = .returned v' ∧ w'.ownsRow W.heap.size 84 2 v' (stc (i : Int) A).length (rgcs (stc (i : Int) A)) ∧ Below W.heap.size W w' from fun i W hW => set_any w.heap.size P K U nv po pc A (i : Int) W (HDB.out W hW).1 (HDB.out W hW).2 (by omega))
  have HGET := hid (show ∀ (z : Int) W, Below N w1 W → Calls Tryz.prog 24 #[.pointer (some ⟨P, 0, none⟩), .int .i32 z] W fun e w' => e = .returned (.int .i64 (gtp (instd z) A : Nat)) ∧ Below W.heap.size W w' from fun z W hW => get_any w.heap.size P K U nv po pc A z W (HDB.out W hW).1 (HDB.out W hW).2 (by omega) st1 st2)
  have HNA := hid (names_any w.heap.size P K U nv (.slice po A.length pc) w1 d1 hU0 (by omega))
  rw [← hn] at HNA
  have HK1 := hid k1
  have HNF := hid (fun (i : Nat) => (nf_stc A 0 1114112 (i : Int) k1 k2 (by omega)).1)
  have HTOT := hid (szk_all A 0 1114112 n k1 k3)
  have HALL := hid (nrm_alS A n k1 k3)
  have HNN := hid hN
  have HAE := hid hA
  clear hg1 hg2 r1 nd1 k1 k2 k3 k4 st1 st2 d1 o1 hA hn hU0 b1 HNE HGD he0 hN
  go_wp2_with (first | (go_at_call 12; refine (HNU.out _ _).mono ?_; rintro e w2 ⟨rfl, hw⟩; obtain rfl := hw.symm) | fail)
  refine HNA.out.mono ?_
  rintro e w2 ⟨v2, rfl, o2, b2⟩
  obtain ⟨vo2, vc2, rfl⟩ := own_form o2
  have HB2 := hid (show Below N w1 w2 by rw [HNN.out]; exact b2)
  clear o2 b2 HNA
  obtain ⟨i0, hi84, hz0, hz1, hz2⟩ := info_parts Tryz.info84
  go_wp2
  go_loopw [9, 10, 11] (fun x y z wr => ∃ (i na : Nat) (yo : Option Addr) (yc : Nat), x = .int .i64 (szk i A) ∧ y = .slice yo na yc ∧ z = .int .i64 (i : Int) ∧ i ≤ n ∧ Hid (na = (alS A i).length) ∧ Hid (wr.ownsRow N 84 2 (.slice yo na yc) na (rgcs (alS A i))) ∧ Hid (Below N w1 wr)) (fun _ _ z _ => n - (intOf z).toNat)
  case atStart => exact ⟨0, 0, none, 0, by rw [szk_zero], rfl, rfl, by omega, rfl, World.ownsRow_nil w2 N 84 2, HB2⟩
  case round =>
    obtain ⟨i, na, yo, yc, rfl, rfl, rfl, hi, HNL, HY, HB⟩ := hrel
    obtain ⟨wo, hwo⟩ : ∃ wo, wo = wr := ⟨_, rfl⟩
    rw [← hwo] at HY HB ⊢
    clear hwo HB2
    have hNo : N ≤ wo.heap.size := by have h5 := HB.out.size; have h6 := HNN.out; omega
    by_cases hlt : i < n
    · have i3 : (i : Int) < (n : Int) := by omega
      have HS1 := hid (HSET.out i wo HB.out)
      have HNFi := hid (HNF.out i)
      have HCN := hid (szk_succ i A)
      have HAS := hid (show alS A (i + 1) = alS A i ++ stc (i : Int) A from rfl)
      have HHS := hid (fun (z : Int) (q0 : 0 ≤ z) (q1 : z ≤ 1114111) => has_stc A HK1.out z i q0 q1)
      have hGl := stc_len (i : Int) A
      have hbd1 := szk_bd A 0 1114112 i HK1.out
      have hbd2 := szk_bd A 0 1114112 (i + 1) HK1.out
      have hal := alS_le A i
      have hal2 := alS_le A (i + 1)
      obtain ⟨G, hG⟩ : ∃ G, G = stc (i : Int) A := ⟨_, rfl⟩
      rw [← hG] at HS1 HNFi HCN HAS HHS hGl
      obtain ⟨si, hsi⟩ : ∃ si, si = szk i A := ⟨_, rfl⟩
      rw [← hsi] at hbd1 HCN ⊢
      rw [HCN.out] at hbd2
      have hna : na ≤ 24001 := by have h5 := HNL.out; omega
      have HSI := hid hsi
      clear hG hal hal2 hsi
      go_wp2_with fail
      refine HS1.out.mono ?_
      rintro e w3 ⟨v3, rfl, o3, b3⟩
      obtain ⟨go', gc, rfl, rd3⟩ := rdr_row o3
      have hgc : go' = none → gc = 0 := fun e => by
        rcases o3.2 with ⟨h5, _⟩ | ⟨q, cap, cur, h5, _⟩
        · simp only [Value.slice.injEq] at h5; exact h5.2.2
        · rw [e] at h5; simp at h5
      have HGC := hid hgc
      have HRW := hid (show ∀ a : Addr, go' = some a → (Value.slice yo na yc).ownBlock ≠ some a.block from fun a e e2 => by
        have h5 := (HY.out.lt _ e2).2
        rcases o3.2 with ⟨h6, _⟩ | ⟨q, cap, cur, h6, h7, _⟩
        · rw [e] at h6; simp at h6
        · rw [e] at h6; simp only [Value.slice.injEq, Option.some.injEq] at h6
          have h8 : a.block = q := by rw [h6.1]
          omega)
      have HRD3 := hid rd3
      have HB3 := hid (HB.out.trans (b3.mono hNo))
      have HY3 := hid (own_keep HY.out b3)
      have hN3 : N ≤ w3.heap.size := by have h5 := b3.size; omega
      have HIS := hid (ris_any go' gc G w3 rd3 (by omega))
      rw [(nfB_iff G 0).2 HNFi.out] at HIS
      clear b3 o3 rd3 hgc HS1 HB HY
      obtain ⟨ng, hng⟩ : ∃ ng, ng = G.length := ⟨_, rfl⟩
      have HNG := hid hng
      rw [← hng] at HIS hGl ⊢
      clear hng
      go_wp2_with fail
      refine HIS.out.mono ?_
      rintro e w4 ⟨rfl, b4⟩
      have HRD4 := hid (HRD3.out.below b4)
      have HB4 := hid (HB3.out.trans (b4.mono hN3))
      have HY4 := hid (own_keep HY3.out b4)
      have hN4 : N ≤ w4.heap.size := by have h5 := b4.size; omega
      have HCT := hid (rcount_any go' gc G w4 HRD4.out (by have h5 := HNG.out; omega))
      rw [nrm_self G HNFi.out, ← HNG.out] at HCT
      obtain ⟨cg, hcg⟩ : ∃ cg, cg = cntF G := ⟨_, rfl⟩
      rw [← hcg] at HCT HCN hbd2
      clear b4 HIS HB3 HY3 HRD3 hcg hN3
      have e1 : IntKind.i64.wrap (si + cg) = si + cg := by rw [IntKind.wrap_i64]; omega
      go_wp2_with fail
      refine HCT.out.mono ?_
      rintro e w5 ⟨rfl, b5⟩
      have HRD5 := hid (HRD4.out.below b5)
      have HB5 := hid (HB4.out.trans (b5.mono hN4))
      have HY5 := hid (own_keep HY4.out b5)
      have hN5 : N ≤ w5.heap.size := by have h5 := b5.size; omega
      clear b5 HCT HB4 HY4 HRD4 hN4
      go_wp2_with (at_builtin; refine wpList_append_rg rfl _ _ 47 rfl N 84 i0 (.agg #[.int .i32 0, .int .i32 0]) 8 Tryz.underlying47 hi84 hz0 hz1 hz2 (by rfl) _ na (rgcs (alS A i)) rfl HY5.out go' gc G (by rw [← HNG.out]; rfl) HGC.out HRD5.out (by have h5 := HNG.out; unfold maxLen; omega) (by have h5 := HNG.out; omega) hN5 ?_; intro v6 w6 o6 gr6; rw [← HNG.out] at o6; obtain ⟨xo, xc, rfl⟩ := own_form o6; have HG6 := hid gr6; have HY6 := hid o6; clear o6 gr6)
      have HB6 := hid (HB5.out.grown HG6.out hN5 (fun k hk => (HY5.out.lt k hk).1))
      have HRD6 := hid (show RdR w6 go' G from fun k g hk => by
        obtain ⟨a, q1, q2, q3, q4⟩ := HRD5.out k g hk
        have hb : w6.heap[a.block]? = w5.heap[a.block]? := HG6.out.block a.block q2 (fun e => HRW.out a q1 e.symm)
        exact ⟨a, q1, Nat.lt_of_lt_of_le q2 HG6.out.size, (World.cell?_of_block (w := w5) (a := a.add (k * 2)) (by rw [add_blk]; exact hb)).trans q3, (World.cell?_of_block (w := w5) (a := ⟨(a.add (k * 2)).block, (a.add (k * 2)).off + 1, none⟩) (by show _[(a.add (k * 2)).block]? = _[(a.add (k * 2)).block]?; rw [add_blk]; exact hb)).trans q4⟩)
      obtain ⟨nn, hnn⟩ : ∃ nn, nn = na + ng := ⟨_, rfl⟩
      have HNN2 := hid hnn
      rw [← hnn] at HY6 ⊢
      clear hnn HG6 HB5 HY5 HRD5 HRW HGC
      go_loopw [13] (fun x wr => ∃ k : Nat, x = .int .i64 (k : Int) ∧ k ≤ nz ∧ Hid (wr.ownsRow N 84 2 (.slice xo nn xc) nn (rgcs (alS A i) ++ rgcs G)) ∧ Hid (RdR wr go' G) ∧ Hid (Below N w1 wr)) (fun x _ => nz - (intOf x).toNat)
      case atStart => exact ⟨0, rfl, by omega, HY6, HRD6, HB6⟩
      case round =>
        obtain ⟨k, rfl, hk, HYk, HRk, HBk⟩ := hrel
        clear HB6 HRD6 HY6
        have hNk : N ≤ wr.heap.size := by have h5 := HBk.out.size; have h6 := HNN.out; omega
        by_cases hkz : k < nz
        · have k3 : (k : Int) < (nz : Int) := by omega
          have k0 : (0 : Int) ≤ (k : Int) := by omega
          have hkL : k < zs.length := by have h5 := HNZ.out; omega
          obtain ⟨a, rfl, ha, a0⟩ := HZW.out wr HBk.out k zs[k] (List.getElem?_eq_getElem hkL)
          generalize zs[k] = z at a0
          clear hkL
          by_cases q0 : 0 ≤ z
          · by_cases q1 : z ≤ 1114111
            · have HHV := hid (show ∀ W, Below wr.heap.size wr W → Calls Tryz.prog 23 #[.slice go' ng gc, .int .i32 z] W fun e w' => e = .returned (.bool (decide (gtp z A = i))) ∧ w' = W from fun W hW => by
                have h5 := rhas_any go' gc G z W (HRk.out.below hW) (by have h6 := HNG.out; omega)
                rw [← HNG.out, HHS.out z q0 q1] at h5
                exact h5)
              have HGV := hid (show ∀ W, Below wr.heap.size wr W → Calls Tryz.prog 24 #[.pointer (some ⟨P, 0, none⟩), .int .i32 z] W fun e w' => e = .returned (.int .i64 (gtp z A : Nat)) ∧ Below wr.heap.size wr w' from fun W hW => by
                have h5 := HGET.out z W (HBk.out.trans (hW.mono hNk))
                rw [show instd z = z by unfold instd; rw [if_neg (by omega)]] at h5
                exact h5.mono fun e w' ⟨he, hb⟩ => ⟨he, hW.trans (hb.mono hW.size)⟩)
              obtain ⟨gz, hgz⟩ : ∃ gz, gz = gtp z A := ⟨_, rfl⟩
              rw [← hgz] at HHV HGV
              clear hgz
              have d0 : decide (0 ≤ z) = true := decide_eq_true q0
              have d1 : decide (z ≤ 1114111) = true := decide_eq_true q1
              have HDR := hid (show Below wr.heap.size wr wr.drew from ⟨rfl, rfl, rfl, Nat.le_refl _, fun _ _ => rfl⟩)
              have HSC := hid (show ∀ W, Below wr.heap.size wr W → W.cell? (a.add k) = some (.int .i32 z) from fun W hW => (hW.cell (p := a.add k) (by rw [add_blk]; exact ha)).trans a0)
              by_cases hgi : gz = i
              · have hgi' : ((gz : Int) == (i : Int)) = true := by rw [hgi]; simp
                rw [show decide (gz = i) = true from decide_eq_true hgi] at HHV
                clear hgi
                go_wp2_with fail
                go_region_held3 (fun W => W.cell? (a.add k) = some (.int .i32 z)) (first | exact HSC.out _ HW6.out | exact HSC.out _ HDR.out | go_keep) (first | (go_at_call 23; refine (HHV.out _ (by first | exact HW6.out | exact HDR.out)).mono ?_; rintro e w7 ⟨rfl, hw7⟩; obtain rfl := hw7.symm) | (go_at_call 24; refine (HGV.out _ HDR.out).mono ?_; rintro e w6 ⟨rfl, b6⟩; have HW6 := hid b6; clear b6))
                all_goals
                  have HYq := hid (own_keep HYk.out HW6.out)
                  have HRq := hid (HRk.out.below HW6.out)
                  have HBq := hid (HBk.out.trans (HW6.out.mono hNk))
                  go_wp2
                  go_roundw
                  case rel => exact ⟨k + 1, by go_num, by omega, HYq, HRq, HBq⟩
                  case measure => simp [intOf]; omega
              · have hgi' : ((gz : Int) == (i : Int)) = false := beq_eq_false_iff_ne.2 (by omega)
                rw [show decide (gz = i) = false from decide_eq_false hgi] at HHV
                clear hgi
                go_wp2_with fail
                go_region_held3 (fun W => W.cell? (a.add k) = some (.int .i32 z)) (first | exact HSC.out _ HW6.out | exact HSC.out _ HDR.out | go_keep) (first | (go_at_call 23; refine (HHV.out _ (by first | exact HW6.out | exact HDR.out)).mono ?_; rintro e w7 ⟨rfl, hw7⟩; obtain rfl := hw7.symm) | (go_at_call 24; refine (HGV.out _ HDR.out).mono ?_; rintro e w6 ⟨rfl, b6⟩; have HW6 := hid b6; clear b6))
                all_goals
                  have HYq := hid (own_keep HYk.out HW6.out)
                  have HRq := hid (HRk.out.below HW6.out)
                  have HBq := hid (HBk.out.trans (HW6.out.mono hNk))
                  go_wp2
                  go_roundw
                  case rel => exact ⟨k + 1, by go_num, by omega, HYq, HRq, HBq⟩
                  case measure => simp [intOf]; omega
            · have d0 : decide (0 ≤ z) = true := decide_eq_true q0
              have d1 : decide (z ≤ 1114111) = false := decide_eq_false q1
              have q1' : 1114111 < z := by omega
              go_wp2
              go_quiet (fail)
              have HYq := hid (show (wr.drewN nq).ownsRow N 84 2 (.slice xo nn xc) nn (rgcs (alS A i) ++ rgcs G) from HYk.out)
              have HRq := hid (show RdR (wr.drewN nq) go' G from HRk.out)
              have HBq := hid (HBk.out.trans (show Below N wr (wr.drewN nq) from ⟨rfl, rfl, rfl, Nat.le_refl _, fun _ _ => rfl⟩))
              go_wp2
              go_roundw
              case rel => exact ⟨k + 1, by go_num, by omega, HYq, HRq, HBq⟩
              case measure => simp [intOf]; omega
          · have d0 : decide (0 ≤ z) = false := decide_eq_false q0
            have q0' : z < 0 := by omega
            go_wp2
            go_quiet (fail)
            have HYq := hid (show (wr.drewN nq).ownsRow N 84 2 (.slice xo nn xc) nn (rgcs (alS A i) ++ rgcs G) from HYk.out)
            have HRq := hid (show RdR (wr.drewN nq) go' G from HRk.out)
            have HBq := hid (HBk.out.trans (show Below N wr (wr.drewN nq) from ⟨rfl, rfl, rfl, Nat.le_refl _, fun _ _ => rfl⟩))
            go_wp2
            go_roundw
            case rel => exact ⟨k + 1, by go_num, by omega, HYq, HRq, HBq⟩
            case measure => simp [intOf]; omega
        · have k3 : ¬ (k : Int) < (nz : Int) := by omega
          go_wp2
          go_roundw
          case rel => exact ⟨i + 1, nn, xo, xc, by rw [HCN.out], rfl, by go_num, by omega, by show nn = _; rw [HAS.out, List.length_append, ← HNL.out, ← HNG.out]; exact HNN2.out, by show wr.ownsRow N 84 2 (.slice xo nn xc) nn (rgcs (alS A (i + 1))); rw [HAS.out, rgcs_app]; exact HYk.out, HBk⟩
          case measure => simp [intOf]; omega
    · have hin : i = n := by omega
      subst hin
      have i3 : ¬ (i : Int) < (i : Int) := by omega
      have HCA := hid (fun W hW => rcount_any yo yc (alS A i) W hW (by have h5 := HNL.out; have h6 := alS_le A i; omega))
      rw [HALL.out] at HCA
      have HTO := hid (show szk i A = 1114112 by rw [HTOT.out]; rfl)
      rw [HTO.out]
      rw [← HNL.out] at HCA
      have HRA := hid (show RdR wo yo (alS A i) from rdr_of HNL.out HY.out)
      have HC1 := hid (HCA.out wo HRA.out)
      go_wp2_with fail
      refine HC1.out.mono ?_
      rintro e w8 ⟨rfl, b8⟩
      have HB8 := hid (HB.out.trans (b8.mono hNo))
      have HL8 := hid (HLV.out w8 (HT1.out.below (by rw [← HNN.out]; exact HB8.out)))
      have ec : cntF [(0, 1114111)] = 1114112 := by decide
      rw [ec]
      clear b8 HC1
      go_wp2_with fail
      refine HL8.out.mono ?_
      rintro e w9 ⟨rfl, b9⟩
      have HB9 := hid (HB1.out.trans ((HB8.out.mono (by have h5 := HB1.out.size; have h6 := HNN.out; omega)).trans (b9.mono (by have h5 := HB1.out.size; have h6 := HB8.out.size; omega))))
      clear b9 HL8
      go_wp2
      go_ret
      exact ⟨rfl, HB9.out⟩
end Go.Proofs.YtohhokjlgihbgaaGreatDoor
