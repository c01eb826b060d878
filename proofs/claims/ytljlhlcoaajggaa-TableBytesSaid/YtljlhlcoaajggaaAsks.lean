/- The contract of asks (the statements' own): a table that tells what the document's does is found so. -/
import Derived.Test.YtljlhlcoaajggaaClss
import Derived.Test.YtljlhlcoaajggaaSame3
import Derived.Test.YtljlhlcoaajggaaOrder
namespace Go.Proofs.Ytljlhlcoaajggaa
open Go.RowKit

/-- Runes as they can be read. -/
def RdZ (w : World) (ao : Option Addr) (l : List Int) : Prop := ∀ (k : Nat) (z : Int), l[k]? = some z → ∃ a : Addr, ao = some a ∧ a.block < w.heap.size ∧ w.cell? (a.add k) = some (.int .i32 z)
theorem RdZ.below {w w' : World} {ao : Option Addr} {l : List Int} (h : RdZ w ao l) (hb : Below w.heap.size w w') : RdZ w' ao l := fun k c hk => by
  obtain ⟨a, h1, h2, h3⟩ := h k c hk
  exact ⟨a, h1, Nat.lt_of_lt_of_le h2 hb.size, (hb.cell (p := a.add k) (by rw [add_blk]; exact h2)).trans h3⟩
theorem RdZ.nil (w : World) (ao : Option Addr) : RdZ w ao [] := fun k z h => by simp at h
theorem TbAt.heap {B T r : Nat} {F : List (List Nat)} {w w' : World} (h : TbAt B T F r w) (e : w'.heap = w.heap) : TbAt B T F r w' := by
  obtain ⟨g, cap, hT, hr, ho, h8, hF⟩ := h
  refine ⟨g, cap, by rw [e]; exact hT, ⟨hr.1, ?_⟩, ho, h8, hF⟩
  rw [e]; exact hr.2
theorem RtAt.heap {B P r : Nat} {L : List Tr} {w w' : World} (h : RtAt B P L r w) (e : w'.heap = w.heap) : RtAt B P L r w' := by
  obtain ⟨v, h1, h2⟩ := h
  exact ⟨v, by rw [e]; exact h1, h2.1, by rw [e]; exact h2.2⟩
/-- A range of rising ranges has its class at both its ends. -/
theorem gtR_mem (r : Nat) : ∀ (A : List Tr) (b : Nat), Ris b A → ∀ g ∈ A, gtR r (g.1 : Int) A = g.2.2 ∧ gtR r (g.2.1 : Int) A = g.2.2
  | [], _, _, g, h => by cases h
  | x :: A, b, hR, g, h => by
    obtain ⟨h1, h2, h3, h4, h5⟩ := hR
    have e : ∀ z : Int, gtR r z (x :: A) = if ((x.1 : Int) ≤ z ∧ z ≤ (x.2.1 : Int)) then x.2.2 else gtR r z A := fun z => rfl
    rcases List.mem_cons.1 h with rfl | h
    · rw [e, e, if_pos (by omega), if_pos (by omega)]; exact ⟨rfl, rfl⟩
    · have ih := gtR_mem r A (x.2.1 + 1) h5 g h
      obtain ⟨k1, k2, k3, k4⟩ := ris_mem h5 g h
      rw [e, e, if_neg (by omega), if_neg (by omega)]; exact ih

set_option maxHeartbeats 6000000 in
set_option maxRecDepth 100000 in
theorem asks_any (B T r B' P : Nat) (F : List (List Nat)) (L : List Tr) (ro : Option Addr) (rc : Nat) (zs : List Int) (l : List UInt8) (w : World) (h : TbAt B T F r w) (hF : F.flatten = clA r L) (hr : r < 256) (hR : Ris 0 L) (hN : rgs r (clA r L) = L) (hP : RtAt B' P L r w) (hz : RdZ w ro zs) (hzl : zs.length ≤ 1000000000) (hl : l.length ≤ 1000000000) :
    Calls Try.prog 19 #[.pointer (some ⟨T, 0, none⟩), .pointer (some ⟨P, 0, none⟩), .slice ro zs.length rc, .string ⟨l.toArray⟩] w fun e w' => e = .returned (.bool true) ∧ Below w.heap.size w w' := by
  obtain ⟨N, hNE⟩ : ∃ N, N = w.heap.size := ⟨_, rfl⟩
  have hlen := ris_len L 0 (by omega) hR
  have HTB := hid (show ∀ W, Below N w W → TbAt B T F r W from fun W hW => h.below (by rw [← hNE]; exact hW))
  have HPB := hid (show ∀ W, Below N w W → RtAt B' P L r W from fun W hW => hP.below (by rw [← hNE]; exact hW))
  have HZB := hid (show ∀ W, Below N w W → RdZ W ro zs from fun W hW => hz.below (by rw [← hNE]; exact hW))
  obtain ⟨gz, hgz⟩ : ∃ gz : Int → Int, gz = fun z => ((gtR r z L : Nat) : Int) := ⟨_, rfl⟩
  have HG := hid (show ∀ (z : Int) (V W : World), Below N w V → W.heap = V.heap → Calls Try.prog 34 #[.pointer (some ⟨T, 0, none⟩), .int .i32 z] W fun e w' => e = .returned (.int .i64 (gz z)) ∧ ∃ n, w' = W.drewN n from fun z V W hV hW => by
    rw [hgz]; exact getZ B T r F L z W ((HTB.out V hV).heap hW) hF hr hR)
  have HH := hid (show ∀ (z : Int) (V W : World), Below N w V → W.heap = V.heap → Calls Try.prog 45 #[.pointer (some ⟨P, 0, none⟩), .int .i32 z] W fun e w' => e = .returned (.int .i64 (gz z)) ∧ w' = W from fun z V W hV hW => by
    rw [hgz]; exact rget_any B' P L r z W ((HPB.out V hV).heap hW) (by omega))
  have HGM := hid (show ∀ g ∈ L, gz (g.1 : Int) = (g.2.2 : Int) ∧ gz (g.2.1 : Int) = (g.2.2 : Int) from fun g hg => by
    obtain ⟨a, b⟩ := gtR_mem r L 0 hR g hg
    rw [hgz]; dsimp only; rw [a, b]; exact ⟨rfl, rfl⟩)
  have HRN := hid hN
  have HR := hid hR
  have HFL := hid hF
  obtain ⟨n, hn⟩ : ∃ n, n = zs.length := ⟨_, rfl⟩
  have HNZ := hid hn
  rw [← hn] at hzl ⊢
  rw [← hNE]
  have HNE := hid hNE
  have HRG := hid (show ∀ W, Below N w W → Calls Try.prog 32 #[.pointer (some ⟨T, 0, none⟩)] W fun e w' => ∃ vo vc, e = .returned (.slice vo L.length vc) ∧ w'.ownsRow W.heap.size 36 3 (.slice vo L.length vc) L.length (rks L) ∧ Below W.heap.size W w' from fun W hW => by
    refine (ranges_any B T r F W (HTB.out W hW) hr).mono ?_
    rintro e w' ⟨v', rfl, o1, b1⟩
    rw [hF, hN] at o1
    obtain ⟨vo, vc, rfl⟩ := own_form o1
    exact ⟨vo, vc, rfl, o1, b1⟩)
  have HRS := hid (show ∀ W, Below N w W → Calls Try.prog 33 #[.pointer (some ⟨T, 0, none⟩)] W fun e w' => e = .returned (.int .i64 (r : Int)) ∧ w' = W from fun W hW => rest_any B T r F W (HTB.out W hW) hr)
  have HCL := hid (show ∀ W, Below N w W → Calls Try.prog 47 #[.pointer (some ⟨T, 0, none⟩), .string ⟨l.toArray⟩] W fun e w' => ∃ v, e = .returned v ∧ w'.ownsRow W.heap.size 3 1 v (prs l).length (g64 r L (prs l)) ∧ Below W.heap.size W w' from fun W hW => classes_any B T r F L l W (HTB.out W hW) hF hr hR (by omega))
  have HRC := hid (show ∀ W, Below N w W → Calls Try.prog 48 #[.pointer (some ⟨P, 0, none⟩), .string ⟨l.toArray⟩] W fun e w' => ∃ v, e = .returned v ∧ w'.ownsRow W.heap.size 3 1 v (prs l).length (g64 r L (prs l)) ∧ Below W.heap.size W w' from fun W hW => rclasses_any B' P r L l W (HPB.out W hW) (by omega) (by omega))
  have HPL := hid (show ∀ (W1 W2 : World) (u v : Value) (B1 B2 : Nat), W1.ownsRow B1 3 1 u (prs l).length (g64 r L (prs l)) → Below W1.heap.size W1 W2 → W2.ownsRow B2 3 1 v (prs l).length (g64 r L (prs l)) → Calls Try.prog 46 #[u, v] W2 fun e w' => e = .returned (.bool true) ∧ Below W2.heap.size W2 w' from fun W1 W2 u v B1 B2 h1 h2 h3 => by
    have e1 : (prs l).length = ((prs l).map fun x => ((gtR r x.2 L : Nat) : Int)).length := by simp
    have e2 : g64 r L (prs l) = ((prs l).map fun x => ((gtR r x.2 L : Nat) : Int)).map (Value.int .i64) := by simp [g64]
    rw [e1, e2] at h1 h3
    have hpl := prs_len l
    exact places_any u v _ W2 (by simp; omega) ((Reads.of_row h1).below h2) (Reads.of_row h3))
  obtain ⟨ao, ac, d0, d1, hPs, ho⟩ := hP.row
  obtain ⟨nL, hnL⟩ : ∃ nL, nL = L.length := ⟨_, rfl⟩
  rw [← hnL] at d0 hlen HRG
  have HNL := hid hnL
  have HPC := hid (show ∀ W, Below N w W → W.cell? ⟨P, 0, none⟩ = some (.slice ao nL ac) ∧ W.cell? ⟨P, 1, none⟩ = some (.int .i64 (r : Int)) from fun W hW => ⟨(hW.cell (p := ⟨P, 0, none⟩) (by rw [hNE]; exact hPs)).trans d0, (hW.cell (p := ⟨P, 1, none⟩) (by rw [hNE]; exact hPs)).trans d1⟩)
  have HRK := hid (show ∀ W, Below N w W → RdK W ao (L.map rkT) from fun W hW => (rd_own ho).below (by rw [← hNE]; exact hW))
  have hB0 : Below N w w := by rw [hNE]; exact Below.refl _ _
  have HB00 := hid hB0
  clear h hF hR hN hP hz hgz hn hnL d0 d1 hPs ho hB0 hNE
  go_enter Try.func19, Try.ntmps19
  go_wp2
  go_loopw [9] (fun x wr => ∃ (i : Nat), x = .int .i64 (i : Int) ∧ i ≤ n ∧ Hid (Below N w wr)) (fun x _ => n - (intOf x).toNat)
  case atStart => exact ⟨0, rfl, by omega, HB00⟩
  case round =>
    obtain ⟨i, rfl, hi, HB⟩ := hrel
    by_cases hlt : i < n
    · have hiz : i < zs.length := by have h5 := HNZ.out; omega
      obtain ⟨a, rfl, ha, a0⟩ := HZB.out wr HB.out i zs[i] (List.getElem?_eq_getElem hiz)
      obtain ⟨z, hze⟩ : ∃ z, z = zs[i] := ⟨_, rfl⟩
      rw [← hze] at a0
      have i3 : (i : Int) < (n : Int) := by omega
      have i0 : (0 : Int) ≤ (i : Int) := by omega
      have HG1 := hid (fun W (hW : W.heap = wr.heap) => HG.out z wr W HB.out hW)
      have HH1 := hid (fun W (hW : W.heap = wr.heap) => HH.out z wr W HB.out hW)
      clear hze hiz
      go_wp2_with fail
      go_region_held3 (fun w' => w'.cell? (a.add i) = some (.int .i32 z)) (go_keep) (first | (go_at_call 34; refine (HG1.out _ (by rfl)).mono ?_; rintro e w5 ⟨rfl, n5, rfl⟩) | (go_at_call 45; refine (HH1.out _ (by rfl)).mono ?_; rintro e w6 ⟨rfl, hw6⟩; obtain rfl := hw6.symm))
      have HBN := hid (HB.out.trans (below_drewN N wr (1 + n5)))
      go_wp2
      go_roundw
      case rel => exact ⟨i + 1, by go_num, by omega, HBN⟩
      case measure => simp [intOf]; omega
    · have i3 : ¬ (i : Int) < (n : Int) := by omega
      go_wp2
      go_loopw [10] (fun x wr => ∃ (k : Nat), x = .int .i64 (k : Int) ∧ k ≤ nL ∧ Hid (Below N w wr)) (fun x _ => nL - (intOf x).toNat)
      case atStart => exact ⟨0, rfl, by omega, HB⟩
      case round =>
        obtain ⟨k, rfl, hk, HB2⟩ := hrel
        obtain ⟨d0, d1⟩ := HPC.out wr HB2.out
        have hwN : N ≤ wr.heap.size := by have h5 := HNE.out; have h6 := HB2.out.size; omega
        by_cases hlt2 : k < nL
        · have hkL : k < L.length := by have h5 := HNL.out; omega
          obtain ⟨a, rfl, ha, c0, c1, c2⟩ := HRK.out wr HB2.out k (rkT L[k]) (by rw [List.getElem?_map, List.getElem?_eq_getElem hkL]; rfl)
          obtain ⟨g1, g2⟩ := HGM.out L[k] (List.getElem_mem hkL)
          obtain ⟨h1, h2, h3, h4⟩ := ris_mem HR.out L[k] (List.getElem_mem hkL)
          unfold rkT at c0 c1 c2
          obtain ⟨gx, hx⟩ : ∃ gx, L[k] = gx := ⟨_, rfl⟩
          rw [hx] at c0 c1 c2 g1 g2 h1 h2 h3 h4
          obtain ⟨lo, hh, cl⟩ := gx
          dsimp only at c0 c1 c2 g1 g2 h1 h2 h3 h4
          obtain ⟨lm, hlm⟩ : ∃ lm : Int, lm = (lo : Int) - 1 := ⟨_, rfl⟩
          obtain ⟨hp, hhp⟩ : ∃ hp : Int, hp = (hh : Int) + 1 := ⟨_, rfl⟩
          have k1 : IntKind.i32.wrap ((lo : Int) - 1) = lm := by rw [IntKind.wrap_i32]; omega
          have k2 : IntKind.i32.wrap ((hh : Int) + 1) = hp := by rw [IntKind.wrap_i32]; omega
          have t1 : (gz (lo : Int) != (cl : Int)) = false := by rw [g1]; simp
          have t2 : (gz (hh : Int) != (cl : Int)) = false := by rw [g2]; simp
          have i3' : (k : Int) < (nL : Int) := by omega
          have i0' : (0 : Int) ≤ (k : Int) := by omega
          have HBV := hid (HB2.out.alloc hwN (.cells #[.int .i32 (lo : Int), .int .i32 (hh : Int), .int .i64 (cl : Int)] 36))
          have HGX := hid (heap_alloc_new wr (.cells #[.int .i32 (lo : Int), .int .i32 (hh : Int), .int .i64 (cl : Int)] 36))
          have HG2 := hid (fun z W (hW : W.heap = (wr.alloc (.cells #[.int .i32 (lo : Int), .int .i32 (hh : Int), .int .i64 (cl : Int)] 36)).heap) => HG.out z _ W HBV.out hW)
          have HH2 := hid (fun z W (hW : W.heap = (wr.alloc (.cells #[.int .i32 (lo : Int), .int .i32 (hh : Int), .int .i64 (cl : Int)] 36)).heap) => HH.out z _ W HBV.out hW)
          clear hx hkL g1 g2 hlm hhp h1
          go_wp2_with fail
          have HBQ := hid (fun q => HBV.out.trans (below_drewN N (wr.alloc (.cells #[.int .i32 (lo : Int), .int .i32 (hh : Int), .int .i64 (cl : Int)] 36)) q))
          go_region_held3 (fun w' => w'.cell? ⟨wr.heap.size, 0, none⟩ = some (.int .i32 (lo : Int)) ∧ w'.cell? ⟨wr.heap.size, 1, none⟩ = some (.int .i32 (hh : Int)) ∧ w'.cell? ⟨wr.heap.size, 2, none⟩ = some (.int .i64 (cl : Int))) (go_keep) (first | (go_at_call 34; refine (HG2.out _ _ (by rfl)).mono ?_; rintro e w5 ⟨rfl, n5, rfl⟩) | (go_at_call 45; refine (HH2.out _ _ (by rfl)).mono ?_; rintro e w6 ⟨rfl, hw6⟩; obtain rfl := hw6.symm))
          go_wp2
          go_roundw
          case rel => exact ⟨k + 1, by go_num, by omega, HBQ.out _⟩
          case measure => simp [intOf]; omega
        · have i3' : ¬ (k : Int) < (nL : Int) := by omega
          go_wp2_with fail
          refine (HRG.out wr HB2.out).mono ?_
          rintro e w1 ⟨vo, vc, rfl, o1, b1⟩
          obtain ⟨N1, hN1⟩ : ∃ N1, N1 = wr.heap.size := ⟨_, rfl⟩
          rw [← hN1] at o1 b1 hwN
          have HO1 := hid o1
          have HB1 := hid (HB2.out.trans (b1.mono hwN))
          have HRV := hid (show RdK w1 vo (L.map rkT) by have h5 := HNL.out; rw [h5] at o1; exact rd_own o1)
          have hN1s : N1 ≤ w1.heap.size := by have h5 := b1.size; omega
          have HSM := hid (show ∀ W, Below w1.heap.size w1 W → Calls Try.prog 14 #[.slice vo nL vc, .slice ao nL ac] W fun e w' => e = .returned (.bool true) ∧ Below W.heap.size W w' from fun W hW => by
            have h5 := same3_any vo ao vc ac (L.map rkT) (L.map rkT) W (HRV.out.below hW) (HRK.out W (HB1.out.trans (hW.mono (Nat.le_trans hwN hN1s)))) (by have h6 := HNL.out; rw [List.length_map]; omega)
            rw [List.length_map, ← HNL.out] at h5
            refine h5.mono ?_
            rintro e w' ⟨rfl, h6⟩
            exact ⟨by simp, h6⟩)
          have HBD := hid (show Below N w w1.drew from HB1.out.trans ⟨rfl, rfl, rfl, Nat.le_refl _, fun _ _ => rfl⟩)
          have HDD := hid (show Below w1.heap.size w1 w1.drew from ⟨rfl, rfl, rfl, Nat.le_refl _, fun _ _ => rfl⟩)
          have hNw : N ≤ w1.heap.size := Nat.le_trans hwN hN1s
          obtain ⟨e0, e1⟩ := HPC.out w1 HB1.out
          clear o1 b1 hN1 d0 d1
          go_wp2_with fail
          go_region_held3 (fun w' => w'.cell? ⟨P, 0, none⟩ = some (.slice ao nL ac) ∧ w'.cell? ⟨P, 1, none⟩ = some (.int .i64 (r : Int))) (first | exact HSS.out | exact HSC.out | exact HSD.out | exact HSP.out | go_keep) (first | (go_at_call 14; refine (HSM.out _ HDD.out).mono ?_; rintro e wS ⟨rfl, bS⟩; have HBS := hid (HBD.out.trans (bS.mono hNw)); have HDS := hid (HDD.out.trans bS); have HSS := hid (HPC.out wS HBS.out)) | (go_at_call 33; refine (HRS.out _ HBS.out).mono ?_; rintro e w9 ⟨rfl, hw9⟩; obtain rfl := hw9.symm) | (go_at_call 47; refine (HCL.out _ HBS.out).mono ?_; rintro e wC ⟨vC, rfl, oC, bC⟩; have hSs := HDS.out.size; have HBC := hid (HBS.out.trans (bC.mono (by omega))); have HDC := hid (HDS.out.trans (bC.mono hSs)); have HOC := hid oC; have HSC := hid (HPC.out wC HBC.out)) | (go_at_call 48; refine (HRC.out _ HBC.out).mono ?_; rintro e wD ⟨vD, rfl, oD, bD⟩; have hCs := HDC.out.size; have HBE := hid (HBC.out.trans (bD.mono (by omega))); have HDE := hid (HDC.out.trans (bD.mono hCs)); have HOD := hid oD; have HbD := hid bD; have HSD := hid (HPC.out wD HBE.out)) | (go_at_call 46; refine (HPL.out _ _ _ _ _ _ HOC.out HbD.out HOD.out).mono ?_; rintro e wP ⟨rfl, bP⟩; have hDs := HDE.out.size; have HBP := hid (HBE.out.trans (bP.mono (by omega))); have HDP := hid (HDE.out.trans (bP.mono hDs)); have HSP := hid (HPC.out wP HBP.out)))
          have HOP := hid (own_keep HO1.out HDP.out)
          have hN1P : N1 ≤ wP.heap.size := by have h5 := HDP.out.size; omega
          clear bS oC bC oD bD bP e0 e1 HBS HDS HSS HBC HDC HOC HSC HBE HDE HOD HbD HSD hSs hCs hDs HSM HBD HDD HRV HO1 HB1
          go_wp2
          go_loopw [13] (fun x wr => ∃ (j : Nat) (U : List Value), x = .int .i64 (j : Int) ∧ j ≤ nL ∧ Hid (wr.ownsRow N1 36 3 (.slice vo nL vc) nL U) ∧ Hid (Below N w wr)) (fun x _ => nL - (intOf x).toNat)
          case atStart => exact ⟨0, _, rfl, by omega, HOP, HBP⟩
          case round =>
            obtain ⟨j, U, rfl, hj, HOJ, HBJ⟩ := hrel
            by_cases hlt3 : j < nL
            · obtain ⟨q, cap', hve, hqB, hqw⟩ := HOJ.out.form (by omega)
              cases hve
              have hU : U.length = nL * 3 := HOJ.out.1
              have cc : ∀ c, c < 3 → ∃ u, wr.cell? ⟨q, j * 3 + c, none⟩ = some u := fun c hc => by
                rw [HOJ.out.cellAt _ (by omega)]
                exact ⟨_, List.getElem?_eq_getElem (by omega)⟩
              obtain ⟨u0, f0⟩ := cc 0 (by omega)
              obtain ⟨u1, f1⟩ := cc 1 (by omega)
              obtain ⟨u2, f2⟩ := cc 2 (by omega)
              have z0 : wr.frozen? ⟨q, j * 3, none⟩ = false := HOJ.out.frozenAt _
              have z1 : wr.frozen? ⟨q, j * 3 + 1, none⟩ = false := HOJ.out.frozenAt _
              have z2 : wr.frozen? ⟨q, j * 3 + 2, none⟩ = false := HOJ.out.frozenAt _
              have j3 : (j : Int) < (nL : Int) := by omega
              have j0 : (0 : Int) ≤ (j : Int) := by omega
              rw [Nat.add_zero] at f0
              clear cc
              have HSJ := hid (own_sets [.int .i32 0, .int .i32 0, .int .i64 99] (j * 3) U wr HOJ.out)
              have HBJ2 := hid (HBJ.out.trans (HSJ.out.2.mono hwN))
              go_wp2
              go_roundw
              case rel => exact ⟨j + 1, _, by go_num, by omega, HSJ.out.1, HBJ2⟩
              case measure => simp [intOf]; omega
            · have j3 : ¬ (j : Int) < (nL : Int) := by omega
              obtain ⟨e0, e1⟩ := HPC.out wr HBJ.out
              have HBD := hid (show Below N w wr.drew from HBJ.out.trans ⟨rfl, rfl, rfl, Nat.le_refl _, fun _ _ => rfl⟩)
              have hNr : N ≤ wr.drew.heap.size := by have h5 := HNE.out; have h6 := HBD.out.size; omega
              have HLS := hid (show ∀ (W1 : World) (vo : Option Addr) (vc B0 : Nat), W1.ownsRow B0 36 3 (.slice vo nL vc) nL (rks L) → Below N w W1 → Calls Try.prog 14 #[.slice vo nL vc, .slice ao nL ac] W1 fun e w' => e = .returned (.bool true) ∧ Below W1.heap.size W1 w' from fun W1 vo vc B0 h1 h2 => by
                rw [HNL.out] at h1
                have h5 := same3_any vo ao vc ac (L.map rkT) (L.map rkT) W1 (rd_own h1) (HRK.out W1 h2) (by have h6 := HNL.out; rw [List.length_map]; omega)
                rw [List.length_map, ← HNL.out] at h5
                refine h5.mono ?_
                rintro e w' ⟨rfl, h6⟩
                exact ⟨by simp, h6⟩)
              clear HOJ HOP
              go_wp2_with fail
              go_region_held3 (fun w' => w'.cell? ⟨P, 0, none⟩ = some (.slice ao nL ac)) (first | exact HSS.out | exact HSP.out | go_keep) (first | (go_at_call 32; refine (HRG.out _ HBD.out).mono ?_; rintro e wS ⟨vo2, vc2, rfl, oS, bS⟩; have HBS := hid (HBD.out.trans (bS.mono hNr)); have HOS := hid oS; have HSS := hid (HPC.out wS HBS.out).1) | (go_at_call 14; refine (HLS.out _ _ _ _ HOS.out HBS.out).mono ?_; rintro e wP ⟨rfl, bP⟩; have hNS : N ≤ wS.heap.size := (by have h5 := HNE.out; have h6 := HBS.out.size; omega); have HBP := hid (HBS.out.trans (bP.mono hNS)); have HSP := hid (HPC.out wP HBP.out).1))
              go_wp2
              go_ret
              exact ⟨rfl, HBP.out⟩
end Go.Proofs.Ytljlhlcoaajggaa
