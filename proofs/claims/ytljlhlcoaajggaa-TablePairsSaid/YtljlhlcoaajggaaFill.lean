/- The contract of fill (package table). -/
import Derived.Test.YtljlhlcoaajggaaFillMath
namespace Go.Proofs.Ytljlhlcoaajggaa
open Go.RowKit Go.Maps Go.WideMaps

/-- A maker that has given classes as far as C goes. -/
def MkD (B M T K rest : Nat) (C : List Nat) (bv : Value) (w : World) : Prop :=
  ∃ F p op, Gd F p op ∧ C = F.flatten ++ p ∧ MkAt B M T K (fsO F) (uq F) bv rest op C.length w

set_option maxRecDepth 100000 in
set_option maxHeartbeats 3000000 in
theorem fill_any (B M T K rest : Nat) (C : List Nat) (bv0 : Value) (en c : Nat) (w : World) (h : MkD B M T K rest C bv0 w) (hB : B ≤ w.heap.size) (hc : c < 256) (hen : en ≤ 1114112) (hC : C.length ≤ en) :
    Calls Try.prog 66 #[.pointer (some ⟨M, 0, none⟩), .int .i64 (en : Int), .int .u8 (c : Int)] w fun e w' => ∃ bv', e = .returned (.tuple #[]) ∧ MkD B M T K rest (C ++ List.replicate (en - C.length) c) bv' w' ∧ Below B w w' ∧ Far M T K bv0 bv' w w' := by
  obtain ⟨F0, p0, op0, hg0, hC0, hm0⟩ := h
  have cn := hm0.cn
  have HG0 := hid hg0
  have HC0 := hid hC0
  have HM0 := hid hm0
  obtain ⟨n0, hn0⟩ : ∃ n0, n0 = C.length := ⟨_, rfl⟩
  rw [← hn0] at cn HM0 hC
  have HN0 := hid hn0
  clear hg0 hC0 hm0 hn0
  go_enter Try.func66, Try.ntmps66
  go_wp2
  go_loopw [7] (fun _ wr => ∃ (j : Nat) (F : List (List Nat)) (p op : List Nat) (bv : Value), n0 + j ≤ en ∧ Hid (Gd F p op) ∧ Hid (C ++ List.replicate j c = F.flatten ++ p) ∧ Hid (n0 + j = 128 * F.length + p.length) ∧ Hid (MkAt B M T K (fsO F) (uq F) bv rest op (n0 + j) wr) ∧ Hid (Below B w wr) ∧ Hid (Far M T K bv0 bv w wr)) (fun _ wr => en - nxAt M wr)
  case atStart => exact ⟨0, F0, p0, op0, bv0, by omega, HG0, by simpa [Hid] using HC0.out, by have h1 := congrArg List.length HC0.out; rw [List.length_append, flat_len F0 HG0.out.a] at h1; have := HN0.out; show n0 + 0 = _; omega, HM0, Below.refl _ _, Far.refl _ _ _ _ _⟩
  case round =>
    obtain ⟨j, F, p, op, bv, hj, HG, HE, HL, HM, HB, HF⟩ := hrel
    obtain ⟨N, hN⟩ : ∃ N, N = n0 + j := ⟨_, rfl⟩
    rw [← hN] at HM hj HL
    have HNJ := hid hN
    have cn2 := HM.out.cn
    have HNX := hid (nxAt_eq cn2)
    have hN1 : n0 ≤ N := by omega
    clear hN
    by_cases hlt : N < en
    · have hlt' : (N : Int) < (en : Int) := by omega
      obtain ⟨q, hq⟩ : ∃ q, q = p.length := ⟨_, rfl⟩
      have hq1 : q < 128 := by rw [hq]; exact HG.out.e
      have hNq : N % 128 = q := by rw [hq, HL.out]; have := HG.out.e; omega
      have e128 : (N : Int) % 128 = (q : Int) := by omega
      have etm : (N : Int).tmod 128 = (q : Int) := by rw [Int.tmod_eq_emod_of_nonneg (by omega)]; exact e128
      have b0 : (0 : Int) ≤ (q : Int) := by omega
      have b1 : (q : Int) < 128 := by omega
      have HQ := hid hq
      have HNQ := hid hNq
      obtain ⟨v0, co⟩ := HM.out.op_cell q hq1
      have fo : wr.frozen? ⟨M, 2 + q, none⟩ = false := frozen_row HM.out.hM (2 + q)
      have HM2 := hid (show MkAt B M T K (fsO F) (uq F) bv rest (op.set q c) N (wr.setCell ⟨M, 2 + q, none⟩ (.int .u8 (c : Int))).drew from (HM.out.setOpen q c hq1).drew1)
      have HS3 := hid HM2.out.cn
      have HF2 := hid (HF.out.set ⟨M, 2 + q, none⟩ (.inl rfl) (.int .u8 (c : Int))).drew
      have HB2 := hid (show Below B w (wr.setCell ⟨M, 2 + q, none⟩ (.int .u8 (c : Int))).drew from (HB.out.setCell (p := ⟨M, 2 + q, none⟩) HM.out.bM (.int .u8 (c : Int))).trans (show Below B _ (World.drew _) from ⟨rfl, rfl, rfl, Nat.le_refl _, fun _ _ => rfl⟩))
      clear hq hNq
      go_wp2_with fail
      go_region_held3 (fun w' => w'.cell? ⟨M, 130, none⟩ = some (.int .i64 (N : Int))) (first | exact HS3.out | go_keep) (fail)
      generalize (wr.setCell ⟨M, 2 + q, none⟩ (.int .u8 (c : Int))).drew = w2 at *
      have cn4 := HS3.out
      have fn4 : w2.frozen? ⟨M, 130, none⟩ = false := frozen_row HM2.out.hM 130
      have ew : IntKind.i64.wrap ((N : Int) + 1) = (N : Int) + 1 := by rw [IntKind.wrap_i64]; omega
      have HM3 := hid (show MkAt B M T K (fsO F) (uq F) bv rest (op.set q c) (N + 1) (w2.setCell ⟨M, 130, none⟩ (.int .i64 ((N : Int) + 1))) by have h5 := HM2.out.setNext (N + 1); rw [show ((N + 1 : Nat) : Int) = (N : Int) + 1 from by omega] at h5; exact h5)
      have HF3 := hid (HF2.out.set ⟨M, 130, none⟩ (.inl rfl) (.int .i64 ((N : Int) + 1)))
      have HB3 := hid (HB2.out.setCell (p := ⟨M, 130, none⟩) HM2.out.bM (.int .i64 ((N : Int) + 1)))
      by_cases hq2 : q + 1 < 128
      · have etm1 : ((N : Int) + 1).tmod 128 = ((q + 1 : Nat) : Int) := by rw [Int.tmod_eq_emod_of_nonneg (by omega)]; omega
        have hq3 : (0 : Int) < ((q + 1 : Nat) : Int) := by omega
        have HE2 := hid (show C ++ List.replicate (j + 1) c = F.flatten ++ (p ++ [c]) by rw [rep_snoc, HE.out, List.append_assoc])
        have HG2 := hid (show Gd F (p ++ [c]) (op.set q c) by rw [HQ.out]; exact HG.out.more c hc (by rw [← HQ.out]; exact hq2))
        have HL2 := hid (show n0 + (j + 1) = 128 * F.length + (p ++ [c]).length by have h5 := HL.out; have h6 := HNJ.out; simp; omega)
        have HM4 := hid (show MkAt B M T K (fsO F) (uq F) bv rest (op.set q c) (n0 + (j + 1)) (w2.setCell ⟨M, 130, none⟩ (.int .i64 ((N : Int) + 1))) by rw [show n0 + (j + 1) = N + 1 by have h6 := HNJ.out; omega]; exact HM3.out)
        have HX := hid (nxAt_eq HM4.out.cn)
        go_wp2
        go_roundw
        case rel => exact ⟨j + 1, F, p ++ [c], op.set q c, bv, by have h6 := HNJ.out; omega, HG2, HE2, HL2, HM4, HB3, HF3⟩
        case measure => rw [HX.out, HNX.out]; have h6 := HNJ.out; omega
      · have etm1 : ((N : Int) + 1).tmod 128 = 0 := by rw [Int.tmod_eq_emod_of_nonneg (by omega)]; omega
        have hq5 : ¬ (0 : Int) < 0 := by omega
        have hw3 : B ≤ (w2.setCell ⟨M, 130, none⟩ (.int .i64 ((N : Int) + 1))).heap.size := Nat.le_trans hB HB3.out.size
        have HFZ := hid (show F.length < 8704 by have h5 := HL.out; have h6 := HQ.out; omega)
        have HG2 := hid (show Gd (F ++ [op.set q c]) [] (op.set q c) by rw [HQ.out]; exact HG.out.full c hc HFZ.out)
        have HOP := hid (show op.set q c = p ++ [c] by rw [HQ.out]; exact HG.out.whole c (by rw [← HQ.out]; omega))
        obtain ⟨OP, hOP⟩ : ∃ OP, OP = op.set q c := ⟨_, rfl⟩
        rw [← hOP] at HG2 HOP HM3
        have HNB := hid (number_any B M T K (fsO F) (uq F) bv rest OP (N + 1) _ HM3.out hw3 HG2.out.c HG.out.uqs.1 HG.out.uqs.2.1 HG.out.uqs.2.2)
        rw [wth_uq] at HNB
        obtain ⟨N1, hN1⟩ : ∃ N1, N1 = N + 1 := ⟨_, rfl⟩
        rw [← hN1] at HNB
        obtain ⟨f, hf⟩ : ∃ f, f = F.length := ⟨_, rfl⟩
        have HFL := hid hf
        have h128 : N1 = 128 * (f + 1) := by have h5 := HL.out; have h6 := HQ.out; omega
        have hf0 : (0 : Int) ≤ (f : Int) := by omega
        have hf1 : f < 8704 := by rw [hf]; exact HFZ.out
        have hf2 : (f : Int) < 8704 := by omega
        obtain ⟨f1, hff⟩ : ∃ f1, f1 = f + 1 := ⟨_, rfl⟩
        have etd : (N1 : Int).tdiv 128 = (f1 : Int) := by rw [Int.tdiv_eq_ediv_of_nonneg (by omega)]; omega
        have ewd : IntKind.i64.wrap (f1 : Int) = (f1 : Int) := by rw [IntKind.wrap_i64]; omega
        have esb : (f1 : Int) - 1 = (f : Int) := by omega
        have ewf : IntKind.i64.wrap (f : Int) = (f : Int) := by rw [IntKind.wrap_i64]; omega
        have HFF := hid hff
        clear hff
        have HK := hid (show (uq (F ++ [OP])).idxOf OP = ix (F ++ [OP]) OP from rfl)
        obtain ⟨k, hk⟩ : ∃ k, k = (uq (F ++ [OP])).idxOf OP := ⟨_, rfl⟩
        rw [← hk] at HNB HK
        have HN1 := hid hN1
        have H128 := hid h128
        have HE2 := hid (show C ++ List.replicate (j + 1) c = (F ++ [OP]).flatten by rw [rep_snoc, HE.out, List.append_assoc, List.flatten_append, HOP.out]; simp)
        have HAL := hid (show 128 ≤ j + 1 → OP = List.replicate 128 c from fun h5 => all_one C F.flatten OP (j + 1) c (by rw [HE2.out]; simp) HG2.out.g h5)
        clear hOP hk hN1 h128 hf
        go_wp2_with fail
        refine HNB.out.mono ?_
        rintro e w4 ⟨bv4, rfl, hm4, hb4, hf4⟩
        have HM4 := hid hm4
        have HB4 := hid (HB3.out.trans hb4)
        have HF4 := hid (HF3.out.trans hf4)
        clear hm4 hb4 hf4
        have c04 := HM4.out.c0
        have cn5 := HM4.out.cn
        obtain ⟨v1, ct⟩ := HM4.out.fs_cell f hf1
        have ft : w4.frozen? ⟨T, f, none⟩ = false := frozen_row HM4.out.hT f
        have HM5 := hid (show MkAt B M T K (fsO (F ++ [OP])) (uq (F ++ [OP])) bv4 rest OP N1 (w4.setCell ⟨T, f, none⟩ (.int .u16 (k : Int))).drew by
          have h5 := (HM4.out.setFirst f k hf1).drew1
          rw [HFL.out, HK.out, fsO_set F OP HFZ.out] at h5
          rw [HFL.out, HK.out]
          exact h5)
        have HS5 := hid (And.intro HM5.out.c0 HM5.out.cn)
        have HF5 := hid (HF4.out.set ⟨T, f, none⟩ (.inr rfl) (.int .u16 (k : Int))).drew
        have HB5 := hid (show Below B w (w4.setCell ⟨T, f, none⟩ (.int .u16 (k : Int))).drew from (HB4.out.setCell (p := ⟨T, f, none⟩) HM4.out.bT (.int .u16 (k : Int))).trans (show Below B _ (World.drew _) from ⟨rfl, rfl, rfl, Nat.le_refl _, fun _ _ => rfl⟩))
        go_wp2_with fail
        go_region_held3 (fun w' => w'.cell? ⟨M, 0, none⟩ = some (.pointer (some ⟨T, 0, none⟩)) ∧ w'.cell? ⟨M, 130, none⟩ = some (.int .i64 (N1 : Int))) (first | exact HS5.out | go_keep) (fail)
        generalize (w4.setCell ⟨T, f, none⟩ (.int .u16 (k : Int))).drew = w5 at *
        have HNJ1 := hid (show N1 = n0 + (j + 1) by have h5 := HNJ.out; have h6 := HN1.out; omega)
        have HXX := hid HNX.out
        clear HNB HM4 HB4 HS5 c04 cn5 ct ft etd ewd esb ewf etm1 etm e128 hq5 cn4 fn4 ew HM2 HM3 HB2 HB3 HF2 HF3 HF4 HS3 cn2 co fo hw3 b0 b1 hlt' HM
        go_wp2_with fail
        go_loopw [57] (fun _ wq => ∃ (i : Nat) (G : List (List Nat)), n0 + i ≤ en ∧ j < i ∧ Hid (Gd G [] OP) ∧ Hid (C ++ List.replicate i c = G.flatten) ∧ Hid (n0 + i = 128 * G.length) ∧ Hid (OP ∈ G) ∧ Hid (k = ix G OP) ∧ Hid (128 ≤ i → OP = List.replicate 128 c) ∧ Hid (MkAt B M T K (fsO G) (uq G) bv4 rest OP (n0 + i) wq) ∧ Hid (Below B w wq) ∧ Hid (Far M T K bv0 bv4 w wq)) (fun _ wq => en - nxAt M wq)
        case atStart => exact ⟨j + 1, F ++ [OP], by have h5 := HNJ.out; omega, by omega, HG2, HE2, by have h5 := HNJ1.out; have h6 := H128.out; have h7 := HFL.out; show _ = 128 * (F ++ [OP]).length; simp; omega, by show OP ∈ F ++ [OP]; simp, HK, HAL, by rw [← HNJ1.out]; exact HM5, HB5, HF5⟩
        case round =>
          obtain ⟨i, G, hi1, hi2, HGG, HGE, HGL, HGO, HGK, HGA, HGM, HGB, HGF⟩ := hrel
          obtain ⟨Q, hQ⟩ : ∃ Q, Q = n0 + i := ⟨_, rfl⟩
          rw [← hQ] at HGM hi1 HGL
          have HQI := hid hQ
          have cnq := HGM.out.cn
          have HXQ := hid (nxAt_eq cnq)
          have ewa : IntKind.i64.wrap ((Q : Int) - (n0 : Int)) = (i : Int) := by rw [IntKind.wrap_i64]; omega
          have ewb : IntKind.i64.wrap ((en : Int) - (Q : Int)) = ((en - Q : Nat) : Int) := by rw [IntKind.wrap_i64]; omega
          obtain ⟨g, hg⟩ : ∃ g, g = en - Q := ⟨_, rfl⟩
          rw [← hg] at ewb
          have hq9 : n0 ≤ Q := by omega
          have HGG2 := hid hg
          clear hQ hg
          by_cases hA : 128 ≤ i
          · have hA' : (128 : Int) ≤ (i : Int) := by omega
            by_cases hE : 128 ≤ g
            · have hE' : (128 : Int) ≤ (g : Int) := by omega
              obtain ⟨gl, hgl⟩ : ∃ gl, gl = G.length := ⟨_, rfl⟩
              have hgl2 : Q = 128 * gl := by rw [hgl]; exact HGL.out
              have hgg := HGG2.out
              have hgl3 : gl < 8704 := by omega
              have hgl4 : (gl : Int) < 8704 := by omega
              have hgl5 : (0 : Int) ≤ (gl : Int) := by omega
              have etd2 : (Q : Int).tdiv 128 = (gl : Int) := by rw [Int.tdiv_eq_ediv_of_nonneg (by omega)]; omega
              have ewd2 : IntKind.i64.wrap (gl : Int) = (gl : Int) := by rw [IntKind.wrap_i64]; omega
              have ewq : IntKind.i64.wrap ((Q : Int) + 128) = (Q : Int) + 128 := by rw [IntKind.wrap_i64]; omega
              have HGLN := hid hgl
              have HQG := hid hgl2
              have hQ7 : Q + 128 ≤ en := by omega
              have c0q := HGM.out.c0
              obtain ⟨v2, ct2⟩ := HGM.out.fs_cell gl hgl3
              have ft2 : wr.frozen? ⟨T, gl, none⟩ = false := frozen_row HGM.out.hT gl
              have HM6 := hid (show MkAt B M T K (fsO (G ++ [OP])) (uq (G ++ [OP])) bv4 rest OP Q (wr.setCell ⟨T, gl, none⟩ (.int .u16 (k : Int))).drew by
                have h5 := (HGM.out.setFirst gl k hgl3).drew1
                rw [HGLN.out, HGK.out, ← ix_again G OP HGO.out, fsO_set G OP (by rw [← HGLN.out]; exact hgl3)] at h5
                rw [HGLN.out, HGK.out, ← ix_again G OP HGO.out, uq_again G OP HGO.out]
                exact h5)
              have HS6 := hid (And.intro HM6.out.c0 HM6.out.cn)
              have HF6 := hid (HGF.out.set ⟨T, gl, none⟩ (.inr rfl) (.int .u16 (k : Int))).drew
              have HB6 := hid (show Below B w (wr.setCell ⟨T, gl, none⟩ (.int .u16 (k : Int))).drew from (HGB.out.setCell (p := ⟨T, gl, none⟩) HGM.out.bT (.int .u16 (k : Int))).trans (show Below B _ (World.drew _) from ⟨rfl, rfl, rfl, Nat.le_refl _, fun _ _ => rfl⟩))
              clear hgl hgl2 hgg
              go_wp2_with fail
              go_region_held3 (fun w' => w'.cell? ⟨M, 0, none⟩ = some (.pointer (some ⟨T, 0, none⟩)) ∧ w'.cell? ⟨M, 130, none⟩ = some (.int .i64 (Q : Int))) (first | exact HS6.out | go_keep) (fail)
              generalize (wr.setCell ⟨T, gl, none⟩ (.int .u16 (k : Int))).drew = w6 at *
              have cn6 := HM6.out.cn
              have fn6 : w6.frozen? ⟨M, 130, none⟩ = false := frozen_row HM6.out.hM 130
              have HM7 := hid (show MkAt B M T K (fsO (G ++ [OP])) (uq (G ++ [OP])) bv4 rest OP (n0 + (i + 128)) (w6.setCell ⟨M, 130, none⟩ (.int .i64 ((Q : Int) + 128))) by
                have h5 := HM6.out.setNext (Q + 128)
                have h6 := HQI.out
                rw [show ((Q + 128 : Nat) : Int) = (Q : Int) + 128 from by omega] at h5
                rw [show n0 + (i + 128) = Q + 128 by omega]
                exact h5)
              have HF7 := hid (HF6.out.set ⟨M, 130, none⟩ (.inl rfl) (.int .i64 ((Q : Int) + 128)))
              have HB7 := hid (HB6.out.setCell (p := ⟨M, 130, none⟩) HM6.out.bM (.int .i64 ((Q : Int) + 128)))
              have HX7 := hid (nxAt_eq HM7.out.cn)
              have HE7 := hid (show C ++ List.replicate (i + 128) c = (G ++ [OP]).flatten by rw [rep_more, HGE.out, List.flatten_append, ← HGA.out hA]; simp)
              have HG7 := hid (HGG.out.again (by rw [← HGLN.out]; exact hgl3))
              have HL7 := hid (show n0 + (i + 128) = 128 * (G ++ [OP]).length by have h5 := HQI.out; have h6 := HQG.out; have h7 := HGLN.out; simp; omega)
              have HK7 := hid (show k = ix (G ++ [OP]) OP by rw [ix_again G OP HGO.out]; exact HGK.out)
              have HA7 := hid (show 128 ≤ i + 128 → OP = List.replicate 128 c from fun _ => HGA.out hA)
              have HO7 := hid (show OP ∈ G ++ [OP] by simp)
              clear HS6 c0q ct2 ft2 HM6 HB6 HF6
              go_wp2
              go_roundw
              case rel => exact ⟨i + 128, G ++ [OP], by have h5 := HQI.out; omega, by omega, HG7, HE7, HL7, HO7, HK7, HA7, HM7, HB7, HF7⟩
              case measure => rw [HX7.out, HXQ.out]; have h5 := HQI.out; omega
            · have hE' : ¬ (128 : Int) ≤ (g : Int) := by omega
              go_wp2
              exact ⟨⟨i, G, [], OP, bv4, by have h5 := HQI.out; omega, HGG, by rw [List.append_nil]; exact HGE, by have h5 := HQI.out; have h6 := HGL.out; show _ = 128 * G.length + 0; omega, by rw [← HQI.out]; exact HGM, HGB, HGF⟩, by rw [HXQ.out, HNX.out]; have h5 := HQI.out; have h6 := HNJ.out; omega⟩
          · have hA' : ¬ (128 : Int) ≤ (i : Int) := by omega
            go_wp2
            exact ⟨⟨i, G, [], OP, bv4, by have h5 := HQI.out; omega, HGG, by rw [List.append_nil]; exact HGE, by have h5 := HQI.out; have h6 := HGL.out; show _ = 128 * G.length + 0; omega, by rw [← HQI.out]; exact HGM, HGB, HGF⟩, by rw [HXQ.out, HNX.out]; have h5 := HQI.out; have h6 := HNJ.out; omega⟩
    · have hlt' : ¬ (N : Int) < (en : Int) := by omega
      have HFN := hid (show MkD B M T K rest (C ++ List.replicate (en - C.length) c) bv wr from by
        have h6 := HNJ.out
        have h7 := HN0.out
        have h8 : en - C.length = j := by omega
        rw [h8]
        refine ⟨F, p, op, HG.out, HE.out, ?_⟩
        rw [show (C ++ List.replicate j c).length = N by simp; omega]
        exact HM.out)
      go_wp2
      go_end0
      exact ⟨rfl, bv, HFN.out, HB.out, HF.out⟩
end Go.Proofs.Ytljlhlcoaajggaa
