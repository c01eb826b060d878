/- The contract of whole (package table), first part: the ranges of each block. -/
import Derived.Test.YtljlhlcoaajggaaWhole
namespace Go.Proofs.Ytljlhlcoaajggaa
open Go.RowKit

theorem own_form {B n : Nat} {e : TypeId} {k : Nat} {v : Value} {xs : List Value} {w : World} (h : w.ownsRow B e k v n xs) : ∃ ao c, v = .slice ao n c := by
  rcases h.2 with ⟨rfl, h5⟩ | ⟨q', qc, _, rfl, _⟩
  · exact ⟨none, 0, by rw [h5]⟩
  · exact ⟨_, qc, rfl⟩
theorem fst_at {F : List (List Nat)} {i q : Nat} (h : (fst F)[i]? = some q) : ∃ b, F[i]? = some b ∧ q = ix F b := by
  unfold fst at h
  rw [List.getElem?_map] at h
  obtain ⟨b, hb, rfl⟩ := Option.map_eq_some_iff.1 h
  exact ⟨b, hb, rfl⟩
set_option maxHeartbeats 6000000 in
set_option maxRecDepth 100000 in
theorem whole_any (B T rest : Nat) (F : List (List Nat)) (w : World) (h : TbAt B T F rest w) :
    Calls Try.prog 51 #[.pointer (some ⟨T, 0, none⟩)] w fun e w' => ∃ v', e = .returned v' ∧ w'.ownsRow w.heap.size 36 3 v' (rlA 0 [] F.flatten).length (rks (rlA 0 [] F.flatten)) ∧ Below w.heap.size w w' := by
  obtain ⟨i25, hi25, hz0, hz1, hz2⟩ := info_parts Try.info25
  obtain ⟨g, cap, hT, hr, ho, h8, hF⟩ := h
  have hgw : g < w.heap.size := (hr.lt g rfl).2
  have hTw : T < w.heap.size := lt_of_heap hT
  have d1 : w.cell? ⟨T, 8704, none⟩ = some (.slice (some ⟨g, 0, none⟩) (uq F).length cap) := tb_row hT (by rw [fst_len]; exact hF)
  have HT := hid hT
  have HR := hid hr
  have HO := hid ho
  have H8 := hid h8
  have HF := hid hF
  clear hT hr ho h8
  obtain ⟨n, hn⟩ : ∃ n, n = (uq F).length := ⟨_, rfl⟩
  have hn9 : n ≤ 8704 := by rw [hn, ← hF]; exact uq_le F
  rw [← hn] at d1
  have HN := hid hn
  clear hn hF
  obtain ⟨S, hS⟩ : ∃ S, S = w.heap.size := ⟨_, rfl⟩
  rw [← hS] at hgw hTw
  have HS := hid hS
  go_enter Try.func51, Try.ntmps51
  go_wp2_with (refine wpList_make_full _ rfl _ _ 111 rfl S 25 i25 (.slice none 0 0) 1 Try.underlying111 hi25 hz0 hz1 .i64 .i64 _ _ n rfl rfl rfl rfl (by rw [hz2]; omega) (by unfold maxLen; omega) (by rw [hS]; exact Nat.le_refl _) ?_; intro w1 o1 gr1; have HB1 := hid (show Below S w w1 from (Below.refl S w).grown gr1 (by omega) (fun k hk => by cases hk)); have d2 := (HB1.out.cell (p := ⟨T, 8704, none⟩) hTw).trans d1; rw [made_nil, ← hS] at o1; have HO1 := hid o1; clear o1 gr1 d1)
  rw [← hS]
  clear hS
  go_loopw [23] (fun x wr => ∃ (k : Nat) (D : List Value), x = .int .i64 (k : Int) ∧ k ≤ n ∧ Hid (D.length = n) ∧ Hid (PtAt S F k D wr) ∧ Hid (wr.ownsRow S 25 1 (.slice (some ⟨S, 0, none⟩) n n) n D) ∧ Hid (Below S w wr)) (fun x _ => n - (intOf x).toNat)
  case atStart => exact ⟨0, _, rfl, by omega, List.length_replicate, fun j hj => absurd hj (Nat.not_lt_zero _), HO1, HB1⟩
  case round =>
    obtain ⟨k, D, rfl, hk, HD, HP, HO2, HB⟩ := hrel
    by_cases hlt : k < n
    · have hku : k < (uq F).length := by have h5 := HN.out; omega
      obtain ⟨b, hb⟩ : ∃ b, (uq F)[k]? = some b := ⟨_, List.getElem?_eq_getElem hku⟩
      have hbl : b.length = 128 := uq_ok HO.out b (List.mem_of_getElem? hb)
      have HBW := hid (show Below w.heap.size w wr by have h5 := HS.out; rw [← h5]; exact HB.out)
      have HRG := hid (show wr.rangeAt g (k * 128) (u8n b) from tb_range (own_keep HR.out HBW.out) HO.out hb)
      have h8b : ok256 b := H8.out b ((mem_uq F b).1 (List.mem_of_getElem? hb))
      have k3 : (k : Int) < (n : Int) := by omega
      have k0 : (0 : Int) ≤ (k : Int) := by omega
      have hwS : S < wr.heap.size := (HO2.out.lt S rfl).2
      have HSZ := hid (show (Try.prog.info? 82).map (·.size) = some (u8n b).length by rw [u8n_len, hbl]; exact size82n)
      have HSZ2 := hid (show (Try.prog.info? 82).map (·.size) = some (u8n b).toArray.size by rw [List.size_toArray, u8n_len, hbl]; exact size82n)
      have HTH := hid (show (wr.alloc (.cells Try.zeroCells82 82)).there wr.heap.size 0 (u8n b).toArray.size by rw [show (u8n b).toArray.size = 128 by rw [List.size_toArray, u8n_len, hbl]]; exact there82 wr)
      have HCR := hid (wCopy_range b wr hbl)
      have HCW := hid (wCopy_below b wr)
      have HPK := hid (show prt F k = rlA 0 [] b by unfold prt; rw [hb]; rfl)
      have HCA := hid (parts_any (wCopy b wr).heap.size b (wCopy b wr) hbl h8b (Nat.le_refl _))
      unfold blk at HCA
      unfold wCopy at HCR HCW HCA
      clear hb hbl h8b
      go_wp2_with (first
        | refine wpList_load_mid rfl 82 _ rfl g (k * 128) rfl (u8n b) _ HRG.out Try.underlying82 rfl HSZ.out ?_
        | refine wpList_store_mid rfl 82 _ _ rfl wr.heap.size 0 (u8n b).toArray rfl rfl HTH.out HSZ2.out (all_oneCell_toArray (u8n_one b)) ?_
        | refine wpList_load_mid rfl 82 _ rfl wr.heap.size 0 rfl (u8n b) _ HCR.out Try.underlying82 rfl HSZ.out ?_
        | fail)
      refine HCA.out.mono ?_
      rintro e w4 ⟨v4, rfl, o4, b4⟩
      obtain ⟨vo, vc, rfl⟩ := own_form o4
      obtain ⟨vl, hvl⟩ : ∃ vl, vl = (rlA 0 [] b).length := ⟨_, rfl⟩
      have HVE := hid (show Value.slice vo (rlA 0 [] b).length vc = Value.slice vo vl vc by rw [hvl])
      rw [HVE.out] at o4 ⊢
      have HB4 := hid (HCW.out.trans (b4.mono HCW.out.size))
      have HO4 := hid (own_keep HO2.out HB4.out)
      have HP4 := hid (HP.out.below HB4.out)
      have hw4 : S + 1 ≤ (((wr.alloc (.cells Try.zeroCells82 82)).setCells wr.heap.size 0 (u8n b))).heap.size := Nat.le_trans hwS HCW.out.size
      have HV4 := hid (own_mono o4 hw4)
      rw [← HPK.out] at HV4
      have HBB := hid (HB.out.trans (HB4.out.mono (Nat.le_of_lt hwS)))
      have hkD : k < D.length := by have h5 := HD.out; omega
      have cq : w4.cell? ⟨S, k, none⟩ = D[k]? := HO4.out.cellAt k (by omega)
      rw [List.getElem?_eq_getElem hkD] at cq
      have fq : w4.frozen? ⟨S, k, none⟩ = false := HO4.out.frozenAt _
      have HNO := hid ((HO4.out.stored k (.slice vo vl vc)).1)
      have HNP := hid (HP4.out.set (.slice vo vl vc) hkD HV4.out)
      have HNB := hid (HBB.out.setCell (p := ⟨S, k, none⟩) (Nat.le_refl S) (.slice vo vl vc))
      have HND := hid (show (D.set k (.slice vo vl vc)).length = n by rw [List.length_set]; exact HD.out)
      clear o4 b4 HCA HCR HTH HRG hw4 hvl
      go_wp2
      go_roundw
      case rel => exact ⟨k + 1, D.set k (.slice vo vl vc), by go_num, by omega, HND, HNP, HNO, HNB⟩
      case measure => simp [intOf]; omega
    · have k3 : ¬ (k : Int) < (n : Int) := by omega
      have hke : k = n := by omega
      have HPA := hid (show PtAt S F n D wr by have h5 := HP.out; rw [hke] at h5; exact h5)
      have HBW := hid (show Below w.heap.size w wr by have h5 := HS.out; rw [← h5]; exact HB.out)
      have HFR := hid (show wr.rangeAt T 0 (u16n (fst F)) from tb_first ((HBW.out.block T (by have h5 := HS.out; omega)).trans HT.out))
      have hfl : (fst F).length = 8704 := by rw [fst_len]; exact HF.out
      have HSZ := hid (show (Try.prog.info? 76).map (·.size) = some (u16n (fst F)).length by rw [u16n_len, hfl]; exact size76n)
      have HAG := hid (fun (i c : Nat) (h : (fst F)[i]? = some c) => u16a_get h)
      have HFL := hid hfl
      have hwS : S < wr.heap.size := (HO2.out.lt S rfl).2
      clear hke hfl HP
      go_wp2_with (refine wpList_load_mid rfl 76 _ rfl T 0 rfl (u16n (fst F)) _ HFR.out Try.underlying76 rfl HSZ.out ?_)
      obtain ⟨cs, hcse⟩ : ∃ cs, cs = (u16n (fst F)).toArray := ⟨_, rfl⟩
      rw [← hcse] at HAG ⊢
      obtain ⟨w2, hw2⟩ : ∃ w2, w2 = wr := ⟨_, rfl⟩
      rw [← hw2] at HPA HB HO2 hwS ⊢
      clear hcse HFR HSZ HBW hw2
      obtain ⟨Bo, hBo⟩ : ∃ Bo, Bo = w2.heap.size := ⟨_, rfl⟩
      have HBO := hid hBo
      rw [← hBo] at hwS
      have HNIL := hid (World.ownsRow_nil w2 Bo 36 3)
      clear hBo
      go_loopw [38, 6] (fun x y wi => ∃ (i : Nat) (v : Value), x = .int .i64 (i : Int) ∧ y = v ∧ i ≤ 8704 ∧ Hid (wi.ownsRow Bo 36 3 v (whN F i).length (rks (whN F i))) ∧ Hid (whN F i = [] → v = .slice none 0 0) ∧ Hid (Below Bo w2 wi)) (fun x _ _ => 8704 - (intOf x).toNat)
      case atStart => exact ⟨0, _, rfl, rfl, by omega, HNIL, fun _ => rfl, Below.refl _ _⟩
      case round =>
        obtain ⟨i, v, rfl, hv, hi, HOI, HNI, HBI⟩ := hrel
        obtain rfl := hv.symm
        by_cases hit : i < 8704
        · have hif : i < (fst F).length := by rw [HFL.out]; exact hit
          obtain ⟨q, hq⟩ : ∃ q, (fst F)[i]? = some q := ⟨_, List.getElem?_eq_getElem hif⟩
          have hix := index76 cs i _ wr hit (HAG.out i q hq)
          obtain ⟨bq, hbq, hqe⟩ := fst_at hq
          have hqn : q < n := by rw [HN.out, hqe]; exact ix_lt (List.mem_of_getElem? hbq)
          have HWN := hid (whN_next F HO.out i bq hbq)
          rw [← hqe] at HWN
          have HBW2 := hid (show Below w2.heap.size w2 wr by have h5 := HBO.out; rw [← h5]; exact HBI.out)
          obtain ⟨vq, hvq, hoq⟩ := HPA.out.below HBW2.out q hqn
          have HOQ := hid hoq
          have cq : wr.cell? ⟨S, q, none⟩ = some vq := by
            rw [(own_keep HO2.out HBW2.out).cellAt q (by omega)]; exact hvq
          obtain ⟨ao, qc, rfl⟩ := own_form hoq
          have i3 : (i : Int) < 8704 := by omega
          have q3 : (q : Int) < (n : Int) := by omega
          have q0 : (0 : Int) ≤ (q : Int) := by omega
          have e1 : IntKind.i64.wrap ((i : Int) * 128) = ((i * 128 : Nat) : Int) := by rw [IntKind.wrap_i64]; omega
          have e2 : IntKind.i32.wrap ((i * 128 : Nat) : Int) = ((i * 128 : Nat) : Int) := by rw [IntKind.wrap_i32]; omega
          have HPB := hid (prt_bnd F HO.out q)
          have HPL := hid (prt_len F HO.out q)
          have HWL := hid (whN_len F HO.out i)
          obtain ⟨P, hP⟩ : ∃ P, P = prt F q := ⟨_, rfl⟩
          rw [← hP] at HWN HOQ HPB HPL cq
          obtain ⟨ib, hib⟩ : ∃ ib, ib = i * 128 := ⟨_, rfl⟩
          rw [← hib] at e1 e2 HWN HWL
          have hibl : ib ≤ 1114000 := by omega
          have HRQ := hid (rd_own HOQ.out)
          have HR2 := hid (show ∀ W, Below Bo w2 W → RdK W ao (P.map rkT) from fun W hW => by
            obtain ⟨vz, hz1, hz2⟩ := HPA.out.below (show Below w2.heap.size w2 W by have h5 := HBO.out; rw [← h5]; exact hW) q hqn
            rw [hvq] at hz1
            cases hz1
            rw [hP]
            exact rd_own hz2)
          obtain ⟨pn, hpn⟩ : ∃ pn, pn = P.length := ⟨_, rfl⟩
          rw [← hpn] at cq HPL
          have hpnl := HPL.out
          have HPN := hid hpn
          have hwl := HWL.out
          clear hq hqe hbq hoq hvq hP hib hpn HOQ
          go_wp2
          obtain ⟨wo, hwo⟩ : ∃ wo, wo = wr := ⟨_, rfl⟩
          rw [← hwo] at HRQ HOI HBI HBW2 ⊢
          clear hwo cq hix
          have HO0 := hid (show wo.ownsRow Bo 36 3 v ((P.take 0).foldl (fun o g => jn o (shf ib g)) (whN F i)).length (rks ((P.take 0).foldl (fun o g => jn o (shf ib g)) (whN F i))) from HOI.out)
          have HN0 := hid (show (P.take 0).foldl (fun o g => jn o (shf ib g)) (whN F i) = [] → v = .slice none 0 0 from HNI.out)
          have hwoB : Bo ≤ wo.heap.size := by have h5 := HBO.out; have h6 := HBI.out.size; omega
          go_loopw [50, 6] (fun x y wi => ∃ (j : Nat) (u : Value), x = .int .i64 (j : Int) ∧ y = u ∧ j ≤ pn ∧ Hid (wi.ownsRow Bo 36 3 u ((P.take j).foldl (fun o g => jn o (shf ib g)) (whN F i)).length (rks ((P.take j).foldl (fun o g => jn o (shf ib g)) (whN F i)))) ∧ Hid ((P.take j).foldl (fun o g => jn o (shf ib g)) (whN F i) = [] → u = .slice none 0 0) ∧ Hid (Below Bo wo wi)) (fun x _ _ => pn - (intOf x).toNat)
          case atStart => exact ⟨0, v, rfl, rfl, by omega, HO0, HN0, Below.refl _ _⟩
          case round =>
            obtain ⟨j, u, rfl, hu, hj, HOJ, HNJ, HBJ⟩ := hrel
            obtain rfl := hu.symm
            have hwB : Bo ≤ wr.heap.size := Nat.le_trans hwoB HBJ.out.size
            by_cases hjt : j < pn
            · have hjP : j < P.length := by have h5 := HPN.out; omega
              have HBX := hid (show Below Bo w2 wr from HBI.out.trans HBJ.out)
              obtain ⟨a, rfl, ha, a0, a1, a2⟩ := (HR2.out wr HBX.out) j (rkT P[j]) (by rw [List.getElem?_map, List.getElem?_eq_getElem hjP]; rfl)
              obtain ⟨x1, x2⟩ := HPB.out P[j] (List.getElem_mem hjP)
              have HFX := hid (show (P.take (j + 1)).foldl (fun o g => jn o (shf ib g)) (whN F i) = jn ((P.take j).foldl (fun o g => jn o (shf ib g)) (whN F i)) (shf ib P[j]) by
                rw [List.take_succ_eq_append_getElem hjP, List.foldl_append]; rfl)
              have HLX := hid (show ((P.take j).foldl (fun o g => jn o (shf ib g)) (whN F i)).length ≤ 100000000 by
                have h5 := fold_len ib (P.take j) (whN F i)
                rw [List.length_take] at h5
                omega)
              unfold rkT at a0 a1 a2
              obtain ⟨gx, hx⟩ : ∃ gx, P[j] = gx := ⟨_, rfl⟩
              rw [hx] at a0 a1 a2 HFX x1 x2
              obtain ⟨lo, hi', cl⟩ := gx
              dsimp only at a0 a1 a2 x1 x2
              have HJ := hid (joined_all Bo _ (shf ib (lo, hi', cl)) u (wr.alloc (.cells #[.int .i32 (lo : Int), .int .i32 (hi' : Int), .int .i64 (cl : Int)] 36)) (HOJ.out.alloc _) HNJ.out (by simp; omega) HLX.out)
              rw [← HFX.out] at HJ
              have HNE := hid (show (P.take (j + 1)).foldl (fun o g => jn o (shf ib g)) (whN F i) ≠ [] by rw [HFX.out]; exact jn_ne _ _)
              have HBA := hid (HBJ.out.alloc hwB (.cells #[.int .i32 (lo : Int), .int .i32 (hi' : Int), .int .i64 (cl : Int)] 36))
              unfold rkv rkT shf at HJ
              dsimp only at HJ
              have j3 : (j : Int) < (pn : Int) := by omega
              have ea : IntKind.i32.wrap ((ib : Int) + (lo : Int)) = ((ib + lo : Nat) : Int) := by rw [IntKind.wrap_i32]; omega
              have eb : IntKind.i32.wrap ((ib : Int) + (hi' : Int)) = ((ib + hi' : Nat) : Int) := by rw [IntKind.wrap_i32]; omega
              clear hx HFX HLX HOJ HNJ
              go_wp2_with fail
              refine HJ.out.mono ?_
              rintro e w5 ⟨v5, rfl, o5, b5⟩
              have HO5 := hid o5
              have HB5 := hid (HBA.out.trans b5)
              have HN5 := hid (show (P.take (j + 1)).foldl (fun o g => jn o (shf ib g)) (whN F i) = [] → v5 = .slice none 0 0 from fun h => absurd h HNE.out)
              clear o5 b5 HJ
              go_wp2
              go_roundw
              case rel => exact ⟨j + 1, v5, by go_num, rfl, by omega, HO5, HN5, HB5⟩
              case measure => simp [intOf]; omega
            · have j3 : ¬ (j : Int) < (pn : Int) := by omega
              have HTE := hid (show (P.take j).foldl (fun o g => jn o (shf ib g)) (whN F i) = whN F (i + 1) by
                rw [List.take_of_length_le (by have h5 := HPN.out; omega)]; exact HWN.out.symm)
              rw [HTE.out] at HOJ HNJ
              have HBN := hid (HBI.out.trans HBJ.out)
              go_wp2
              go_roundw
              case rel => exact ⟨i + 1, u, by go_num, rfl, by omega, HOJ, HNJ, HBN⟩
              case measure => simp [intOf]; omega
        · have i3 : ¬ (i : Int) < 8704 := by omega
          have hie : i = 8704 := by omega
          have HEND := hid (show whN F i = rlA 0 [] F.flatten by unfold whN; rw [hie, ← HF.out, List.take_of_length_le (Nat.le_refl _)])
          rw [HEND.out] at HOI
          have HBW := hid (show Below w.heap.size w wr by have h5 := HS.out; rw [← h5]; exact HB.out.trans (HBI.out.mono (Nat.le_of_lt hwS)))
          have HOE := hid (show wr.ownsRow w.heap.size 36 3 v (rlA 0 [] F.flatten).length (rks (rlA 0 [] F.flatten)) from own_mono HOI.out (by have h5 := HS.out; omega))
          clear hie
          go_wp2
          go_ret
          exact ⟨v, rfl, HOE.out, HBW.out⟩
end Go.Proofs.Ytljlhlcoaajggaa
