/- The contract of Count (package table). -/
import Derived.Test.YtljlhlcoaajggaaCountMath
namespace Go.Proofs.Ytljlhlcoaajggaa
open Go.RowKit

theorem fst_mem {F : List (List Nat)} {i q : Nat} (h : (fst F)[i]? = some q) : ∃ b, b ∈ F ∧ q = ix F b := by
  unfold fst at h
  rw [List.getElem?_map] at h
  obtain ⟨b, hb, rfl⟩ := Option.map_eq_some_iff.1 h
  exact ⟨b, List.mem_of_getElem? hb, rfl⟩
theorem uq_le (F : List (List Nat)) : (uq F).length ≤ F.length := by
  have := uq_len F []
  simpa [uq] using this

set_option maxHeartbeats 6000000 in
set_option maxRecDepth 100000 in
theorem count_any (B T rest : Nat) (F : List (List Nat)) (cl : Int) (w : World) (h : TbAt B T F rest w) :
    Calls Try.prog 17 #[.pointer (some ⟨T, 0, none⟩), .int .i64 cl] w fun e w' => e = .returned (.int .i64 ((cz cl F.flatten : Nat) : Int)) ∧ Below w.heap.size w w' := by
  obtain ⟨i3, hi3, hz0, hz1, hz2⟩ := info_parts Try.info3
  obtain ⟨g, cap, hT, hr, ho, h8, hF⟩ := h
  have hgw : g < w.heap.size := (hr.lt g rfl).2
  have hTw : T < w.heap.size := lt_of_heap hT
  have d1 : w.cell? ⟨T, 8704, none⟩ = some (.slice (some ⟨g, 0, none⟩) (uq F).length cap) := tb_row hT (by rw [fst_len]; exact hF)
  have HT := hid hT
  have HR := hid hr
  have HO := hid ho
  have H8 := hid h8
  have HF := hid hF
  clear hT hr ho h8
  obtain ⟨n, hn⟩ : ∃ n, n = (uq F).length := ⟨_, rfl⟩
  have hn9 : n ≤ 8704 := by rw [hn, ← hF]; exact uq_le F
  rw [← hn] at d1
  have HN := hid hn
  clear hn hF
  obtain ⟨S, hS⟩ : ∃ S, S = w.heap.size := ⟨_, rfl⟩
  rw [← hS] at hgw hTw
  have HS := hid hS
  go_enter Try.func17, Try.ntmps17
  go_wp2_with (refine wpList_make_full _ rfl _ _ 41 rfl S 3 i3 (.int .i64 0) 1 Try.underlying41 hi3 hz0 hz1 .i64 .i64 _ _ n rfl rfl rfl rfl (by rw [hz2]; omega) (by unfold maxLen; omega) (by rw [hS]; exact Nat.le_refl _) ?_; intro w1 o1 gr1; have HB1 := hid (show Below S w w1 from (Below.refl S w).grown gr1 (by omega) (fun k hk => by cases hk)); have d2 := (HB1.out.cell (p := ⟨T, 8704, none⟩) hTw).trans d1; rw [made_isl, ← hS] at o1; have HO1 := hid o1; clear o1 gr1 d1)
  rw [← hS]
  have hSw : S < w1.heap.size := (HO1.out.lt S rfl).2
  clear hS
  have HQ0 := hid (show ∀ j, j < n → (List.replicate n 0)[j]? = some (if j < 0 then cz cl ((uq F)[j]?.getD []) else 0) from fun j hj => by rw [List.getElem?_replicate, if_pos hj]; rfl)
  go_loopw [26] (fun x wr => ∃ (k : Nat) (D : List Nat), x = .int .i64 (k : Int) ∧ k ≤ n ∧ Hid (D.length = n) ∧ Hid (∀ j, j < n → D[j]? = some (if j < k then cz cl ((uq F)[j]?.getD []) else 0)) ∧ Hid (wr.ownsRow S 3 1 (.slice (some ⟨S, 0, none⟩) n n) n (isl D)) ∧ Hid (Below S w wr)) (fun x _ => n - (intOf x).toNat)
  case atStart => exact ⟨0, List.replicate n 0, rfl, by omega, List.length_replicate, HQ0, HO1, HB1⟩
  case round =>
    obtain ⟨k, D, rfl, hk, HD, HQ, HO2, HB⟩ := hrel
    by_cases hlt : k < n
    · have hku : k < (uq F).length := by have h5 := HN.out; omega
      obtain ⟨b, hb⟩ : ∃ b, (uq F)[k]? = some b := ⟨_, List.getElem?_eq_getElem hku⟩
      have HBK := hid hb
      have hbl : b.length = 128 := uq_ok HO.out b (List.mem_of_getElem? hb)
      have HBW := hid (show Below w.heap.size w wr by have h5 := HS.out; rw [← h5]; exact HB.out)
      have HRG := hid (show wr.rangeAt g (k * 128) (u8n b) from tb_range (own_keep HR.out HBW.out) HO.out hb)
      have H8B := hid (show ok256 b from H8.out b ((mem_uq F b).1 (List.mem_of_getElem? hb)))
      have k3 : (k : Int) < (n : Int) := by omega
      have k0 : (0 : Int) ≤ (k : Int) := by omega
      have hwS : S < wr.heap.size := (HO2.out.lt S rfl).2
      have HLB := hid hbl
      have HSZ := hid (show (Try.prog.info? 82).map (·.size) = some (u8n b).length by rw [u8n_len, hbl]; exact size82n)
      have HSZ2 := hid (show (Try.prog.info? 82).map (·.size) = some (u8n b).toArray.size by rw [List.size_toArray, u8n_len, hbl]; exact size82n)
      have HTH := hid (show (wr.alloc (.cells Try.zeroCells82 82)).there wr.heap.size 0 (u8n b).toArray.size by rw [show (u8n b).toArray.size = 128 by rw [List.size_toArray, u8n_len, hbl]]; exact there82 wr)
      have HCR := hid (wCopy_range b wr hbl)
      have HCB := hid (HB.out.trans ((wCopy_below b wr).mono (Nat.le_of_lt hwS)))
      have HCO := hid (own_keep HO2.out (wCopy_below b wr))
      have HD0 := hid (show D.set k (cz cl (b.take 0)) = D by
        have h5 := HQ.out k hlt
        rw [if_neg (by omega)] at h5
        have h6 := (List.getElem?_eq_some_iff.1 h5)
        obtain ⟨h7, h8⟩ := h6
        have h9 : cz cl (b.take 0) = D[k] := by rw [h8]; rfl
        rw [h9, List.set_getElem_self])
      unfold wCopy at HCR HCB HCO
      clear hb hbl
      go_wp2_with (first
        | refine wpList_load_mid rfl 82 _ rfl g (k * 128) rfl (u8n b) _ HRG.out Try.underlying82 rfl HSZ.out ?_
        | refine wpList_store_mid rfl 82 _ _ rfl wr.heap.size 0 (u8n b).toArray rfl rfl HTH.out HSZ2.out (all_oneCell_toArray (u8n_one b)) ?_
        | refine wpList_load_mid rfl 82 _ rfl wr.heap.size 0 rfl (u8n b) _ HCR.out Try.underlying82 rfl HSZ.out ?_)
      obtain ⟨W2, hW2⟩ : ∃ W2, W2 = (wr.alloc (.cells Try.zeroCells82 82)).setCells wr.heap.size 0 (u8n b) := ⟨_, rfl⟩
      rw [← hW2] at HCR HCB HCO ⊢
      have HAG := hid (fun (i c : Nat) (h : b[i]? = some c) => u8a_get h)
      obtain ⟨cs, hcse⟩ : ∃ cs, cs = (u8n b).toArray := ⟨_, rfl⟩
      rw [← hcse] at HAG ⊢
      clear hW2 hcse HRG HTH HSZ HSZ2 HCR
      obtain ⟨nr, hnr⟩ : ∃ nr, nr = wr.heap.size := ⟨_, rfl⟩
      rw [← hnr]
      clear hnr
      go_loopw [32] (fun x wi => ∃ (m : Nat), x = .int .i64 (m : Int) ∧ m ≤ 128 ∧ Hid (wi.ownsRow S 3 1 (.slice (some ⟨S, 0, none⟩) n n) n (isl (D.set k (cz cl (b.take m))))) ∧ Hid (Below S w wi)) (fun x _ => 128 - (intOf x).toNat)
      case atStart => exact ⟨0, rfl, by omega, by rw [HD0.out]; exact HCO, HCB⟩
      case round =>
        obtain ⟨m, rfl, hm, HOI, HBI⟩ := hrel
        by_cases hmt : m < 128
        · have hmb : m < b.length := by have h5 := HLB.out; omega
          have hc := HAG.out m b[m] (List.getElem?_eq_getElem hmb)
          have h256 := H8B.out b[m] (List.getElem_mem hmb)
          have HTK := hid (List.take_succ_eq_append_getElem hmb)
          obtain ⟨c, hce⟩ : ∃ c, c = b[m] := ⟨_, rfl⟩
          rw [← hce] at hc h256 HTK
          have hix := index82 cs m _ wr hmt hc
          have m3 : (m : Int) < 128 := by omega
          have ec : IntKind.i64.wrap (c : Int) = (c : Int) := by rw [IntKind.wrap_i64]; omega
          have HCS := hid (show cz cl (b.take (m + 1)) = cz cl (b.take m) + if (c : Int) = cl then 1 else 0 by rw [HTK.out, cz_snoc])
          have hle := cz_le cl (b.take m)
          rw [List.length_take] at hle
          clear hce HTK hc
          by_cases hq : (c : Int) = cl
          · have hq' : ((c : Int) == cl) = true := by simp [hq]
            rw [if_pos hq] at HCS
            have hkD : k < D.length := by have h5 := HD.out; omega
            have cq : wr.cell? ⟨S, k, none⟩ = some (.int .i64 ((cz cl (b.take m) : Nat) : Int)) := by
              rw [HOI.out.cellAt k (by omega)]
              exact isl_get (by rw [List.getElem?_set_self hkD])
            have fq : wr.frozen? ⟨S, k, none⟩ = false := HOI.out.frozenAt _
            obtain ⟨x, hx⟩ : ∃ x, x = cz cl (b.take m) := ⟨_, rfl⟩
            rw [← hx] at cq HCS hle HOI
            have ex : IntKind.i64.wrap ((x : Int) + 1) = (x : Int) + 1 := by rw [IntKind.wrap_i64]; omega
            have HNO := hid (show (wr.setCell ⟨S, k, none⟩ (.int .i64 ((x : Int) + 1))).ownsRow S 3 1 (.slice (some ⟨S, 0, none⟩) n n) n (isl (D.set k (cz cl (b.take (m + 1))))) by
              have h5 := (HOI.out.stored k (.int .i64 ((x : Int) + 1))).1
              rw [show ((x : Int) + 1) = ((x + 1 : Nat) : Int) by omega, isl_set, List.set_set] at h5
              rw [HCS.out, show ((x : Int) + 1) = ((x + 1 : Nat) : Int) by omega]
              exact h5)
            have HNB := hid (HBI.out.setCell (p := ⟨S, k, none⟩) (Nat.le_refl S) (.int .i64 ((x : Int) + 1)))
            clear hx HOI hq
            go_wp2
            go_roundw
            case rel => exact ⟨m + 1, by go_num, by omega, HNO, HNB⟩
            case measure => simp [intOf]; omega
          · have hq' : ((c : Int) == cl) = false := by simp [hq]
            rw [if_neg hq] at HCS
            have HCS2 := hid (HCS.out.trans (Nat.add_zero _))
            rw [← HCS2.out] at HOI
            clear HCS
            clear hq
            go_wp2
            go_roundw
            case rel => exact ⟨m + 1, by go_num, by omega, HOI, HBI⟩
            case measure => simp [intOf]; omega
        · have hme : m = 128 := by omega
          have m3 : ¬ (m : Int) < 128 := by omega
          have HE := hid (show b.take m = b by rw [hme, ← HLB.out, List.take_of_length_le (Nat.le_refl _)])
          rw [HE.out] at HOI
          have HD2 := hid (show (D.set k (cz cl b)).length = n by rw [List.length_set]; exact HD.out)
          have HQ2 := hid (show ∀ j, j < n → (D.set k (cz cl b))[j]? = some (if j < k + 1 then cz cl ((uq F)[j]?.getD []) else 0) from fun j hj => by
            by_cases hjk : k = j
            · subst hjk
              rw [List.getElem?_set_self (by have h5 := HD.out; omega), if_pos (by omega), HBK.out]; rfl
            · rw [List.getElem?_set_ne hjk, HQ.out j hj]
              by_cases hj2 : j < k
              · rw [if_pos hj2, if_pos (by omega)]
              · rw [if_neg hj2, if_neg (by omega)])
          clear hme
          go_wp2
          go_roundw
          case rel => exact ⟨k + 1, D.set k (cz cl b), by go_num, by omega, HD2, HQ2, HOI, HBI⟩
          case measure => simp [intOf]; omega
    · have k3 : ¬ (k : Int) < (n : Int) := by omega
      have hke : k = n := by omega
      have HDA := hid (show ∀ j, j < n → D[j]? = some (cz cl ((uq F)[j]?.getD [])) from fun j hj => by rw [HQ.out j hj, if_pos (by omega)])
      have HBW := hid (show Below w.heap.size w wr by have h5 := HS.out; rw [← h5]; exact HB.out)
      have HFR := hid (show wr.rangeAt T 0 (u16n (fst F)) from tb_first ((HBW.out.block T (by have h5 := HS.out; omega)).trans HT.out))
      have hfl : (fst F).length = 8704 := by rw [fst_len]; exact HF.out
      have HSZ := hid (show (Try.prog.info? 76).map (·.size) = some (u16n (fst F)).length by rw [u16n_len, hfl]; exact size76n)
      have HAG := hid (fun (i c : Nat) (h : (fst F)[i]? = some c) => u16a_get h)
      have HFL := hid hfl
      clear hke hfl HQ
      go_wp2_with (refine wpList_load_mid rfl 76 _ rfl T 0 rfl (u16n (fst F)) _ HFR.out Try.underlying76 rfl HSZ.out ?_)
      obtain ⟨cs, hcse⟩ : ∃ cs, cs = (u16n (fst F)).toArray := ⟨_, rfl⟩
      rw [← hcse] at HAG ⊢
      clear hcse HFR HSZ HBW
      go_loopw [51, 10] (fun x y wi => ∃ (i : Nat), x = .int .i64 (i : Int) ∧ y = .int .i64 (((((fst F).take i).map fun k => cz cl ((uq F)[k]?.getD [])).sum : Nat) : Int) ∧ i ≤ 8704 ∧ Hid ((((fst F).take i).map fun k => cz cl ((uq F)[k]?.getD [])).sum ≤ i * 128) ∧ Hid (wi.ownsRow S 3 1 (.slice (some ⟨S, 0, none⟩) n n) n (isl D)) ∧ Hid (Below S w wi)) (fun x _ _ => 8704 - (intOf x).toNat)
      case atStart => exact ⟨0, rfl, rfl, by omega, Nat.le_refl _, HO2, HB⟩
      case round =>
        obtain ⟨i, rfl, rfl, hi, HSM, HOI, HBI⟩ := hrel
        obtain ⟨s, hs⟩ : ∃ s, s = (((fst F).take i).map fun k => cz cl ((uq F)[k]?.getD [])).sum := ⟨_, rfl⟩
        rw [← hs] at HSM ⊢
        by_cases hit : i < 8704
        · have hif : i < (fst F).length := by rw [HFL.out]; exact hit
          obtain ⟨q, hq⟩ : ∃ q, (fst F)[i]? = some q := ⟨_, List.getElem?_eq_getElem hif⟩
          have hix := index76 cs i _ wr hit (HAG.out i q hq)
          have hqn : q < n := by
            obtain ⟨b, hb1, hb2⟩ := fst_mem hq
            rw [HN.out, hb2]
            exact ix_lt hb1
          have HQD := hid (HDA.out q hqn)
          have cq : wr.cell? ⟨S, q, none⟩ = some (.int .i64 ((cz cl ((uq F)[q]?.getD []) : Nat) : Int)) := by
            rw [HOI.out.cellAt q (by omega)]
            exact isl_get HQD.out
          have HSX := hid (show (((fst F).take (i + 1)).map fun k => cz cl ((uq F)[k]?.getD [])).sum = s + cz cl ((uq F)[q]?.getD []) by
            have h6 : (fst F)[i] = q := (List.getElem?_eq_some_iff.1 hq).2
            rw [List.take_succ_eq_append_getElem hif, List.map_append, List.sum_append, hs, h6]
            simp)
          have hxb : cz cl ((uq F)[q]?.getD []) ≤ 128 := by
            have hql : q < (uq F).length := by have h5 := HN.out; omega
            have h6 := cz_le cl ((uq F)[q]?.getD [])
            rw [List.getElem?_eq_getElem hql] at h6 ⊢
            have h7 := uq_ok HO.out _ (List.getElem_mem hql)
            simp only [Option.getD_some] at h6 ⊢
            omega
          obtain ⟨x, hx⟩ : ∃ x, x = cz cl ((uq F)[q]?.getD []) := ⟨_, rfl⟩
          rw [← hx] at cq HSX hxb
          have hsm := HSM.out
          have es : IntKind.i64.wrap ((s : Int) + (x : Int)) = (s : Int) + (x : Int) := by rw [IntKind.wrap_i64]; omega
          have i3 : (i : Int) < 8704 := by omega
          have q3 : (q : Int) < (n : Int) := by omega
          have q0 : (0 : Int) ≤ (q : Int) := by omega
          have HSX2 := hid (show (((((fst F).take (i + 1)).map fun k => cz cl ((uq F)[k]?.getD [])).sum : Nat) : Int) = (s : Int) + (x : Int) by rw [HSX.out]; omega)
          have HSM2 := hid (show (((fst F).take (i + 1)).map fun k => cz cl ((uq F)[k]?.getD [])).sum ≤ (i + 1) * 128 by rw [HSX.out]; omega)
          clear hs hx hsm HSX HQD hq
          go_wp2
          go_roundw
          case rel => exact ⟨i + 1, by go_num, by rw [HSX2.out], by omega, HSM2, HOI, HBI⟩
          case measure => simp [intOf]; omega
        · have i3 : ¬ (i : Int) < 8704 := by omega
          have hie : i = 8704 := by omega
          have HEND := hid (show s = cz cl F.flatten by rw [hs, hie, ← HFL.out, List.take_of_length_le (Nat.le_refl _)]; exact cz_fst cl F)
          have HBE := hid (show Below w.heap.size w wr by have h5 := HS.out; rw [← h5]; exact HBI.out)
          clear hs hie
          go_wp2
          go_ret
          exact ⟨by rw [HEND.out]; rfl, HBE.out⟩
end Go.Proofs.Ytljlhlcoaajggaa
