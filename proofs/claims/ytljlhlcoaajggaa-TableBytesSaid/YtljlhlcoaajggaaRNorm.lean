/- The contract of normal (package kerfref03). -/
import Derived.Test.YtljlhlcoaajggaaLiveAll
import Derived.Test.YtljlhlcoaajggaaRSort2
namespace Go.Proofs.Ytljlhlcoaajggaa
open Go.RowKit

theorem ris_take : ∀ (A : List Tr) (b i : Nat), Ris b A → Ris b (A.take i)
  | [], _, _, _ => by simp [Ris]
  | g :: A, b, 0, _ => trivial
  | g :: A, b, i + 1, h => by
    obtain ⟨h1, h2, h3, h4, h5⟩ := h
    exact ⟨h1, h2, h3, h4, ris_take A _ i h5⟩
theorem nrA_ris (r : Nat) (hr : r < 256) (A : List Tr) (h : Ris 0 A) : Ris 0 (nrA r [] A) := by
  rw [nrA_eq r hr _ A rfl h]
  have := clq_len r A 0 (by omega) h
  exact ris_fil r _ 0 (rlA_ris _ (clq r 0 A) rfl (by omega) (clq_256 r A hr h)).1
theorem jA_len (o : List Tr) (g : Tr) : (jA o g).length ≤ o.length + 1 := by
  rcases List.eq_nil_or_concat o with rfl | ⟨Q, z, rfl⟩
  · rw [jA_nil]; simp
  · rw [List.concat_eq_append, jA_snoc]
    split <;> simp
theorem nrA_len (r : Nat) : ∀ (A o : List Tr), (nrA r o A).length ≤ o.length + A.length
  | [], o => by simp [nrA]
  | g :: A, o => by
    show (if g.2.2 = r then nrA r o A else nrA r (jA o g) A).length ≤ _
    have h1 := nrA_len r A o
    have h2 := nrA_len r A (jA o g)
    have h3 := jA_len o g
    rw [List.length_cons]
    split <;> omega

set_option maxHeartbeats 6000000 in
set_option maxRecDepth 100000 in
theorem normal_any (ao : Option Addr) (ac : Nat) (A : List Tr) (r : Nat) (w : World) (ha : RdK w ao (A.map rkT)) (hl : A.length ≤ 1000000) (hr : r < 256) (hR : Ris 0 A) :
    Calls Try.prog 42 #[.slice ao A.length ac, .int .i64 (r : Int)] w fun e w' => ∃ v', e = .returned v' ∧ w'.ownsRow w.heap.size 36 3 v' (nrA r [] A).length (rks (nrA r [] A)) ∧ Below w.heap.size w w' := by
  obtain ⟨i0, hi36, hz0, hz1, hz2⟩ := info_parts Try.info36
  have HA := hid ha
  have HR := hid hR
  obtain ⟨n, hn⟩ : ∃ n, n = A.length := ⟨_, rfl⟩
  rw [← hn] at hl ⊢
  have HN := hid hn
  obtain ⟨B, hB⟩ : ∃ B, B = w.heap.size := ⟨_, rfl⟩
  have HBE := hid hB
  rw [← hB]
  clear ha hR hn hB
  go_enter Try.func42, Try.ntmps42
  go_wp2
  go_loopw [6, 5] (fun x y wr => ∃ (i m : Nat) (vo : Option Addr) (vc : Nat), x = .int .i64 (i : Int) ∧ y = .slice vo m vc ∧ i ≤ n ∧ Hid (m = (nrA r [] (A.take i)).length) ∧ Hid (wr.ownsRow B 36 3 (.slice vo m vc) m (rks (nrA r [] (A.take i)))) ∧ Hid (Below B w wr)) (fun x _ _ => n - (intOf x).toNat)
  case atStart => exact ⟨0, 0, none, 0, rfl, rfl, by omega, rfl, World.ownsRow_nil w B 36 3, Below.refl _ _⟩
  case round =>
    obtain ⟨i, m, vo, vc, rfl, rfl, hi, HM, HO, HB⟩ := hrel
    have hwB : B ≤ wr.heap.size := by have h5 := HBE.out; have h6 := HB.out.size; omega
    by_cases hlt : i < n
    · have hiA : i < A.length := by have h5 := HN.out; omega
      have HAC := hid (show ∀ W, Below B w W → ∃ a : Addr, ao = some a ∧ W.cell? (a.add (i * 3)) = some (.int .i32 (A[i].1 : Int)) ∧ W.cell? ⟨(a.add (i * 3)).block, (a.add (i * 3)).off + 1, none⟩ = some (.int .i32 (A[i].2.1 : Int)) ∧ W.cell? ⟨(a.add (i * 3)).block, (a.add (i * 3)).off + 2, none⟩ = some (.int .i64 (A[i].2.2 : Int)) from fun W hW => by
        obtain ⟨a, e, _, c0, c1, c2⟩ := HA.out.below (show Below w.heap.size w W by have h5 := HBE.out; rw [← h5]; exact hW) i (rkT A[i]) (by rw [List.getElem?_map, List.getElem?_eq_getElem hiA]; rfl)
        exact ⟨a, e, c0, c1, c2⟩)
      have HSN := hid (show nrA r [] (A.take (i + 1)) = if A[i].2.2 = r then nrA r [] (A.take i) else jA (nrA r [] (A.take i)) A[i] by rw [List.take_succ_eq_append_getElem hiA, nrA_snoc])
      have HRO := hid (nrA_ris r hr _ (ris_take A 0 i HR.out))
      have hml : m ≤ 1000000 := by
        have h5 := nrA_len r (A.take i) []
        rw [List.length_take] at h5
        have h6 := HM.out
        simp at h5; omega
      obtain ⟨a, rfl, c0, c1, c2⟩ := HAC.out wr HB.out
      obtain ⟨h1, h2, h3, h4⟩ := ris_mem HR.out A[i] (List.getElem_mem hiA)
      obtain ⟨g, hg⟩ : ∃ g, g = A[i] := ⟨_, rfl⟩
      rw [← hg] at c0 c1 c2 HSN h1 h2 h3 h4
      obtain ⟨o, ho⟩ : ∃ o, o = nrA r [] (A.take i) := ⟨_, rfl⟩
      rw [← ho] at HM HO HSN HRO
      obtain ⟨lo, hh, cl⟩ := g
      dsimp only at c0 c1 c2 h1 h2 h3 h4
      have i3 : (i : Int) < (n : Int) := by omega
      have i0' : (0 : Int) ≤ (i : Int) := by omega
      clear hg ho HAC h1
      by_cases hc : cl = r
      · have hc' : ((cl : Int) == (r : Int)) = true := by simp; omega
        rw [if_pos (show ((lo, hh, cl) : Tr).2.2 = r from hc)] at HSN
        rw [← HSN.out] at HM HO
        clear hc
        go_wp2
        go_roundw
        case rel => exact ⟨i + 1, m, vo, vc, by go_num, rfl, by omega, HM, HO, HB⟩
        case measure => simp [intOf]; omega
      · have hc' : ((cl : Int) == (r : Int)) = false := by simp; omega
        rw [if_neg (show ¬ ((lo, hh, cl) : Tr).2.2 = r from hc)] at HSN
        clear hc
        rcases List.eq_nil_or_concat o with h0 | ⟨Q, z, h0⟩
        · have hm0 : m = 0 := by have h5 := HM.out; rw [h0] at h5; exact h5
          subst hm0
          rw [h0] at HO HSN
          rw [jA_nil] at HSN
          clear h0 HM HRO
          go_wp2_with fail
          go_quiet (fail)
          have d0 : (wr.drewN nq).cell? (a.add (i * 3)) = some (.int .i32 (lo : Int)) := c0
          have d1 : (wr.drewN nq).cell? ⟨(a.add (i * 3)).block, (a.add (i * 3)).off + 1, none⟩ = some (.int .i32 (hh : Int)) := c1
          have d2 : (wr.drewN nq).cell? ⟨(a.add (i * 3)).block, (a.add (i * 3)).off + 2, none⟩ = some (.int .i64 (cl : Int)) := c2
          have HOW := hid (show (wr.drewN nq).ownsRow B 36 3 (.slice vo 0 vc) 0 (rks []) from HO.out)
          have HBW := hid (HB.out.trans (below_drewN B wr nq))
          obtain ⟨W, hW⟩ : ∃ W, W = wr.drewN nq := ⟨_, rfl⟩
          rw [← hW] at d0 d1 d2 HOW HBW ⊢
          have hwW : B ≤ W.heap.size := by have h5 := HBE.out; have h6 := HBW.out.size; omega
          clear hW c0 c1 c2 HO HB
          go_wp2_with (at_builtin; refine wpList_append_lies _ rfl _ _ 25 rfl B 36 i0 (.agg #[.int .i32 0, .int .i32 0, .int .i64 0]) 3 16 Try.underlying25 hi36 hz0 hz1 hz2 rfl (by decide) _ 0 (rks []) rfl (HOW.out.alloc _) ⟨W.heap.size, 0, none⟩ 1 1 (rkc ((lo : Int), (hh : Int), (cl : Int))) rfl rfl (news_k W ((lo : Int), (hh : Int), (cl : Int)) 36) (rkc_one _) (by decide) (by unfold maxLen; omega) (by omega) (by simp; omega) (W.heap.size + 1) (by simp) ?_; intro q2 c2' w2 o2 gr2 hl2 hlt2)
          have HB2 := hid ((HBW.out.alloc hwW (.cells #[.int .i32 (lo : Int), .int .i32 (hh : Int), .int .i64 (cl : Int)] 36)).grown gr2 (by simp; omega) (fun k hk => (HOW.out.lt k hk).1))
          have HO2 := hid (show w2.ownsRow B 36 3 (.slice (some ⟨q2, 0, none⟩) (0 + 1) c2') (0 + 1) (rks (nrA r [] (A.take (i + 1)))) by rw [HSN.out, show rks [(lo, hh, cl)] = rks [] ++ rkc ((lo : Int), (hh : Int), (cl : Int)) by simp [rks, rkT]]; exact o2)
          have HM2 := hid (show 0 + 1 = (nrA r [] (A.take (i + 1))).length by rw [HSN.out]; rfl)
          clear o2 gr2 hl2 hlt2
          go_roundw
          case rel => exact ⟨i + 1, 0 + 1, some ⟨q2, 0, none⟩, c2', by go_num, rfl, by omega, HM2, HO2, HB2⟩
          case measure => simp [intOf]; omega
        · rw [List.concat_eq_append] at h0
          have hmQ : m = Q.length + 1 := by have h5 := HM.out; rw [h0] at h5; simpa using h5
          rw [h0] at HO HSN HRO
          rw [jA_snoc] at HSN
          obtain ⟨y1, y2, y3, y4⟩ := ris_mem HRO.out z (by simp)
          obtain ⟨q, cap', hve, hqB, hqw⟩ := HO.out.form (by omega)
          cases hve
          obtain ⟨k, hk⟩ : ∃ k, k = Q.length := ⟨_, rfl⟩
          have e1 : wr.cell? ⟨q, k * 3 + 1, none⟩ = some (.int .i32 (z.2.1 : Int)) := by rw [hk, HO.out.cellAt _ (by omega)]; exact rks_at Q z 1 _ rfl
          have e2 : wr.cell? ⟨q, k * 3 + 2, none⟩ = some (.int .i64 (z.2.2 : Int)) := by rw [hk, HO.out.cellAt _ (by omega)]; exact rks_at Q z 2 _ rfl
          have k0 : (0 : Int) < (m : Int) := by omega
          have kN : 0 < m := by omega
          have k1 : (m : Int) - 1 = (k : Int) := by omega
          have k2 : IntKind.i64.wrap (k : Int) = (k : Int) := by rw [IntKind.wrap_i64]; omega
          have k3 : (k : Int) < (m : Int) := by omega
          have k4 : (0 : Int) ≤ (k : Int) := by omega
          have HKQ := hid hk
          have HMQ := hid hmQ
          obtain ⟨zl, zh, zc⟩ := z
          dsimp only at e1 e2 y1 y2 y3 y4
          have k5 : IntKind.i32.wrap ((zh : Int) + 1) = ((zh + 1 : Nat) : Int) := by rw [IntKind.wrap_i32]; omega
          clear h0 hk hmQ HM HRO
          by_cases hadj : zh + 1 = lo
          · by_cases hcls : zc = cl
            · have t1 : (((zh + 1 : Nat) : Int) == (lo : Int)) = true := by simp; omega
              have t2 : ((zc : Int) == (cl : Int)) = true := by simp; omega
              rw [if_pos (show ((zl, zh, zc) : Tr).2.1 + 1 = ((lo, hh, cl) : Tr).1 ∧ ((zl, zh, zc) : Tr).2.2 = ((lo, hh, cl) : Tr).2.2 from ⟨hadj, hcls⟩)] at HSN
              have t3 : ((zh : Int) + 1 == (lo : Int)) = true := by simp; omega
              have HAD := hid hadj
              have HCL := hid hcls
              clear hadj hcls
              go_wp2_with fail
              go_quiet (fail)
              have d0 : (wr.drewN nq).cell? (a.add (i * 3)) = some (.int .i32 (lo : Int)) := c0
              have d1 : (wr.drewN nq).cell? ⟨(a.add (i * 3)).block, (a.add (i * 3)).off + 1, none⟩ = some (.int .i32 (hh : Int)) := c1
              have d2 : (wr.drewN nq).cell? ⟨(a.add (i * 3)).block, (a.add (i * 3)).off + 2, none⟩ = some (.int .i64 (cl : Int)) := c2
              have HOW := hid (show (wr.drewN nq).ownsRow B 36 3 (.slice (some ⟨q, 0, none⟩) m vc) m (rks (Q ++ [(zl, zh, zc)])) from HO.out)
              have HBW := hid (HB.out.trans (below_drewN B wr nq))
              have x1 : (wr.drewN nq).cell? ⟨q, k * 3 + 1, none⟩ = some (.int .i32 (zh : Int)) := e1
              obtain ⟨W, hW⟩ : ∃ W, W = wr.drewN nq := ⟨_, rfl⟩
              rw [← hW] at d0 d1 d2 HOW HBW x1 ⊢
              have fz : W.frozen? ⟨q, k * 3 + 1, none⟩ = false := HOW.out.frozenAt _
              have HO2 := hid (show (W.setCell ⟨q, k * 3 + 1, none⟩ (.int .i32 (hh : Int))).ownsRow B 36 3 (.slice (some ⟨q, 0, none⟩) m vc) m (rks (nrA r [] (A.take (i + 1)))) by
                have h5 := (HOW.out.stored (k * 3 + 1) (.int .i32 (hh : Int))).1
                rw [HKQ.out, rks_set] at h5
                rw [HSN.out, HKQ.out]
                exact h5)
              have HB2 := hid (HBW.out.setCell (p := ⟨q, k * 3 + 1, none⟩) hqB (.int .i32 (hh : Int)))
              have HM2 := hid (show m = (nrA r [] (A.take (i + 1))).length by rw [HSN.out, HMQ.out]; simp)
              clear hW c0 c1 c2 HO HB e1 e2
              go_wp2
              go_roundw
              case rel => exact ⟨i + 1, m, some ⟨q, 0, none⟩, vc, by go_num, rfl, by omega, HM2, HO2, HB2⟩
              case measure => simp [intOf]; omega
            · have t3 : ((zh : Int) + 1 == (lo : Int)) = true := by simp; omega
              have t2 : ((zc : Int) == (cl : Int)) = false := by simp; omega
              rw [if_neg (show ¬ (((zl, zh, zc) : Tr).2.1 + 1 = ((lo, hh, cl) : Tr).1 ∧ ((zl, zh, zc) : Tr).2.2 = ((lo, hh, cl) : Tr).2.2) from fun h => hcls h.2)] at HSN
              clear hadj hcls
              go_wp2_with fail
              go_quiet (fail)
              have d0 : (wr.drewN nq).cell? (a.add (i * 3)) = some (.int .i32 (lo : Int)) := c0
              have d1 : (wr.drewN nq).cell? ⟨(a.add (i * 3)).block, (a.add (i * 3)).off + 1, none⟩ = some (.int .i32 (hh : Int)) := c1
              have d2 : (wr.drewN nq).cell? ⟨(a.add (i * 3)).block, (a.add (i * 3)).off + 2, none⟩ = some (.int .i64 (cl : Int)) := c2
              have HOW := hid (show (wr.drewN nq).ownsRow B 36 3 (.slice (some ⟨q, 0, none⟩) m vc) m (rks (Q ++ [(zl, zh, zc)])) from HO.out)
              have HBW := hid (HB.out.trans (below_drewN B wr nq))
              obtain ⟨W, hW⟩ : ∃ W, W = wr.drewN nq := ⟨_, rfl⟩
              rw [← hW] at d0 d1 d2 HOW HBW ⊢
              have hwW : B ≤ W.heap.size := by have h5 := HBE.out; have h6 := HBW.out.size; omega
              clear hW c0 c1 c2 HO HB e1 e2
              go_wp2_with (at_builtin; refine wpList_append_lies _ rfl _ _ 25 rfl B 36 i0 (.agg #[.int .i32 0, .int .i32 0, .int .i64 0]) 3 16 Try.underlying25 hi36 hz0 hz1 hz2 rfl (by decide) _ m (rks (Q ++ [(zl, zh, zc)])) rfl (HOW.out.alloc _) ⟨W.heap.size, 0, none⟩ 1 1 (rkc ((lo : Int), (hh : Int), (cl : Int))) rfl rfl (news_k W ((lo : Int), (hh : Int), (cl : Int)) 36) (rkc_one _) (by decide) (by unfold maxLen; omega) (by omega) (by simp; omega) (W.heap.size + 1) (by simp) ?_; intro q2 c2' w2 o2 gr2 hl2 hlt2)
              have HB2 := hid ((HBW.out.alloc hwW (.cells #[.int .i32 (lo : Int), .int .i32 (hh : Int), .int .i64 (cl : Int)] 36)).grown gr2 (by simp; omega) (fun k hk => (HOW.out.lt k hk).1))
              have HO2 := hid (show w2.ownsRow B 36 3 (.slice (some ⟨q2, 0, none⟩) (m + 1) c2') (m + 1) (rks (nrA r [] (A.take (i + 1)))) by
                rw [HSN.out, show Q ++ [(zl, zh, zc), (lo, hh, cl)] = (Q ++ [(zl, zh, zc)]) ++ [(lo, hh, cl)] by simp, rks_snoc (Q ++ [(zl, zh, zc)])]
                exact o2)
              have HM2 := hid (show m + 1 = (nrA r [] (A.take (i + 1))).length by rw [HSN.out, HMQ.out]; simp)
              clear o2 gr2 hl2 hlt2
              go_roundw
              case rel => exact ⟨i + 1, m + 1, some ⟨q2, 0, none⟩, c2', by go_num, rfl, by omega, HM2, HO2, HB2⟩
              case measure => simp [intOf]; omega
          · have t3 : ((zh : Int) + 1 == (lo : Int)) = false := by simp; omega
            rw [if_neg (show ¬ (((zl, zh, zc) : Tr).2.1 + 1 = ((lo, hh, cl) : Tr).1 ∧ ((zl, zh, zc) : Tr).2.2 = ((lo, hh, cl) : Tr).2.2) from fun h => hadj h.1)] at HSN
            clear hadj
            go_wp2_with fail
            go_quiet (fail)
            have d0 : (wr.drewN nq).cell? (a.add (i * 3)) = some (.int .i32 (lo : Int)) := c0
            have d1 : (wr.drewN nq).cell? ⟨(a.add (i * 3)).block, (a.add (i * 3)).off + 1, none⟩ = some (.int .i32 (hh : Int)) := c1
            have d2 : (wr.drewN nq).cell? ⟨(a.add (i * 3)).block, (a.add (i * 3)).off + 2, none⟩ = some (.int .i64 (cl : Int)) := c2
            have HOW := hid (show (wr.drewN nq).ownsRow B 36 3 (.slice (some ⟨q, 0, none⟩) m vc) m (rks (Q ++ [(zl, zh, zc)])) from HO.out)
            have HBW := hid (HB.out.trans (below_drewN B wr nq))
            obtain ⟨W, hW⟩ : ∃ W, W = wr.drewN nq := ⟨_, rfl⟩
            rw [← hW] at d0 d1 d2 HOW HBW ⊢
            have hwW : B ≤ W.heap.size := by have h5 := HBE.out; have h6 := HBW.out.size; omega
            clear hW c0 c1 c2 HO HB e1 e2
            go_wp2_with (at_builtin; refine wpList_append_lies _ rfl _ _ 25 rfl B 36 i0 (.agg #[.int .i32 0, .int .i32 0, .int .i64 0]) 3 16 Try.underlying25 hi36 hz0 hz1 hz2 rfl (by decide) _ m (rks (Q ++ [(zl, zh, zc)])) rfl (HOW.out.alloc _) ⟨W.heap.size, 0, none⟩ 1 1 (rkc ((lo : Int), (hh : Int), (cl : Int))) rfl rfl (news_k W ((lo : Int), (hh : Int), (cl : Int)) 36) (rkc_one _) (by decide) (by unfold maxLen; omega) (by omega) (by simp; omega) (W.heap.size + 1) (by simp) ?_; intro q2 c2' w2 o2 gr2 hl2 hlt2)
            have HB2 := hid ((HBW.out.alloc hwW (.cells #[.int .i32 (lo : Int), .int .i32 (hh : Int), .int .i64 (cl : Int)] 36)).grown gr2 (by simp; omega) (fun k hk => (HOW.out.lt k hk).1))
            have HO2 := hid (show w2.ownsRow B 36 3 (.slice (some ⟨q2, 0, none⟩) (m + 1) c2') (m + 1) (rks (nrA r [] (A.take (i + 1)))) by
              rw [HSN.out, show Q ++ [(zl, zh, zc), (lo, hh, cl)] = (Q ++ [(zl, zh, zc)]) ++ [(lo, hh, cl)] by simp, rks_snoc (Q ++ [(zl, zh, zc)])]
              exact o2)
            have HM2 := hid (show m + 1 = (nrA r [] (A.take (i + 1))).length by rw [HSN.out, HMQ.out]; simp)
            clear o2 gr2 hl2 hlt2
            go_roundw
            case rel => exact ⟨i + 1, m + 1, some ⟨q2, 0, none⟩, c2', by go_num, rfl, by omega, HM2, HO2, HB2⟩
            case measure => simp [intOf]; omega
    · have i3 : ¬ (i : Int) < (n : Int) := by omega
      have HTE := hid (show A.take i = A by rw [List.take_of_length_le (by have h5 := HN.out; omega)])
      rw [HTE.out] at HO HM
      have HM2 := hid HM.out
      go_wp2
      go_ret
      exact ⟨_, rfl, by rw [← HM2.out]; exact HO.out, HB.out⟩
end Go.Proofs.Ytljlhlcoaajggaa
