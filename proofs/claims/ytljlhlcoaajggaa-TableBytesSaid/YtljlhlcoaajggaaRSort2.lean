/- The contract of sorted (package kerfref03). -/
import Derived.Test.YtljlhlcoaajggaaLiveAll
namespace Go.Proofs.Ytljlhlcoaajggaa
open Go.RowKit

theorem srt_snoc : ∀ (l : List Rk) (D : List Tr) (g : Rk), srt D (l ++ [g]) = insR (toT g) (srt D l)
  | [], _, _ => rfl
  | x :: l, D, g => srt_snoc l (insR (toT x) D) g
theorem flt_snoc : ∀ (l : List Rk) (D : List Tr) (i : Nat) (g : Rk), flt D i (l ++ [g]) = none → flt D i l = none ∧ okR g = true ∧ (srt D l).any (fun x => mt x (toT g)) = false
  | [], D, i, g, h => by
    have h' : (if okR g = true then (if D.any (fun x => mt x (toT g)) = true then some (8, i) else flt (insR (toT g) D) (i + 1) []) else some (30, i)) = none := h
    split at h'
    · rename_i hg
      split at h'
      · cases h'
      · rename_i ha
        exact ⟨rfl, hg, eq_false_of_ne_true ha⟩
    · cases h'
  | x :: l, D, i, g, h => by
    have h' : (if okR x = true then (if D.any (fun y => mt y (toT x)) = true then some (8, i) else flt (insR (toT x) D) (i + 1) (l ++ [g])) else some (30, i)) = none := h
    split at h'
    · rename_i hx
      split at h'
      · cases h'
      · rename_i ha
        obtain ⟨h1, h2, h3⟩ := flt_snoc l _ _ g h'
        refine ⟨?_, h2, h3⟩
        unfold flt
        rw [if_pos hx, if_neg ha]
        exact h1
    · cases h'
theorem flt_take (l : List Rk) (h : flt [] 0 l = none) (i : Nat) : flt [] 0 (l.take i) = none := by
  have hF := (flt_fin l).1 h
  refine (flt_fin _).2 ⟨fun g hg => hF.1 g (List.mem_of_mem_take hg), hF.2.sublist (List.take_sublist i l)⟩
theorem srt_len (l : List Rk) : (srt [] l).length = l.length := by
  have := (srt_perm l []).length_eq
  simpa using this
/-- Where a range is laid in: those behind begin behind it. -/
theorem spt_gt {A : List Tr} {g : Tr} (hR : Ris 0 A) (hg : g.1 ≤ g.2.1) (ha : A.any (fun x => mt x g) = false) (k : Nat) (x : Tr) (hk : spt g A ≤ k) (hx : A[k]? = some x) : g.1 < x.1 := by
  have h1 := spt_high g A 0 k x hR hk hx
  have hm := List.mem_of_getElem? hx
  have h2 := ris_mem hR x hm
  have h3 := List.any_eq_false.1 ha x hm
  rcases Nat.lt_or_ge g.2.1 x.1 with h | h
  · omega
  · exact absurd ((mt_yes x g h2.2.1).2 ⟨h1, by omega⟩) h3
theorem spt_le2 {A : List Tr} {g : Tr} (hR : Ris 0 A) (k : Nat) (x : Tr) (hk : k < spt g A) (hx : A[k]? = some x) : x.1 < g.1 := by
  have h1 := spt_low g A k x hk hx
  have h2 := ris_mem hR x (List.mem_of_getElem? hx)
  omega
/-- A row with a hole at k. -/
def HlR (A : List Tr) (k : Nat) (xs : List Value) : Prop := ∃ m : List Value, m.length = 3 ∧ xs = rks (A.take k) ++ m ++ rks (A.drop k)
theorem HlR.start (A : List Tr) (g : Tr) : HlR A A.length (rks A ++ rkc (rkT g)) := ⟨rkc (rkT g), rfl, by
  rw [List.take_of_length_le (Nat.le_refl _), List.drop_of_length_le (Nat.le_refl _)]
  simp [rks]⟩
theorem HlR.move {A : List Tr} {k : Nat} {xs : List Value} (h : HlR A (k + 1) xs) (hk : k < A.length) : HlR A k (lset xs ((k + 1) * 3) (rkc (rkT (A[k]'hk)))) := by
  obtain ⟨m, hm, rfl⟩ := h
  have hl : (rks (A.take (k + 1))).length = (k + 1) * 3 := by rw [rks_len, List.length_take]; omega
  have e1 := lset_mid (rkc (rkT A[k])) (rks (A.take (k + 1))) m (rks (A.drop (k + 1))) hm
  rw [hl] at e1
  rw [e1]
  refine ⟨rkc (rkT A[k]), rfl, ?_⟩
  rw [List.take_succ_eq_append_getElem hk, rks_snoc, List.drop_eq_getElem_cons hk]
  show _ = rks (A.take k) ++ rkc (rkT A[k]) ++ (rkc (rkT A[k]) ++ rks (A.drop (k + 1)))
  simp only [List.append_assoc]
theorem HlR.fill {A : List Tr} {g : Tr} {xs : List Value} (h : HlR A (spt g A) xs) : lset xs (spt g A * 3) (rkc (rkT g)) = rks (insR g A) := by
  obtain ⟨m, hm, rfl⟩ := h
  have hs := spt_le g A
  have hl : (rks (A.take (spt g A))).length = spt g A * 3 := by rw [rks_len, List.length_take]; omega
  have e1 := lset_mid (rkc (rkT g)) (rks (A.take (spt g A))) m (rks (A.drop (spt g A))) hm
  rw [hl] at e1
  rw [e1, insR_eq]
  simp [rks]
theorem HlR.elem {A : List Tr} {k : Nat} {xs : List Value} (h : HlR A (k + 1) xs) (hk : k < A.length) (c : Nat) (v : Value) (hv : (rkc (rkT (A[k]'hk)))[c]? = some v) : xs[k * 3 + c]? = some v := by
  obtain ⟨m, hm, rfl⟩ := h
  have hc : c < 3 := (List.getElem?_eq_some_iff.1 hv).1
  have hl : (rks (A.take k)).length = k * 3 := by rw [rks_len, List.length_take]; omega
  rw [List.take_succ_eq_append_getElem hk, rks_snoc, List.append_assoc, List.append_assoc, List.getElem?_append_right (by omega), hl, show k * 3 + c - k * 3 = c by omega, List.getElem?_append_left hc]
  exact hv

set_option maxHeartbeats 6000000 in
set_option maxRecDepth 100000 in
theorem sorted_any (ao : Option Addr) (ac : Nat) (L : List Rk) (w : World) (ha : RdK w ao L) (hl : L.length ≤ 1000000) (hf : flt [] 0 L = none) :
    Calls Try.prog 43 #[.slice ao L.length ac] w fun e w' => ∃ v', e = .returned v' ∧ w'.ownsRow w.heap.size 36 3 v' L.length (rks (srt [] L)) ∧ Below w.heap.size w w' := by
  obtain ⟨i0, hi36, hz0, hz1, hz2⟩ := info_parts Try.info36
  have HA := hid ha
  have HFL := hid hf
  obtain ⟨n, hn⟩ : ∃ n, n = L.length := ⟨_, rfl⟩
  rw [← hn] at hl ⊢
  have HN := hid hn
  obtain ⟨B, hB⟩ : ∃ B, B = w.heap.size := ⟨_, rfl⟩
  have HBE := hid hB
  rw [← hB]
  clear ha hf hn hB
  go_enter Try.func43, Try.ntmps43
  go_wp2
  go_loopw [4, 3] (fun x y wr => ∃ (i : Nat) (vo : Option Addr) (vc : Nat), x = .int .i64 (i : Int) ∧ y = .slice vo i vc ∧ i ≤ n ∧ Hid (wr.ownsRow B 36 3 (.slice vo i vc) i (rks (srt [] (L.take i)))) ∧ Hid (Below B w wr)) (fun x _ _ => n - (intOf x).toNat)
  case atStart => exact ⟨0, none, 0, rfl, rfl, by omega, World.ownsRow_nil w B 36 3, Below.refl _ _⟩
  case round =>
    obtain ⟨i, vo, vc, rfl, rfl, hi, HO, HB⟩ := hrel
    have hwB : B ≤ wr.heap.size := by have h5 := HBE.out; have h6 := HB.out.size; omega
    by_cases hlt : i < n
    · have hiL : i < L.length := by have h5 := HN.out; omega
      have HRD := hid (show ∀ W, Below B w W → RdK W ao L from fun W hW => HA.out.below (by have h5 := HBE.out; rw [← h5]; exact hW))
      have htk : L.take (i + 1) = L.take i ++ [L[i]] := List.take_succ_eq_append_getElem hiL
      have hft := flt_take L HFL.out (i + 1)
      rw [htk] at hft
      obtain ⟨hf1, hok, hany⟩ := flt_snoc _ _ _ _ hft
      have HRA := hid (srt_ris _ [] 0 trivial hf1)
      have HAL := hid (show (srt [] (L.take i)).length = i by rw [srt_len, List.length_take]; omega)
      have HSN := hid (show srt [] (L.take (i + 1)) = insR (toT L[i]) (srt [] (L.take i)) by rw [htk, srt_snoc])
      obtain ⟨t1, t2, t3⟩ := toT_ok hok
      have hrt := rkT_toT hok
      obtain ⟨a, rfl, hab, a0, a1, a2⟩ := HRD.out wr HB.out i L[i] (List.getElem?_eq_getElem hiL)
      have HAC := hid (show ∀ W, Below B w W → W.cell? (a.add (i * 3)) = some (.int .i32 L[i].1) ∧ W.cell? ⟨(a.add (i * 3)).block, (a.add (i * 3)).off + 1, none⟩ = some (.int .i32 L[i].2.1) ∧ W.cell? ⟨(a.add (i * 3)).block, (a.add (i * 3)).off + 2, none⟩ = some (.int .i64 L[i].2.2) from fun W hW => by
        obtain ⟨a', e, _, c0, c1, c2⟩ := HRD.out W hW i L[i] (List.getElem?_eq_getElem hiL)
        cases e
        exact ⟨c0, c1, c2⟩)
      obtain ⟨A, hA⟩ : ∃ A, A = srt [] (L.take i) := ⟨_, rfl⟩
      obtain ⟨g, hg⟩ : ∃ g, g = toT L[i] := ⟨_, rfl⟩
      rw [← hA] at HO HRA HAL HSN hany
      rw [← hg] at HSN t1 t2 t3 hrt hany
      rw [← hrt] at a0 a1 a2 HAC
      obtain ⟨lo, hh, cl⟩ := g
      dsimp only [rkT] at a0 a1 a2 HAC t1 t2 t3
      have HANY := hid hany
      have HGT := hid (fun k x hk hx => spt_gt (g := (lo, hh, cl)) HRA.out t1 hany k x hk hx)
      have HLT := hid (fun k x hk hx => spt_le2 (g := (lo, hh, cl)) HRA.out k x hk hx)
      have HSP := hid (show spt (lo, hh, cl) A ≤ i by have h5 := spt_le (lo, hh, cl) A; have h6 := HAL.out; omega)
      have i3 : (i : Int) < (n : Int) := by omega
      have i0' : (0 : Int) ≤ (i : Int) := by omega
      have HST := hid (HlR.start A (lo, hh, cl))
      rw [HAL.out] at HST
      clear hA hg htk hft hf1 hok hany hrt
      go_wp2_with (at_builtin; refine wpList_append_lies _ rfl _ _ 25 rfl B 36 i0 (.agg #[.int .i32 0, .int .i32 0, .int .i64 0]) 3 16 Try.underlying25 hi36 hz0 hz1 hz2 rfl (by decide) _ i (rks A) rfl (HO.out.alloc _) ⟨wr.heap.size, 0, none⟩ 1 1 (rkc ((lo : Int), (hh : Int), (cl : Int))) rfl rfl (news_k wr ((lo : Int), (hh : Int), (cl : Int)) 36) (rkc_one _) (by decide) (by unfold maxLen; omega) (by omega) (by simp; omega) (wr.heap.size + 1) (by simp) ?_; intro q qc w1 o1 gr1 hlie1 hlt1)
      have HB1 := hid ((HB.out.alloc hwB (.cells #[.int .i32 (lo : Int), .int .i32 (hh : Int), .int .i64 (cl : Int)] 36)).grown gr1 (by simp; omega) (fun k hk => (HO.out.lt k hk).1))
      have HO1 := hid o1
      clear o1 gr1 hlie1 hlt1 a0 a1 a2 HO
      obtain ⟨S, hS⟩ : ∃ S, S = spt (lo, hh, cl) A := ⟨_, rfl⟩
      rw [← hS] at HGT HLT HSP
      have HSE := hid hS
      have hsp := HSP.out
      clear hS
      go_loopw [5] (fun x wi => ∃ (k : Nat) (xs : List Value), x = .int .i64 (k : Int) ∧ k ≤ i ∧ S ≤ k ∧ Hid (HlR A k xs) ∧ Hid (wi.ownsRow B 36 3 (.slice (some ⟨q, 0, none⟩) (i + 1) qc) (i + 1) xs) ∧ Hid (Below B w wi)) (fun x _ => (intOf x).toNat)
      case atStart => exact ⟨i, _, rfl, by omega, hsp, HST, HO1, HB1⟩
      case round =>
        obtain ⟨k, xs, rfl, hki, hSk, HHL, HOX, HBX⟩ := hrel
        have hxl : xs.length = (i + 1) * 3 := HOX.out.1
        have hql := HOX.out.lt q rfl
        obtain ⟨c0, c1, c2⟩ := HAC.out wr HBX.out
        by_cases hk : S < k
        · obtain ⟨j, hj⟩ : ∃ j, k = j + 1 := ⟨k - 1, by omega⟩
          have hHL : HlR A (j + 1) xs := by rw [← hj]; exact HHL.out
          have HLX := hid (show j ≤ i ∧ S ≤ j by omega)
          have hjA : j < A.length := by have h5 := HAL.out; omega
          have hgt := HGT.out j A[j] (by omega) (List.getElem?_eq_getElem hjA)
          have e0 : wr.cell? ⟨q, j * 3, none⟩ = some (.int .i32 (A[j].1 : Int)) := by rw [HOX.out.cellAt _ (by omega)]; exact hHL.elem hjA 0 _ rfl
          have e1 : wr.cell? ⟨q, j * 3 + 1, none⟩ = some (.int .i32 (A[j].2.1 : Int)) := by rw [HOX.out.cellAt _ (by omega)]; exact hHL.elem hjA 1 _ rfl
          have e2 : wr.cell? ⟨q, j * 3 + 2, none⟩ = some (.int .i64 (A[j].2.2 : Int)) := by rw [HOX.out.cellAt _ (by omega)]; exact hHL.elem hjA 2 _ rfl
          have HMV := hid (hHL.move hjA)
          rw [← hj] at HMV
          obtain ⟨x, hx⟩ : ∃ x, x = A[j] := ⟨_, rfl⟩
          rw [← hx] at e0 e1 e2 HMV hgt
          obtain ⟨x1, x2, x3⟩ := x
          dsimp only at e0 e1 e2 hgt
          obtain ⟨n1, hn1⟩ : ∃ n1, n1 = i + 1 := ⟨_, rfl⟩
          have g1 : (lo : Int) < (x1 : Int) := by omega
          have k1 : (0 : Int) < (k : Int) := by omega
          have k2 : (k : Int) - 1 = (j : Int) := by omega
          have k3 : IntKind.i64.wrap (j : Int) = (j : Int) := by rw [IntKind.wrap_i64]; omega
          have k4 : (j : Int) < (n1 : Int) := by omega
          have k5 : (k : Int) < (n1 : Int) := by omega
          have k6 : (0 : Int) ≤ (j : Int) := by omega
          have k7 : (0 : Int) ≤ (k : Int) := by omega
          have k8 : 0 < k := by omega
          obtain ⟨o2, b2⟩ := own_sets (rkc (rkT (x1, x2, x3))) (k * 3) xs wr HOX.out
          have HWQ := hid (fun nq => (show Below B wr (wr.drewN nq) from below_drewN B wr nq))
          have HTHX := hid (show wr.there q (k * 3) 3 from fun t ht => ⟨by rw [HOX.out.cellAt _ (by omega), List.getElem?_eq_getElem (by omega)]; rfl, HOX.out.frozenAt _⟩)
          have HOXQ := hid HOX.out
          have HJK := hid hj
          clear hx hk hj o2 b2 hHL hsp hxl
          rw [← hn1] at HOX HOXQ ⊢
          have HN1 := hid hn1
          clear hn1
          go_wp2_with fail
          go_quiet (fail)
          have e0W : (wr.drewN nq).cell? ⟨q, j * 3, none⟩ = some (.int .i32 (x1 : Int)) := e0
          have e1W : (wr.drewN nq).cell? ⟨q, j * 3 + 1, none⟩ = some (.int .i32 (x2 : Int)) := e1
          have e2W : (wr.drewN nq).cell? ⟨q, j * 3 + 2, none⟩ = some (.int .i64 (x3 : Int)) := e2
          have HOW := hid (show (wr.drewN nq).ownsRow B 36 3 (.slice (some ⟨q, 0, none⟩) n1 qc) n1 xs from HOX.out)
          have HBW := hid (HBX.out.trans (below_drewN B wr nq))
          have HTW := hid (show (wr.drewN nq).there q (k * 3) 3 from HTHX.out)
          obtain ⟨W, hW⟩ : ∃ W, W = wr.drewN nq := ⟨_, rfl⟩
          rw [← hW] at e0W e1W e2W HOW HBW HTW ⊢
          obtain ⟨o2, b2⟩ := own_sets (rkc (rkT (x1, x2, x3))) (k * 3) xs W HOW.out
          have HO2 := hid o2
          have HB2 := hid (HBW.out.trans b2)
          have HALL := hid (show (#[.int .i32 (x1 : Int), .int .i32 (x2 : Int), .int .i64 (x3 : Int)] : Array Value).all (·.oneCell') = true from all_oneCell_toArray (rkc_one ((x1 : Int), (x2 : Int), (x3 : Int))))
          clear hW e0 e1 e2 o2 b2 c0 c1 c2 HOX HBX HTHX HWQ HOXQ
          go_wp2_with (refine wpList_store_mid rfl 36 _ _ rfl q (k * 3) #[.int .i32 (x1 : Int), .int .i32 (x2 : Int), .int .i64 (x3 : Int)] rfl rfl HTW.out size36 HALL.out ?_)
          go_roundw
          case rel => exact ⟨j, _, rfl, HLX.out.1, HLX.out.2, HMV, HO2, HB2⟩
          case measure => simp [intOf]; have h5 := HJK.out; omega
        · have hkS : k = S := by omega
          subst hkS
          have HTS := hid (show wr.there q (k * 3) 3 from fun t ht => ⟨by rw [HOX.out.cellAt _ (by omega), List.getElem?_eq_getElem (by omega)]; rfl, HOX.out.frozenAt _⟩)
          have hHL := HHL.out
          have hfill : lset xs (k * 3) (rkc (rkT (lo, hh, cl))) = rks (insR (lo, hh, cl) A) := by
            have h5 := HSE.out
            rw [h5] at hHL ⊢
            exact hHL.fill
          rw [← HSN.out] at hfill
          have HFI := hid hfill
          have HALL := hid (show (#[.int .i32 (lo : Int), .int .i32 (hh : Int), .int .i64 (cl : Int)] : Array Value).all (·.oneCell') = true from all_oneCell_toArray (rkc_one ((lo : Int), (hh : Int), (cl : Int))))
          obtain ⟨n1, hn1⟩ : ∃ n1, n1 = i + 1 := ⟨_, rfl⟩
          rw [← hn1] at HOX ⊢
          have HN1 := hid hn1
          have k5 : (k : Int) < (n1 : Int) := by omega
          have k7 : (0 : Int) ≤ (k : Int) := by omega
          have HQQ := hid (fun nq => (show (wr.drewN nq).cell? (a.add (i * 3)) = some (.int .i32 (lo : Int)) ∧ (wr.drewN nq).cell? ⟨(a.add (i * 3)).block, (a.add (i * 3)).off + 1, none⟩ = some (.int .i32 (hh : Int)) ∧ (wr.drewN nq).cell? ⟨(a.add (i * 3)).block, (a.add (i * 3)).off + 2, none⟩ = some (.int .i64 (cl : Int)) from ⟨c0, c1, c2⟩))
          clear hn1 hfill hHL hsp hxl hk hSk
          rcases Nat.eq_zero_or_pos k with h0 | h0
          · have HK0 := hid h0
            have k1 : ¬ (0 : Int) < (k : Int) := by omega
            have k8 : ¬ 0 < k := by omega
            clear h0
            go_wp2_with fail
            go_quiet (fail)
            obtain ⟨z0, z1, z2⟩ := HQQ.out nq
            have HOW := hid (show (wr.drewN nq).ownsRow B 36 3 (.slice (some ⟨q, 0, none⟩) n1 qc) n1 xs from HOX.out)
            have HBW := hid (HBX.out.trans (below_drewN B wr nq))
            have HTW := hid (show (wr.drewN nq).there q (k * 3) 3 from HTS.out)
            obtain ⟨W, hW⟩ : ∃ W, W = wr.drewN nq := ⟨_, rfl⟩
            rw [← hW] at z0 z1 z2 HOW HBW HTW ⊢
            obtain ⟨o2, b2⟩ := own_sets (rkc (rkT (lo, hh, cl))) (k * 3) xs W HOW.out
            rw [HFI.out, HN1.out] at o2
            have HO2 := hid o2
            have HB2 := hid (HBW.out.trans b2)
            clear hW o2 b2 c0 c1 c2 HOX HBX HTS
            go_wp2_with (refine wpList_store_mid rfl 36 _ _ rfl q (k * 3) #[.int .i32 (lo : Int), .int .i32 (hh : Int), .int .i64 (cl : Int)] rfl rfl HTW.out size36 HALL.out ?_)
            go_roundw
            case rel => exact ⟨i + 1, some ⟨q, 0, none⟩, qc, by go_num, by rw [HN1.out], by omega, HO2, HB2⟩
            case measure => simp [intOf]; omega
          · obtain ⟨j, hj⟩ : ∃ j, k = j + 1 := ⟨k - 1, by omega⟩
            have hHL2 : HlR A (j + 1) xs := by rw [← hj]; exact HHL.out
            have hjA : j < A.length := by have h5 := HAL.out; omega
            have hlt2 := HLT.out j A[j] (by omega) (List.getElem?_eq_getElem hjA)
            have e0 : wr.cell? ⟨q, j * 3, none⟩ = some (.int .i32 (A[j].1 : Int)) := by rw [HOX.out.cellAt _ (by have h5 := HN1.out; omega)]; exact hHL2.elem hjA 0 _ rfl
            obtain ⟨x1, hx1⟩ : ∃ x1, x1 = A[j].1 := ⟨_, rfl⟩
            rw [← hx1] at e0 hlt2
            have hlt3 : x1 < lo := hlt2
            have g1 : ¬ (lo : Int) < (x1 : Int) := by omega
            have g2 : ¬ lo < x1 := by omega
            have k1 : (0 : Int) < (k : Int) := by omega
            have k2 : (k : Int) - 1 = (j : Int) := by omega
            have k3 : IntKind.i64.wrap (j : Int) = (j : Int) := by rw [IntKind.wrap_i64]; omega
            have k4 : (j : Int) < (n1 : Int) := by omega
            have k6 : (0 : Int) ≤ (j : Int) := by omega
            have HJK := hid hj
            clear hx1 hHL2 hj hlt2 hlt3
            go_wp2_with fail
            go_quiet (fail)
            obtain ⟨z0, z1, z2⟩ := HQQ.out nq
            have HOW := hid (show (wr.drewN nq).ownsRow B 36 3 (.slice (some ⟨q, 0, none⟩) n1 qc) n1 xs from HOX.out)
            have HBW := hid (HBX.out.trans (below_drewN B wr nq))
            have HTW := hid (show (wr.drewN nq).there q (k * 3) 3 from HTS.out)
            obtain ⟨W, hW⟩ : ∃ W, W = wr.drewN nq := ⟨_, rfl⟩
            rw [← hW] at z0 z1 z2 HOW HBW HTW ⊢
            obtain ⟨o2, b2⟩ := own_sets (rkc (rkT (lo, hh, cl))) (k * 3) xs W HOW.out
            rw [HFI.out, HN1.out] at o2
            have HO2 := hid o2
            have HB2 := hid (HBW.out.trans b2)
            clear hW o2 b2 c0 c1 c2 HOX HBX HTS
            go_wp2_with (refine wpList_store_mid rfl 36 _ _ rfl q (k * 3) #[.int .i32 (lo : Int), .int .i32 (hh : Int), .int .i64 (cl : Int)] rfl rfl HTW.out size36 HALL.out ?_)
            go_roundw
            case rel => exact ⟨i + 1, some ⟨q, 0, none⟩, qc, by go_num, by rw [HN1.out], by omega, HO2, HB2⟩
            case measure => simp [intOf]; omega
    · have i3 : ¬ (i : Int) < (n : Int) := by omega
      have hie : i = n := by omega
      have HTE := hid (show L.take i = L by rw [List.take_of_length_le (by have h5 := HN.out; omega)])
      rw [HTE.out, hie] at HO
      subst hie
      go_wp2
      go_ret
      exact ⟨_, rfl, HO.out, HB.out⟩
end Go.Proofs.Ytljlhlcoaajggaa
