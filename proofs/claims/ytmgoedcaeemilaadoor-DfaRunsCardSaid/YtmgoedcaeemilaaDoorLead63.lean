/- The contract of leading (package dfa), at the two functions that Live and Sure hand it. -/
import Derived.Test.YtmgoedcaeemilaaDoorLead1
namespace Go.Proofs.YtmgoedcaeemilaaDoor
open Go.RowKit

/-- What it leaves: a row of bools of its own. -/
def LdQ (w : World) (n : Nat) (R : Rw) (aim : Nat → Prop) (e : Ending) (w' : World) : Prop := ∃ (bs : List Bool) (gl vc : Nat), e = .returned (.slice (some ⟨gl, 0, none⟩) n vc) ∧ w'.ownsRow w.heap.size 4 1 (.slice (some ⟨gl, 0, none⟩) n vc) n (bls bs) ∧ bs.length = n ∧ (∀ s : Nat, bs[s]? = some true ↔ Lead R aim s) ∧ Below w.heap.size w w'
set_option maxHeartbeats 16000000 in
theorem leading_63 (P0 : Nat) (c : Int) (no to : Option Addr) (n nc m tc : Nat) (R : Rw) (T : List Int) (w : World) (hd : DRd w no n to m R T) (hg : Gd c R T) (hb : BoxAt w P0 (.int .i64 c) (.slice no n nc) (.slice to m tc)) :
    Calls Tryd.prog 62 #[.agg #[.int .i64 c, .slice no n nc, .slice to m tc], .func (.func 63) #[] #[.pointer (some ⟨P0, 0, none⟩)]] w fun e w' => LdQ w n R (fun s => s < n ∧ lvB T s = true) e w' := by
  obtain ⟨i0, hi3, hz0, hz1, hz2⟩ := info_parts Tryd.info3
  obtain ⟨i1, hi4, hy0, hy1, hy2⟩ := info_parts Tryd.info4
  obtain ⟨i2, hi28, hx0, hx1, hx2⟩ := info_parts Tryd.info28
  have hn1 := hg.n1
  have hn2 := hg.n2
  have hnR := hd.hn
  have M1 := mkS Tryd.underlying30 hi28 hx0 hx1 hx2 (by decide) n (by omega)
  have M2 := mkS Tryd.underlying53 hi4 hy0 hy1 hy2 (by decide) n (by omega)
  have hmn : m = n := by have := hg.tl; have := hd.hm; omega
  have HD := hid hd
  have HG := hid hg
  have HBX := hid hb
  have HMN := hid hmn
  have HNR := hid hnR
  have hn0 : 1 ≤ n := by omega
  have hn3 : n ≤ 1024 := by omega
  clear hd hg hb hmn hnR hn1 hn2
  obtain ⟨Z1, hZ1⟩ : ∃ Z, Z = madeCells (Value.slice none 0 0).cells n := ⟨_, rfl⟩
  obtain ⟨Z2, hZ2⟩ : ∃ Z, Z = madeCells (Value.bool false).cells n := ⟨_, rfl⟩
  rw [← hZ1] at M1
  rw [← hZ2] at M2
  have HZ1 := hid hZ1
  have HZ2 := hid hZ2
  clear hZ1 hZ2
  go_enter Tryd.func62, Tryd.ntmps62
  go_wp2
  clear M1 M2 hi4 hy0 hy1 hy2 hi28 hx0 hx1 hx2
  obtain ⟨bx, hbx⟩ : ∃ o : Obj, o = .cells #[.int .i64 c, .slice no n nc, .slice to m tc] 32 := ⟨_, rfl⟩
  have HOB := hid hbx
  obtain ⟨W0, hW0⟩ : ∃ W, W = ((w.alloc bx).alloc (.cells Z1 28)).alloc (.cells Z2 4) := ⟨_, rfl⟩
  rw [← hbx, ← hW0]
  obtain ⟨g, hgg⟩ : ∃ g, g = w.heap.size + 1 := ⟨_, rfl⟩
  obtain ⟨P, hPP⟩ : ∃ g, g = w.heap.size := ⟨_, rfl⟩
  obtain ⟨gl, hgl⟩ : ∃ g, g = w.heap.size + 1 + 1 := ⟨_, rfl⟩
  rw [← hgl, ← hgg, ← hPP]
  have HP1 := hid (show P1 w W0 bx (w.heap.size + 3) g gl n R (fun s => s < n ∧ lvB T s = true) 0 0 none 0 0 by
    have a1 : W0.heap[g]? = some (.cells Z1 28) := by
      rw [hW0, Below.heap_alloc _ _ _ (by simp; omega)]
      subst hgg
      rw [show w.heap.size + 1 = (w.alloc bx).heap.size by simp]
      exact heap_alloc_new _ _
    have a2 : W0.heap[gl]? = some (.cells Z2 4) := by
      rw [hW0]
      subst hgl
      rw [show w.heap.size + 1 + 1 = ((w.alloc bx).alloc (.cells Z1 28)).heap.size by simp]
      exact heap_alloc_new _ _
    have hB0 : W0.heap.size = w.heap.size + 3 := by rw [hW0]; simp
    refine ⟨List.replicate n [], List.replicate n (.slice none 0 0), List.replicate n false, [], ⟨?_, ?_, ?_, rfl, World.ownsRow_nil _ _ _ _, fun p u b hu hb e => (by cases e), by omega, by omega, by omega, by omega, by omega⟩, BkI.start R n, LQ.start R _ n, fun s hs => (by omega), fun s _ hs => by rw [List.getElem?_replicate, if_pos hs]⟩
    · rw [hW0]
      exact (box_self.alloc (by simp) _).alloc (by simp) _
    · rw [HZ1.out] at a1
      have h := Tbl.start (B := w.heap.size + 3) (e := 3) (sz := 1) a1 (by omega)
      rw [show (List.replicate n ([] : List Int)).map i64s = List.replicate n [] by rw [List.map_replicate]; rfl]
      exact h
    · rw [a2, HZ2.out]
      have h := bls_falses n
      rw [Nat.mul_one] at h
      rw [← h])
  have HGG := hid (show g = w.heap.size + 1 ∧ P = w.heap.size from ⟨hgg, hPP⟩)
  obtain ⟨B, hB⟩ : ∃ B, B = w.heap.size + 3 := ⟨_, rfl⟩
  rw [← hB] at HP1
  have HROW := hid (show ∀ (s t : Nat) (row : List Int), R[s]? = some row → (t : Int) ∈ row → t < n from fun s t row hr ht => by
    have hsl := (List.getElem?_eq_some_iff.1 hr).1
    have h1 := ((HG.out.row s row (T[s]'(by have := HG.out.tl; omega)) hr (List.getElem?_eq_getElem _)).2.2 (t : Int) ht).2
    have := HNR.out
    omega)
  have HLEN := hid (show ∀ (s : Nat) (row : List Int), R[s]? = some row → row.length ≤ 64 ∧ ∀ x ∈ row, -1 ≤ x ∧ x < (n : Int) from fun s row hr => by
    have hsl := (List.getElem?_eq_some_iff.1 hr).1
    have h1 := HG.out.row s row (T[s]'(by have := HG.out.tl; omega)) hr (List.getElem?_eq_getElem _)
    refine ⟨by have h2 := h1.2.1; have := HG.out.c2; omega, fun x hx => ?_⟩
    have h2 := h1.2.2 x hx
    have := HNR.out
    omega)
  have HBQ := hid (show ∀ W, Below (w.heap.size + 1) (w.alloc bx) W → DRd W no n to m R T ∧ BoxAt W P0 (.int .i64 c) (.slice no n nc) (.slice to m tc) ∧ W.cell? ⟨P, 1, none⟩ = some (.slice no n nc) from fun W h => by
    have h2 := box_trans h
    refine ⟨HD.out.below h2, HBX.out.below h2, ?_⟩
    rw [HGG.out.2]
    rw [HOB.out] at h
    exact (box3 h).2.1)
  clear hW0 hgg hgl hPP hB hbx HBX HZ1 HZ2 HGG HOB
  go_loopw [7, 26] (fun x y wr => ∃ (i : Nat) (qo : Option Addr) (qm qc : Nat), x = .slice qo qm qc ∧ y = .int .i64 i ∧ i ≤ n ∧ Hid (P1 w wr bx B g gl n R (fun s => s < n ∧ lvB T s = true) i 0 qo qm qc)) (fun _ y _ => n - (intOf y).toNat)
  case atStart => exact ⟨0, none, 0, 0, rfl, rfl, Nat.zero_le _, HP1⟩
  case round =>
    clear HP1
    obtain ⟨i, qo, qm, qc, rfl, rfl, hi, HP1⟩ := hrel
    obtain ⟨q1, q2, q3⟩ := HP1.out.small
    have HL0 := hid (box_trans q3)
    obtain ⟨_, _, cP⟩ := HBQ.out _ q3
    by_cases hlt : i < n
    · obtain ⟨row, a, co, cc, hr, rfl, ha, a0w, hIw, hrl⟩ := HD.out.row hlt
      have a0 := cell_bl HL0.out a0w
      have HR := hid hr
      obtain ⟨hl64, hrng⟩ := HLEN.out i row hr
      obtain ⟨l, hl⟩ : ∃ l, l = row.length := ⟨_, rfl⟩
      rw [← hl] at a0 hl64
      have HL := hid hl
      have HRG := hid hrng
      have HI := hid hIw
      have i3 : (i : Int) < (n : Int) := by omega
      have i0' : (0 : Int) ≤ (i : Int) := by omega
      clear hr hIw hrl hl hrng q3 a0w HL0
      go_wp2
      clear cP a0 ha
      go_loopw [33] (fun y wr => ∃ j : Nat, y = .int .i64 j ∧ j ≤ l ∧ Hid (P1 w wr bx B g gl n R (fun s => s < n ∧ lvB T s = true) i j qo qm qc)) (fun y _ => l - (intOf y).toNat)
      case atStart => exact ⟨0, rfl, Nat.zero_le _, HP1⟩
      case round =>
        clear HP1
        obtain ⟨j, rfl, hj, HP1⟩ := hrel
        obtain ⟨_, q2, q3⟩ := HP1.out.small
        have HL0 := hid (box_trans q3)
        by_cases hjl : j < l
        · obtain ⟨z, d, hz, rfl, hd, d0w⟩ := HI.out.at (k := j) (by rw [← HL.out]; exact hjl)
          have d0 := cell_bl HL0.out d0w
          have HZ := hid hz
          have hzr := HRG.out z (List.mem_of_getElem? hz)
          have j3 : (j : Int) < (l : Int) := by omega
          clear hz d0w hd q3 HL0
          by_cases z1 : z = -1
          · have HP2 := hid (HP1.out.skip HR.out (by rw [HZ.out, z1]))
            have z1' : (z != -1) = false := bne_eq_false_iff_eq.2 z1
            clear z1
            go_wp2
            go_roundw
            case rel => exact ⟨j + 1, by go_num, by omega, HP2⟩
            case measure => simp [intOf]; omega
          · have z1' : (z != -1) = true := bne_iff_ne.2 z1
            obtain ⟨t, rfl⟩ : ∃ t : Nat, z = (t : Int) := ⟨z.toNat, by omega⟩
            have htn : t < n := by omega
            have t0 : (0 : Int) ≤ (t : Int) := by omega
            have t1 : (t : Int) < (n : Int) := by omega
            obtain ⟨ro, rm, rc, xs, s0, hrm, hown, hW, hnx⟩ := HP1.out.slot htn hn3 hlt (by omega)
            have HOW := hid hown
            have HWW := hid hW
            have HNX := hid (hnx row HR.out HZ.out)
            have HSZ := hid q2
            clear hown hW hnx z1 hzr q2
            obtain ⟨H, hH⟩ : ∃ H, H = wr.heap.size := ⟨_, rfl⟩
            have HH := hid hH
            go_wp2_with (at_builtin; refine wpList_append_lies _ rfl _ _ 28 rfl B 3 i0 (.int .i64 0) 1 8 Tryd.underlying28 hi3 hz0 hz1 hz2 rfl (by decide) (.slice ro rm rc) rm (i64s xs) rfl (HOW.out.alloc _) ⟨wr.heap.size, 0, none⟩ 1 1 [.int .i64 (i : Int)] rfl rfl (news_one wr _ 3) (i64s_one [(i : Int)]) (by decide) (by unfold maxLen; omega) (by omega) (by have := HSZ.out; simp; omega) (wr.heap.size + 1) (by simp) ?_; intro g5 ec5 w5 o5 gr5 hl5 hlt5; obtain ⟨f0, f1⟩ := HWW.out w5 (fun b hb1 hb2 => (gr5.block b (by simp; omega) (fun e => hb2 e.symm)).trans (Below.heap_alloc _ _ _ hb1)); have HF := hid (HNX.out g5 ec5 w5 _ o5 gr5 hl5); clear o5 gr5 hl5 hlt5)
            go_roundw
            case rel => exact ⟨j + 1, by go_num, by omega, HF⟩
            case measure => simp [intOf]; omega
        · have j3 : ¬ (j : Int) < (l : Int) := by omega
          have hje : row.length = j := by have := HL.out; omega
          obtain ⟨q1, q2, q3⟩ := HP1.out.small
          obtain ⟨dd, bb, _⟩ := HBQ.out _ q3
          have HC := hid (live1_any P0 c _ _ n nc m tc R T i _ dd bb (by have := HMN.out; omega))
          have HJE := hid hje
          clear dd bb q3 hje HL0
          rcases bool_cases (lvB T i) with ha | ha
          rotate_left
          · have HP2 := hid (HP1.out.over HR.out HJE.out (by omega) (fun h => by rw [ha] at h; cases h.2))
            rw [ha] at HC
            clear ha
            go_wp2_with (first | (go_at_call 63; refine HC.out.mono ?_; rintro e w' ⟨rfl, hw'⟩; obtain rfl := hw'.symm))
            go_roundw
            case rel => exact ⟨i + 1, qo, qm, qc, rfl, by go_num, by omega, HP2⟩
            case measure => simp [intOf]; omega
          · obtain ⟨⟨m0, m1⟩, msz, q, hqm, hown, hnx⟩ := HP1.out.mark hlt HR.out HJE.out (by omega)
            have HOW := hid hown
            have HNX := hid (hnx ⟨hlt, ha⟩)
            have HQM := hid hqm
            have HSZ := hid q2
            have HMS := hid msz
            rw [ha] at HC
            clear ha hown hnx hqm msz q2
            go_wp2_with (first | (go_at_call 63; refine HC.out.mono ?_; rintro e w' ⟨rfl, hw'⟩; obtain rfl := hw'.symm) | (at_builtin; refine wpList_append_lies _ rfl _ _ 28 rfl B 3 i0 (.int .i64 0) 1 8 Tryd.underlying28 hi3 hz0 hz1 hz2 rfl (by decide) (.slice qo qm qc) qm (i64s q) rfl (HOW.out.alloc _) ⟨wr.heap.size, 0, none⟩ 1 1 [.int .i64 (i : Int)] rfl rfl (fun j u hj => by have h := news_one (wr.setCell ⟨gl, i, none⟩ (.bool true)) (.int .i64 (i : Int)) 3 j u hj; rw [HMS.out] at h; exact h) (i64s_one [(i : Int)]) (by decide) (by unfold maxLen; omega) (by omega) (by have := HSZ.out; have := HMS.out; simp; omega) (wr.heap.size + 1) (by simp) ?_; intro g5 ec5 w5 o5 gr5 hl5 hlt5; have HF := hid (HNX.out g5 ec5 w5 _ o5 gr5 hl5); clear o5 gr5 hl5 hlt5))
            go_roundw
            case rel => exact ⟨i + 1, some ⟨g5, 0, none⟩, qm + 1, ec5, rfl, by go_num, by omega, HF⟩
            case measure => simp [intOf]; omega
    · have i3 : ¬ (i : Int) < (n : Int) := by omega
      have hin : i = n := by omega
      subst hin
      obtain ⟨M, Rv, hM, hP2⟩ := HP1.out.turn (fun s h => h.1)
      have HM := hid hM
      have HP2 := hid hP2
      clear hM hP2 HP1 q1 q2 q3 HL0 cP hlt
      go_wp2
      go_loopw [7, 12] (fun x y wr => ∃ (k : Nat) (qo : Option Addr) (qm qc : Nat), x = .slice qo qm qc ∧ y = .int .i64 k ∧ k ≤ qm ∧ Hid (P2 w wr bx B g gl i R (fun s => s < i ∧ lvB T s = true) M Rv k qo qm qc)) (fun _ y _ => i - (intOf y).toNat)
      case atStart => exact ⟨0, qo, qm, qc, rfl, rfl, Nat.zero_le _, HP2⟩
      case round =>
        clear HP2
        obtain ⟨k, qo, qm, qc, rfl, rfl, hk, HP2⟩ := hrel
        obtain ⟨q1, q2, q3⟩ := HP2.out.small
        by_cases hlt : k < qm
        · obtain ⟨t, gq, ro, rm, rc, l, htn, rfl, c1, c2, hl, hrm, hrb, hv, hP3⟩ := HP2.out.open HM.out hlt hn3
          have HL := hid hl
          have HRM := hid hrm
          have HV := hid hv
          have HP3 := hid hP3
          have j3 : (k : Int) < (qm : Int) := by omega
          have j0 : (0 : Int) ≤ (k : Int) := by omega
          have t0 : (0 : Int) ≤ (t : Int) := by omega
          have t1 : (t : Int) < (i : Int) := by omega
          clear hl hrm hv hP3 HP2 q3 q2
          go_wp2
          clear c1 c2
          go_loopw [7, 75] (fun x y wr => ∃ (j : Nat) (qo : Option Addr) (qm qc : Nat), x = .slice qo qm qc ∧ y = .int .i64 j ∧ j ≤ rm ∧ Hid (P3 w wr bx B g gl i R (fun s => s < i ∧ lvB T s = true) M Rv k t j l qo qm qc)) (fun _ y _ => rm - (intOf y).toNat)
          case atStart => exact ⟨0, _, qm, qc, rfl, rfl, Nat.zero_le _, HP3⟩
          case round =>
            clear HP3
            obtain ⟨j, qo2, qm2, qc2, rfl, rfl, hj, HP3⟩ := hrel
            obtain ⟨q4, q2, _⟩ := HP3.out.small
            by_cases hjl : j < rm
            · obtain ⟨s, gr, b, hsn, hro, c1, m0, m1, hyes, hno⟩ := HP3.out.look HM.out HNR.out.symm HV.out HL.out HRM.out hjl
              subst hro
              have k3 : (j : Int) < (rm : Int) := by omega
              have k0 : (0 : Int) ≤ (j : Int) := by omega
              have s0 : (0 : Int) ≤ (s : Int) := by omega
              have s1 : (s : Int) < (i : Int) := by omega
              cases b with
              | true =>
                have HF := hid (hyes rfl)
                clear hyes hno
                go_wp2
                go_roundw
                case rel => exact ⟨j + 1, qo2, qm2, qc2, rfl, by go_num, by omega, HF⟩
                case measure => simp [intOf]; omega
              | false =>
                obtain ⟨hqn, msz, q, hqm, hown, hnx⟩ := hno rfl
                have HOW := hid hown
                have HNX := hid hnx
                have HSZ := hid q2
                have HMS := hid msz
                clear hyes hno hown hnx hqm msz q2
                go_wp2_with (at_builtin; refine wpList_append_lies _ rfl _ _ 28 rfl B 3 i0 (.int .i64 0) 1 8 Tryd.underlying28 hi3 hz0 hz1 hz2 rfl (by decide) (.slice qo2 qm2 qc2) qm2 (i64s q) rfl (HOW.out.alloc _) ⟨wr.heap.size, 0, none⟩ 1 1 [.int .i64 (s : Int)] rfl rfl (fun j u hj => by have h := news_one (wr.setCell ⟨gl, s, none⟩ (.bool true)) (.int .i64 (s : Int)) 3 j u hj; rw [HMS.out] at h; exact h) (i64s_one [(s : Int)]) (by decide) (by unfold maxLen; omega) (by omega) (by have := HSZ.out; have := HMS.out; simp; omega) (wr.heap.size + 1) (by simp) ?_; intro g5 ec5 w5 o5 gr5 hl5 hlt5; have HF := hid (HNX.out g5 ec5 w5 _ o5 gr5 hl5); clear o5 gr5 hl5 hlt5)
                go_roundw
                case rel => exact ⟨j + 1, some ⟨g5, 0, none⟩, qm2 + 1, ec5, rfl, by go_num, by omega, HF⟩
                case measure => simp [intOf]; omega
            · obtain ⟨hP, hle⟩ := HP3.out.shut HL.out (by have := HRM.out; omega)
              have HF := hid hP
              have k3 : ¬ (j : Int) < (rm : Int) := by omega
              clear hP
              go_wp2
              go_roundw
              case rel => exact ⟨k + 1, qo2, qm2, qc2, rfl, by go_num, hle, HF⟩
              case measure => simp [intOf]; omega
        · obtain ⟨bs, hbl, hrow, hiff, hg0⟩ := HP2.out.done HM.out HNR.out.symm (by omega) HROW.out
          have HBL := hid hbl
          have HRW := hid hrow
          have HIF := hid hiff
          have HG0 := hid hg0
          have HQ3 := hid q3
          have j3 : ¬ (k : Int) < (qm : Int) := by omega
          clear hbl hrow hiff hg0 q3
          go_wp2
          go_ret
          refine ⟨bs, gl, i, rfl, ⟨by rw [bls_len, HBL.out, Nat.mul_one], .inr ⟨gl, i, _, rfl, by have := HG0.out; omega, HRW.out, Nat.le_refl _, by unfold maxLen; omega, by simp [bls_len, HBL.out], by simp [List.take_of_length_le, bls_len, HBL.out]⟩⟩, HBL.out, HIF.out, box_trans HQ3.out⟩
end Go.Proofs.YtmgoedcaeemilaaDoor
