/- NfaSteps: the walk. -/
import Derived.Test.YtbabidhhdfakjaaDoorTakesJoint
import Derived.Test.YtbabidhhdfakjaaDoorCheck
import Derived.Test.YtbabidhhdfakjaaDoorTbs
namespace Go.Proofs.YtbabidhhdfakjaaDoor
open Go.RowKit

theorem eS_wid (L : List St) : eS L ≤ wid L := by
  induction L with
  | nil => simp [eS, wid]
  | cons s l ih => unfold eS at *; simp only [List.map_cons, List.sum_cons, wid, wS]; omega
theorem fS_wid (L : List St) : fS L ≤ wid L := by
  induction L with
  | nil => simp [fS, wid]
  | cons s l ih => unfold fS at *; simp only [List.map_cons, List.sum_cons, wid, wS]; omega
theorem rdi_own {B m vc : Nat} {w : World} {vo : Option Addr} {l : List Int} (h : w.ownsRow B 3 1 (.slice vo m vc) m (i64s l)) : RdI w vo l := fun k z hk => by
  obtain ⟨g, e, _, hg, hc⟩ := own_at h hk
  exact ⟨_, e, hg, by rw [Addr.add_lit, Nat.zero_add]; exact hc⟩
theorem closure_bad (so : Option Addr) (sc n : Nat) (L : List St) (s f : Int) (lo : Option Addr) (ln lc : Nat) (w : World) (hn : n = L.length) (hs : RdS w so L) (hg : gdB L s f = false) (hl : n ≤ most) :
    Calls Tryd.prog 29 #[.agg #[.slice so n sc, .int .i64 s, .int .i64 f], .slice lo ln lc] w fun e w' => e = .returned (.slice none 0 0) ∧ Below w.heap.size w w' := by
  have HC := hid (good_any so sc n L s f (w.alloc (.cells #[.slice so n sc, .int .i64 s, .int .i64 f] 28)) hn (hs.below below_box) hl)
  clear hn hs hl
  go_enter Tryd.func29, Tryd.ntmps29
  go_wp2_with fail
  refine HC.out.mono ?_
  rintro e w1 ⟨rfl, b1⟩
  have HB := hid (box_trans (show Below (w.heap.size + 1) (w.alloc (.cells #[.slice so n sc, .int .i64 s, .int .i64 f] 28)) w1 by simpa using b1))
  clear b1 HC
  go_wp2
  go_ret
  exact ⟨rfl, HB.out⟩
/-- A set that is closed already, told anew. -/
theorem clo_list {L : List St} {n : Nat} {T : List Int} (hb : ∀ x ∈ T, 0 ≤ x ∧ x < (n : Int)) (hc : ∀ x, Clo L (· ∈ T) x ↔ x ∈ T) (x : Int) : Clo L (fun y => y ∈ T ∧ 0 ≤ y ∧ y < (n : Int)) x ↔ x ∈ T := by
  rw [← hc x]
  exact Clo.congr (fun y => ⟨fun h => h.1, fun h => ⟨h, hb y h⟩⟩) x
theorem bx {w W : World} {so : Option Addr} {n sc : Nat} {s f : Int} (h : Below (w.heap.size + 1) (w.alloc (.cells #[.slice so n sc, .int .i64 s, .int .i64 f] 28)) W) : W.cell? ⟨w.heap.size, 0, none⟩ = some (.slice so n sc) ∧ W.cell? ⟨w.heap.size, 1, none⟩ = some (.int .i64 s) ∧ W.cell? ⟨w.heap.size, 2, none⟩ = some (.int .i64 f) := box3 h
set_option maxHeartbeats 4000000 in
set_option maxRecDepth 100000 in
theorem steps_main (so : Option Addr) (sc n : Nat) (L : List St) (s f : Nat) (co : Option Addr) (cl cc : Nat) (c : List Int) (lo : Option Addr) (ln lc : Nat) (l : List Int) (w : World) (hn : n = L.length) (hs : RdS w so L) (hl : n ≤ most) (hc : RdI w co c) (hcl : cl = c.length) (hll : RdI w lo l) (hln : ln = l.length) (ht : Tb w) (hW : wdb L = false) (h60 : cl ≤ 60) (h200 : ln ≤ 200) (hg : gdB L s f = true) :
    Calls Tryd.prog 11 #[.agg #[.slice so n sc, .int .i64 s, .int .i64 f], .slice co cl cc, .slice lo ln lc] w fun e w' => e = .returned (.bool true) ∧ Below w.heap.size w w' := by
  have hsm := wdb_small hW
  have hel : eS L ≤ 1000000 := by have := eS_wid L; omega
  have hfl : fS L ≤ 1000000 := by have := fS_wid L; omega
  have hgd := gdd_of hg
  have HLM := hid hl
  have HN := hid hn
  have HS := hid hs
  have HC := hid hc
  have HCL := hid hcl
  have HL := hid hll
  have HLN := hid hln
  have HTB := hid ht
  have HE := hid hel
  have HF := hid hfl
  have HG := hid hg
  have hp := ht.pos
  have hc0 : (chk L s f).1 = 0 := by simpa [gdB] using hg
  have i60 : ¬ (60 : Int) < (cl : Int) := by omega
  have i200 : ¬ (200 : Int) < (ln : Int) := by omega
  have hn4 : n ≤ 4096 := by have := hgd.few; omega
  clear hn hs hl hc hcl hll hln ht hsm hel hfl hgd hg
  go_enter Tryd.func11, Tryd.ntmps11
  go_wp2_with fail
  refine (wide_any so sc n L s f _ HN.out (HS.out.below below_box) HLM.out).mono ?_
  rintro e w1 ⟨rfl, b1⟩
  have HB1 := hid (show Below (w.heap.size + 1) (w.alloc (.cells #[.slice so n sc, .int .i64 s, .int .i64 f] 28)) w1 by simpa using b1)
  obtain ⟨c0, c1, c2⟩ := bx HB1.out
  clear b1
  go_wp2_with fail
  refine (check_any so sc n L s f w1 HN.out (HS.out.below (box_trans HB1.out)) HLM.out).mono ?_
  rintro e w2 ⟨rfl, b2⟩
  have hs1 : w.heap.size + 1 ≤ w1.heap.size := by have := HB1.out.size; simpa using this
  have HB2 := hid (HB1.out.trans (b2.mono hs1))
  obtain ⟨c0, c1, c2⟩ := bx HB2.out
  rw [hc0]
  clear b2
  go_wp2_with fail
  refine (num_any _ _).mono ?_
  rintro e w3 ⟨rfl, hw⟩
  obtain rfl := hw.symm
  have hs2 : w.heap.size + 1 ≤ w2.heap.size := by have := HB2.out.size; simpa using this
  go_wp2_with fail
  have HRS := hid (show RdI (w2.alloc (.cells #[.int .i64 (s : Int)] 3)) (some ⟨w2.heap.size, 0, none⟩) [(s : Int)] from fun k y hk => by
    have hk0 : k = 0 := by have := (List.getElem?_eq_some_iff.1 hk).1; simp at this; omega
    subst hk0
    have hy : (s : Int) = y := by simpa using hk
    subst hy
    exact ⟨_, rfl, by show w2.heap.size < _; simp, news_one w2 _ 3 0 _ rfl⟩)
  have HBA := hid (HB2.out.alloc hs2 (.cells #[.int .i64 (s : Int)] 3))
  refine (closure_any so sc n L s f (some ⟨w2.heap.size, 0, none⟩) 1 1 [(s : Int)] (w2.alloc (.cells #[.int .i64 (s : Int)] 3)) HN.out (HS.out.below (box_trans HBA.out)) HG.out HE.out HF.out HRS.out rfl (by unfold most; omega)).mono ?_
  rintro e w4 ⟨T0, vo0, vc0, rfl, o0, hr0, hb0, hi0, b4⟩
  have hst := (gdd_of HG.out).st
  have HB4 := hid (HBA.out.trans (b4.mono (by simp; omega)))
  have HT0 := hid (rdi_own o0)
  have HR0 := hid hr0
  have HBD0 := hid hb0
  have HI0 := hid (show ∀ x, x ∈ T0 ↔ Rd L (Clo L (· = (s : Int))) (c.take 0) x from fun x => by
    show x ∈ T0 ↔ Clo L (· = (s : Int)) x
    rw [hi0 x]
    exact Clo.congr (fun y => by have := HN.out; simp; omega) x)
  have HCL0 := hid (show ∀ x, Clo L (· ∈ T0) x ↔ x ∈ T0 from fun x => by
    rw [HI0.out x]
    exact (Clo.congr HI0.out x).trans (Clo.self x))
  have hle0 : T0.length ≤ 4096 := by have h := nodup_le (l := T0) (n := n) (by rw [List.nodup_iff_pairwise_ne]; exact hr0.imp fun h => by omega) hb0; omega
  clear o0 hr0 hb0 hi0 b4 HRS HBA HB2 HB1 hst hs1 hs2 c0 c1 c2
  go_wp2
  go_loopw [9, 10] (fun x y wr => ∃ (i m : Nat) (T : List Int) (vo : Option Addr) (vc : Nat), x = .slice vo m vc ∧ y = .int .i64 i ∧ i ≤ cl ∧ m ≤ 4096 ∧ Hid (m = T.length) ∧ Hid (RdI wr vo T) ∧ Hid (T.Pairwise (· < ·)) ∧ Hid (∀ x ∈ T, 0 ≤ x ∧ x < (n : Int)) ∧ Hid (∀ x, x ∈ T ↔ Rd L (Clo L (· = (s : Int))) (c.take i) x) ∧ Hid (∀ x, Clo L (· ∈ T) x ↔ x ∈ T) ∧ Hid (Below (w.heap.size + 1) (w.alloc (.cells #[.slice so n sc, .int .i64 s, .int .i64 f] 28)) wr)) (fun _ y _ => cl - (intOf y).toNat)
  case atStart => exact ⟨0, T0.length, T0, vo0, vc0, rfl, rfl, Nat.zero_le _, hle0, rfl, HT0, HR0, HBD0, HI0, HCL0, HB4⟩
  case round =>
    clear HT0 HR0 HBD0 HI0 HCL0 HB4 hle0
    obtain ⟨i, m, T, vo, vc, rfl, rfl, hi, hm4, HMT, HT, HR, HBD, HI, HCT, HB⟩ := hrel
    obtain ⟨c0, c1, c2⟩ := bx HB.out
    have hsz : w.heap.size + 1 ≤ wr.heap.size := by have := HB.out.size; simpa using this
    by_cases hlt : i < cl
    · have i3 : (i : Int) < (cl : Int) := by omega
      go_wp2_with fail
      refine (closure_any so sc n L s f vo m vc T wr HN.out (HS.out.below (box_trans HB.out)) HG.out HE.out HF.out HT.out HMT.out (by unfold most; omega)).mono ?_
      rintro e w5 ⟨T5, vo5, vc5, rfl, o5, hr5, hb5, hi5, b5⟩
      have hTT : T5 = T := rising_eq hr5 HR.out (fun x => (hi5 x).trans (clo_list HBD.out HCT.out x))
      subst hTT
      have HB5 := hid (HB.out.trans (b5.mono hsz))
      have HO5 := hid (rdi_own o5)
      have HT5 := hid (HT.out.below b5)
      obtain ⟨d0, d1, d2⟩ := bx HB5.out
      have hsz5 : w.heap.size + 1 ≤ w5.heap.size := by have := HB5.out.size; simpa using this
      clear o5 hr5 hb5 hi5 b5
      go_wp2_with fail
      refine (ints_any vo5 vo vc5 vc T5.length m T5 T5 w5 HO5.out HT5.out rfl HMT.out (by have := HMT.out; unfold most; omega) (by unfold most; omega)).mono ?_
      rintro e w6 ⟨rfl, b6⟩
      rw [show decide (T5 = T5) = true from decide_eq_true rfl]
      have HB6 := hid (HB5.out.trans (b6.mono hsz5))
      have HT6 := hid (HT5.out.below b6)
      obtain ⟨f0, f1, f2⟩ := bx HB6.out
      have hsz6 : w.heap.size + 1 ≤ w6.heap.size := by have := HB6.out.size; simpa using this
      clear b6
      go_wp2
      have hic : i < c.length := by have := HCL.out; omega
      obtain ⟨q, eq, hq, a0⟩ := HC.out.below (box_trans HB6.out) i c[i] (List.getElem?_eq_getElem hic)
      subst eq
      have HTK := hid (show c.take (i + 1) = c.take i ++ [c[i]] from List.take_succ_eq_append_getElem hic)
      obtain ⟨ck, hck⟩ : ∃ ck, ck = c[i] := ⟨_, rfl⟩
      rw [← hck] at a0 HTK
      have i0' : (0 : Int) ≤ (i : Int) := by omega
      clear hck hic hq
      refine wp_region_mix [(0, true), (1, true), (2, true), (3, true), (4, true), (5, true), (6, false), (7, true)] (fun w' => (w'.cell? ⟨w.heap.size, 0, none⟩ = some (.slice so n sc) ∧ w'.cell? ⟨w.heap.size, 1, none⟩ = some (.int .i64 (s : Int)) ∧ w'.cell? ⟨w.heap.size, 2, none⟩ = some (.int .i64 (f : Int))) ∧ w'.cell? (q.add i) = some (.int .i64 ck)) (fun _ => false) (by kernel_rfl) (by kernel_rfl) (fun j hj => by cases hj) rfl (by kernel_rfl) ⟨⟨f0, f1, f2⟩, a0⟩ ?_
      iterate 6 (refine mix_free ?_ rfl (by kernel_rfl) (fun w' hS => ?_) ?_; (rotate_left; (obtain ⟨⟨s1, s2, s3⟩, s4⟩ := hS; go_simp; with_reducible rfl); rotate_left))
      have HD := hid HB6.out.drew
      have hsD : w.heap.size + 1 ≤ w6.drew.heap.size := hsz6
      refine mix_go rfl (by kernel_rfl) fun KK hKK => ?_
      go_simp
      refine (stepN_any so sc n L s f vo m vc T5 ck w6.drew HN.out (HS.out.below (box_trans HD.out)) HG.out HE.out HF.out (HT6.out.below (show Below w6.heap.size w6 w6.drew from (Below.refl _ _).drew)) HMT.out (by unfold most; omega)).mono ?_
      rintro e w7 ⟨T7, vo7, vc7, rfl, o7, hr7, hb7, hi7, b7⟩
      have HB7 := hid (HD.out.trans (b7.mono hsD))
      have HO7 := hid (rdi_own o7)
      have HR7 := hid hr7
      have HBD7 := hid hb7
      have HI7 := hid (show ∀ x, x ∈ T7 ↔ Rd L (Clo L (· = (s : Int))) (c.take (i + 1)) x from fun x => by
        rw [HTK.out, Rd_snoc, hi7 x]
        exact Nxt.congr (fun y => (clo_list HBD.out HCT.out y).trans (HI.out y)) ck x)
      have HCT7 := hid (show ∀ x, Clo L (· ∈ T7) x ↔ x ∈ T7 from fun x => by
        rw [hi7 x]
        exact (Clo.congr hi7 x).trans (Clo.self x))
      have hle7 : T7.length ≤ 4096 := by have h := nodup_le (l := T7) (n := n) (by rw [List.nodup_iff_pairwise_ne]; exact hr7.imp fun h => by omega) hb7; omega
      have a7 : w7.cell? (q.add i) = some (.int .i64 ck) := by
        have hqw : (q.add i).block < w.heap.size + 1 := by
          obtain ⟨q', e', h', _⟩ := HC.out i c[i] (List.getElem?_eq_getElem (by have := HCL.out; omega))
          cases e'; rw [add_blk]; omega
        have h1 := HB7.out.cell (p := q.add i) hqw
        have h2 := HB6.out.cell (p := q.add i) hqw
        rw [h1, ← h2]; exact a0
      refine hKK _ _ (fun _ => ⟨bx HB7.out, a7⟩) ?_
      clear hKK KK o7 hr7 hb7 hi7 b7
      refine mix_free ?_ rfl (by kernel_rfl) (fun w' hS => ?_) ?_; (rotate_left; (go_simp; with_reducible rfl); rotate_left)
      refine mix_end (NoPanic.normal ?_)
      go_wp2
      go_roundw
      case rel => exact ⟨i + 1, T7.length, T7, vo7, vc7, rfl, by go_num, by omega, hle7, rfl, HO7, HR7, HBD7, HI7, HCT7, HB7⟩
      case measure => simp [intOf]; omega
    · have i3 : ¬ (i : Int) < (cl : Int) := by omega
      have HIT := hid (show ∀ x, x ∈ T ↔ Rd L (Clo L (· = (s : Int))) c x from fun x => by
        have h := HI.out x
        rw [List.take_of_length_le (by have := HCL.out; omega)] at h
        exact h)
      clear HI HCT HR
      go_wp2
      go_loopw [11, 12] (fun x y wr => ∃ (b : Bool) (j : Nat), x = .bool b ∧ y = .int .i64 j ∧ j ≤ m ∧ Hid (b = decide ((f : Int) ∈ T.take j)) ∧ Hid (RdI wr vo T) ∧ Hid (Below (w.heap.size + 1) (w.alloc (.cells #[.slice so n sc, .int .i64 s, .int .i64 f] 28)) wr)) (fun _ y _ => m - (intOf y).toNat)
      case atStart => exact ⟨false, 0, rfl, rfl, Nat.zero_le _, by simp [Hid], HT, HB⟩
      case round =>
        clear HT HB c0 c1 c2 hsz
        obtain ⟨b, j, rfl, rfl, hj, HBB, HT, HB⟩ := hrel
        obtain ⟨c0, c1, c2⟩ := bx HB.out
        have hsz : w.heap.size + 1 ≤ wr.heap.size := by have := HB.out.size; simpa using this
        by_cases hjl : j < m
        · have hjT : j < T.length := by have := HMT.out; omega
          obtain ⟨q, rfl, hq, a0⟩ := HT.out j T[j] (List.getElem?_eq_getElem hjT)
          have HTJ := hid (show decide ((f : Int) ∈ T.take (j + 1)) = (b || (T[j] == (f : Int))) by
            rw [HBB.out, Bool.eq_iff_iff]
            simp only [decide_eq_true_iff, Bool.or_eq_true, beq_iff_eq]
            rw [mem_take_at (List.getElem?_eq_getElem hjT)]
            exact or_congr Iff.rfl eq_comm)
          obtain ⟨t, ht⟩ : ∃ t, t = T[j] := ⟨_, rfl⟩
          rw [← ht] at a0 HTJ
          have j3 : (j : Int) < (m : Int) := by omega
          have j0 : (0 : Int) ≤ (j : Int) := by omega
          clear ht hjT hq HBB
          rcases bool_cases b with hb | hb
          · subst hb
            go_wp2_with fail
            go_quiet (fail)
            go_wp2
            go_roundw
            case rel => exact ⟨true, j + 1, rfl, by go_num, by omega, by rw [HTJ.out]; simp [Hid], HT.out.below (below_drN (Below.refl _ _) nq), below_drN HB.out nq⟩
            case measure => simp [intOf]; omega
          · subst hb
            go_wp2_with fail
            go_quiet (fail)
            go_wp2
            go_roundw
            case rel => exact ⟨(t == (f : Int)), j + 1, rfl, by go_num, by omega, by rw [HTJ.out]; simp [Hid], HT.out.below (below_drN (Below.refl _ _) nq), below_drN HB.out nq⟩
            case measure => simp [intOf]; omega
        · have j3 : ¬ (j : Int) < (m : Int) := by omega
          have HTKB := hid (show tk L s f c = b by
            have h := HBB.out
            rw [List.take_of_length_le (by have := HMT.out; omega)] at h
            rw [h, Bool.eq_iff_iff, tk_iff, decide_eq_true_iff, HIT.out])
          clear HBB HIT
          by_cases h0 : 0 < cl
          · have h0' : (0 : Int) < (cl : Int) := by omega
            obtain ⟨q, rfl, hq, a0⟩ := HC.out.below (box_trans HB.out) 0 c[0] (List.getElem?_eq_getElem (by have := HCL.out; omega))
            obtain ⟨ck, hck⟩ : ∃ ck, ck = c[0]'(by have := HCL.out; omega) := ⟨_, rfl⟩
            rw [← hck] at a0
            have a0' : wr.cell? q = some (.int .i64 ck) := by simpa [Addr.add] using a0
            clear hck hq
            go_wp2_with fail
            refine wp_region_mix [(0, true), (1, true), (2, true), (3, false), (4, true), (5, true), (6, true), (7, true), (8, true), (10, true), (11, true), (12, true), (14, true), (9, false), (13, false), (15, false), (16, false), (17, true), (18, true), (19, false), (20, true), (21, true)] (fun w' => w'.cell? ⟨w.heap.size, 0, none⟩ = some (.slice so n sc) ∧ w'.cell? ⟨w.heap.size, 1, none⟩ = some (.int .i64 (s : Int)) ∧ w'.cell? ⟨w.heap.size, 2, none⟩ = some (.int .i64 (f : Int))) (fun _ => false) (by kernel_rfl) (by kernel_rfl) (fun j hj => by cases hj) rfl (by kernel_rfl) ⟨c0, c1, c2⟩ ?_
            iterate 3 (refine mix_free ?_ rfl (by kernel_rfl) (fun w' hS => ?_) ?_; (rotate_left; (obtain ⟨s1, s2, s3⟩ := hS; go_simp; with_reducible rfl); rotate_left))
            have HD := hid HB.out.drew
            have hsD : w.heap.size + 1 ≤ wr.drew.heap.size := hsz
            refine mix_go rfl (by kernel_rfl) fun KK hKK => ?_
            go_simp
            refine (takes_any so sc n L s f (some q) cl cc c wr.drew HN.out (HS.out.below (box_trans HD.out)) HG.out HE.out HF.out (HC.out.below (box_trans HD.out)) HCL.out (by omega)).mono ?_
            rintro e w8 ⟨rfl, b8⟩
            rw [HTKB.out]
            have HB8 := hid (HD.out.trans (b8.mono hsD))
            have hs8 : w.heap.size + 1 ≤ w8.heap.size := by have := HB8.out.size; simpa using this
            refine hKK _ _ (fun _ => bx HB8.out) ?_
            clear hKK KK b8
            iterate 9 (refine mix_free ?_ rfl (by kernel_rfl) (fun w' hS => ?_) ?_; (rotate_left; (obtain ⟨s1, s2, s3⟩ := hS; go_simp; with_reducible rfl); rotate_left))
            refine mix_go rfl (by kernel_rfl) fun KK hKK => ?_
            go_simp
            refine (stepN_any so sc n L s f lo ln lc l ck w8 HN.out (HS.out.below (box_trans HB8.out)) HG.out HE.out HF.out (HL.out.below (box_trans HB8.out)) HLN.out (by unfold most; omega)).mono ?_
            rintro e w9 ⟨T9, vo9, vc9, rfl, o9, hr9, hb9, hi9, b9⟩
            have HB9 := hid (HB8.out.trans (b9.mono hs8))
            have hs9 : w.heap.size + 1 ≤ w9.heap.size := by have := HB9.out.size; simpa using this
            have HO9 := hid (rdi_own o9)
            refine hKK _ _ (fun _ => bx HB9.out) ?_
            clear hKK KK b9 o9
            refine mix_go rfl (by kernel_rfl) fun KK hKK => ?_
            go_simp
            refine (closure_any so sc n L s f lo ln lc l w9 HN.out (HS.out.below (box_trans HB9.out)) HG.out HE.out HF.out (HL.out.below (box_trans HB9.out)) HLN.out (by unfold most; omega)).mono ?_
            rintro e w10 ⟨T10, vo10, vc10, rfl, o10, hr10, hb10, hi10, b10⟩
            have HB10 := hid (HB9.out.trans (b10.mono hs9))
            have hs10 : w.heap.size + 1 ≤ w10.heap.size := by have := HB10.out.size; simpa using this
            have HO10 := hid (rdi_own o10)
            have HO9b := hid (HO9.out.below b10)
            have hle10 : T10.length ≤ 4096 := by have h := nodup_le (l := T10) (n := n) (by rw [List.nodup_iff_pairwise_ne]; exact hr10.imp fun h => by omega) hb10; omega
            refine hKK _ _ (fun _ => bx HB10.out) ?_
            clear hKK KK b10 o10
            refine mix_go rfl (by kernel_rfl) fun KK hKK => ?_
            go_simp
            refine (stepN_any so sc n L s f vo10 T10.length vc10 T10 ck w10 HN.out (HS.out.below (box_trans HB10.out)) HG.out HE.out HF.out HO10.out rfl (by unfold most; omega)).mono ?_
            rintro e w11 ⟨T11, vo11, vc11, rfl, o11, hr11, hb11, hi11, b11⟩
            have HB11 := hid (HB10.out.trans (b11.mono hs10))
            have hs11 : w.heap.size + 1 ≤ w11.heap.size := by have := HB11.out.size; simpa using this
            have HO11 := hid (rdi_own o11)
            have HO9c := hid (HO9b.out.below b11)
            have hTE : T9 = T11 := rising_eq hr9 hr11 (fun x => by
              rw [hi9 x, hi11 x]
              refine Nxt.congr (fun y => ?_) _ x
              refine Iff.trans ?_ (clo_list hb10 (fun y => ?_) y).symm
              · exact (hi10 y).symm
              · rw [hi10 y]
                exact (Clo.congr hi10 y).trans (Clo.self y))
            have hle11 : T11.length ≤ 4096 := by have h := nodup_le (l := T11) (n := n) (by rw [List.nodup_iff_pairwise_ne]; exact hr11.imp fun h => by omega) hb11; omega
            subst hTE
            refine hKK _ _ (fun _ => bx HB11.out) ?_
            clear hKK KK b11 o11 hi9 hi10 hi11 hb9 hb10 hb11
            refine mix_go rfl (by kernel_rfl) fun KK hKK => ?_
            go_simp
            refine (ints_any vo9 vo11 vc9 vc11 T9.length T9.length T9 T9 w11 HO9c.out HO11.out rfl rfl (by unfold most; omega) (by unfold most; omega)).mono ?_
            rintro e w12 ⟨rfl, b12⟩
            rw [show decide (T9 = T9) = true from decide_eq_true rfl]
            have HB12 := hid (HB11.out.trans (b12.mono hs11))
            refine hKK _ _ (fun _ => bx HB12.out) ?_
            clear hKK KK b12
            iterate 2 (refine mix_free ?_ rfl (by kernel_rfl) (fun w' hS => ?_) ?_; (rotate_left; (go_simp; with_reducible rfl); rotate_left))
            refine mix_go rfl (by kernel_rfl) fun KK hKK => ?_
            go_simp
            refine (live_tb (HTB.out.keep (box_trans HB12.out) hp)).mono ?_
            rintro e w13 ⟨rfl, b13⟩
            have HB13 := hid (HB12.out.trans (b13.mono (by have := HB12.out.size; simp at this; omega)))
            refine hKK _ _ (fun _ => bx HB13.out) ?_
            clear hKK KK b13
            iterate 2 (refine mix_free ?_ rfl (by kernel_rfl) (fun w' hS => ?_) ?_; (rotate_left; (go_simp; with_reducible rfl); rotate_left))
            refine mix_end (NoPanic.normal ?_)
            go_wp2
            go_ret
            exact ⟨rfl, box_trans HB13.out⟩
          · have h0' : ¬ (0 : Int) < (cl : Int) := by omega
            go_wp2_with fail
            refine wp_region_mix [(0, true), (1, true), (2, true), (3, false), (4, true), (5, true), (6, true), (7, true), (8, true), (10, true), (11, true), (12, true), (14, true), (9, false), (13, false), (15, false), (16, false), (17, true), (18, true), (19, false), (20, true), (21, true)] (fun w' => w'.cell? ⟨w.heap.size, 0, none⟩ = some (.slice so n sc) ∧ w'.cell? ⟨w.heap.size, 1, none⟩ = some (.int .i64 (s : Int)) ∧ w'.cell? ⟨w.heap.size, 2, none⟩ = some (.int .i64 (f : Int))) (fun _ => false) (by kernel_rfl) (by kernel_rfl) (fun j hj => by cases hj) rfl (by kernel_rfl) ⟨c0, c1, c2⟩ ?_
            iterate 3 (refine mix_free ?_ rfl (by kernel_rfl) (fun w' hS => ?_) ?_; (rotate_left; (obtain ⟨s1, s2, s3⟩ := hS; go_simp; with_reducible rfl); rotate_left))
            have HD := hid HB.out.drew
            have hsD : w.heap.size + 1 ≤ wr.drew.heap.size := hsz
            refine mix_go rfl (by kernel_rfl) fun KK hKK => ?_
            go_simp
            refine (takes_any so sc n L s f co cl cc c wr.drew HN.out (HS.out.below (box_trans HD.out)) HG.out HE.out HF.out (HC.out.below (box_trans HD.out)) HCL.out (by omega)).mono ?_
            rintro e w8 ⟨rfl, b8⟩
            rw [HTKB.out]
            have HB8 := hid (HD.out.trans (b8.mono hsD))
            have hs8 : w.heap.size + 1 ≤ w8.heap.size := by have := HB8.out.size; simpa using this
            refine hKK _ _ (fun _ => bx HB8.out) ?_
            clear hKK KK b8
            iterate 9 (refine mix_free ?_ rfl (by kernel_rfl) (fun w' hS => ?_) ?_; (rotate_left; (obtain ⟨s1, s2, s3⟩ := hS; go_simp; with_reducible rfl); rotate_left))
            refine mix_go rfl (by kernel_rfl) fun KK hKK => ?_
            go_simp
            refine (stepN_any so sc n L s f lo ln lc l 1 w8 HN.out (HS.out.below (box_trans HB8.out)) HG.out HE.out HF.out (HL.out.below (box_trans HB8.out)) HLN.out (by unfold most; omega)).mono ?_
            rintro e w9 ⟨T9, vo9, vc9, rfl, o9, hr9, hb9, hi9, b9⟩
            have HB9 := hid (HB8.out.trans (b9.mono hs8))
            have hs9 : w.heap.size + 1 ≤ w9.heap.size := by have := HB9.out.size; simpa using this
            have HO9 := hid (rdi_own o9)
            refine hKK _ _ (fun _ => bx HB9.out) ?_
            clear hKK KK b9 o9
            refine mix_go rfl (by kernel_rfl) fun KK hKK => ?_
            go_simp
            refine (closure_any so sc n L s f lo ln lc l w9 HN.out (HS.out.below (box_trans HB9.out)) HG.out HE.out HF.out (HL.out.below (box_trans HB9.out)) HLN.out (by unfold most; omega)).mono ?_
            rintro e w10 ⟨T10, vo10, vc10, rfl, o10, hr10, hb10, hi10, b10⟩
            have HB10 := hid (HB9.out.trans (b10.mono hs9))
            have hs10 : w.heap.size + 1 ≤ w10.heap.size := by have := HB10.out.size; simpa using this
            have HO10 := hid (rdi_own o10)
            have HO9b := hid (HO9.out.below b10)
            have hle10 : T10.length ≤ 4096 := by have h := nodup_le (l := T10) (n := n) (by rw [List.nodup_iff_pairwise_ne]; exact hr10.imp fun h => by omega) hb10; omega
            refine hKK _ _ (fun _ => bx HB10.out) ?_
            clear hKK KK b10 o10
            refine mix_go rfl (by kernel_rfl) fun KK hKK => ?_
            go_simp
            refine (stepN_any so sc n L s f vo10 T10.length vc10 T10 1 w10 HN.out (HS.out.below (box_trans HB10.out)) HG.out HE.out HF.out HO10.out rfl (by unfold most; omega)).mono ?_
            rintro e w11 ⟨T11, vo11, vc11, rfl, o11, hr11, hb11, hi11, b11⟩
            have HB11 := hid (HB10.out.trans (b11.mono hs10))
            have hs11 : w.heap.size + 1 ≤ w11.heap.size := by have := HB11.out.size; simpa using this
            have HO11 := hid (rdi_own o11)
            have HO9c := hid (HO9b.out.below b11)
            have hTE : T9 = T11 := rising_eq hr9 hr11 (fun x => by
              rw [hi9 x, hi11 x]
              refine Nxt.congr (fun y => ?_) _ x
              refine Iff.trans ?_ (clo_list hb10 (fun y => ?_) y).symm
              · exact (hi10 y).symm
              · rw [hi10 y]
                exact (Clo.congr hi10 y).trans (Clo.self y))
            have hle11 : T11.length ≤ 4096 := by have h := nodup_le (l := T11) (n := n) (by rw [List.nodup_iff_pairwise_ne]; exact hr11.imp fun h => by omega) hb11; omega
            subst hTE
            refine hKK _ _ (fun _ => bx HB11.out) ?_
            clear hKK KK b11 o11 hi9 hi10 hi11 hb9 hb10 hb11
            refine mix_go rfl (by kernel_rfl) fun KK hKK => ?_
            go_simp
            refine (ints_any vo9 vo11 vc9 vc11 T9.length T9.length T9 T9 w11 HO9c.out HO11.out rfl rfl (by unfold most; omega) (by unfold most; omega)).mono ?_
            rintro e w12 ⟨rfl, b12⟩
            rw [show decide (T9 = T9) = true from decide_eq_true rfl]
            have HB12 := hid (HB11.out.trans (b12.mono hs11))
            refine hKK _ _ (fun _ => bx HB12.out) ?_
            clear hKK KK b12
            iterate 2 (refine mix_free ?_ rfl (by kernel_rfl) (fun w' hS => ?_) ?_; (rotate_left; (go_simp; with_reducible rfl); rotate_left))
            refine mix_go rfl (by kernel_rfl) fun KK hKK => ?_
            go_simp
            refine (live_tb (HTB.out.keep (box_trans HB12.out) hp)).mono ?_
            rintro e w13 ⟨rfl, b13⟩
            have HB13 := hid (HB12.out.trans (b13.mono (by have := HB12.out.size; simp at this; omega)))
            refine hKK _ _ (fun _ => bx HB13.out) ?_
            clear hKK KK b13
            iterate 2 (refine mix_free ?_ rfl (by kernel_rfl) (fun w' hS => ?_) ?_; (rotate_left; (go_simp; with_reducible rfl); rotate_left))
            refine mix_end (NoPanic.normal ?_)
            go_wp2
            go_ret
            exact ⟨rfl, box_trans HB13.out⟩
end Go.Proofs.YtbabidhhdfakjaaDoor
