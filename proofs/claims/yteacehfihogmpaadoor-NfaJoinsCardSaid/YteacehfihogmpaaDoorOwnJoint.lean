/- What the walks of stage 6 share: sums, a list of one's own read, Closure where Check refuses. -/
import Derived.Test.YteacehfihogmpaaDoorTakesJoint
import Derived.Test.YteacehfihogmpaaDoorCheck
import Derived.Test.YteacehfihogmpaaDoorTbs
import Derived.Test.YteacehfihogmpaaDoorRStepJoint
import Derived.Test.YteacehfihogmpaaDoorMix
import Derived.Laws.Rows
namespace Go.Proofs.YteacehfihogmpaaDoor
open Go.RowKit

theorem eS_wid (L : List St) : eS L ≤ wid L := by
  induction L with
  | nil => simp [eS, wid]
  | cons s l ih => unfold eS at *; simp only [List.map_cons, List.sum_cons, wid, wS]; omega
theorem fS_wid (L : List St) : fS L ≤ wid L := by
  induction L with
  | nil => simp [fS, wid]
  | cons s l ih => unfold fS at *; simp only [List.map_cons, List.sum_cons, wid, wS]; omega
theorem rdi_own {B m vc : Nat} {w : World} {vo : Option Addr} {l : List Int} (h : w.ownsRow B 3 1 (.slice vo m vc) m (i64s l)) : RdI w vo l := fun k z hk => by
  obtain ⟨g, e, _, hg, hc⟩ := own_at h hk
  exact ⟨_, e, hg, by rw [Addr.add_lit, Nat.zero_add]; exact hc⟩
theorem closure_bad (so : Option Addr) (sc n : Nat) (L : List St) (s f : Int) (lo : Option Addr) (ln lc : Nat) (w : World) (hn : n = L.length) (hs : RdS w so L) (hg : gdB L s f = false) (hl : n ≤ most) :
    Calls Tryd.prog 29 #[.agg #[.slice so n sc, .int .i64 s, .int .i64 f], .slice lo ln lc] w fun e w' => e = .returned (.slice none 0 0) ∧ Below w.heap.size w w' := by
  have HC := hid (good_any so sc n L s f (w.alloc (.cells #[.slice so n sc, .int .i64 s, .int .i64 f] 28)) hn (hs.below below_box) hl)
  clear hn hs hl
  go_enter Tryd.func29, Tryd.ntmps29
  go_wp2_with fail
  refine HC.out.mono ?_
  rintro e w1 ⟨rfl, b1⟩
  have HB := hid (box_trans (show Below (w.heap.size + 1) (w.alloc (.cells #[.slice so n sc, .int .i64 s, .int .i64 f] 28)) w1 by simpa using b1))
  clear b1 HC
  go_wp2
  go_ret
  exact ⟨rfl, HB.out⟩
/-- A set that is closed already, told anew. -/
theorem clo_list {L : List St} {n : Nat} {T : List Int} (hb : ∀ x ∈ T, 0 ≤ x ∧ x < (n : Int)) (hc : ∀ x, Clo L (· ∈ T) x ↔ x ∈ T) (x : Int) : Clo L (fun y => y ∈ T ∧ 0 ≤ y ∧ y < (n : Int)) x ↔ x ∈ T := by
  rw [← hc x]
  exact Clo.congr (fun y => ⟨fun h => h.1, fun h => ⟨h, hb y h⟩⟩) x
theorem bx {w W : World} {so : Option Addr} {n sc : Nat} {s f : Int} (h : Below (w.heap.size + 1) (w.alloc (.cells #[.slice so n sc, .int .i64 s, .int .i64 f] 28)) W) : W.cell? ⟨w.heap.size, 0, none⟩ = some (.slice so n sc) ∧ W.cell? ⟨w.heap.size, 1, none⟩ = some (.int .i64 s) ∧ W.cell? ⟨w.heap.size, 2, none⟩ = some (.int .i64 f) := box3 h
end Go.Proofs.YteacehfihogmpaaDoor
/- The contracts of Closure and Step (the document's). -/
namespace Go.Proofs.YteacehfihogmpaaDoor
open Go.RowKit

theorem bxi {w W : World} {so : Option Addr} {n sc : Nat} {s f : Int} (h : Below (w.heap.size + 1) (w.alloc (.cells #[.slice so n sc, .int .i64 s, .int .i64 f] 28)) W) : W.cell? ⟨w.heap.size, 0, none⟩ = some (.slice so n sc) ∧ W.cell? ⟨w.heap.size, 1, none⟩ = some (.int .i64 s) ∧ W.cell? ⟨w.heap.size, 2, none⟩ = some (.int .i64 f) := box3 h
theorem setq_nil {w w' : World} {n : Nat} {A : Int → Prop} (hA : ∀ x, ¬ A x) (hb : Below w.heap.size w w') : SetQ w n A (.returned (.slice none 0 0)) w' :=
  ⟨[], none, 0, rfl, World.ownsRow_nil _ _ _ _, List.Pairwise.nil, fun x hx => (by cases hx), fun x => ⟨fun h => (by cases h), fun h => absurd h (hA x)⟩, hb⟩
set_option maxHeartbeats 4000000 in
set_option maxRecDepth 100000 in
theorem rclosure_any (so : Option Addr) (sc n : Nat) (L : List St) (s f : Int) (lo : Option Addr) (ln lc : Nat) (l : List Int) (w : World) (hn : n = L.length) (hs : RdS w so L) (hnm : n ≤ most) (hl : RdI w lo l) (hln : ln = l.length) (hlm : ln ≤ most) :
    Calls Tryd.prog 30 #[.agg #[.slice so n sc, .int .i64 s, .int .i64 f], .slice lo ln lc] w fun e w' => SetQ w n (fun x => gdB L s f = true ∧ Clo L (fun y => y ∈ l ∧ 0 ≤ y ∧ y < (n : Int)) x) e w' := by
  have HN := hid hn
  have HS := hid hs
  have HNM := hid hnm
  have HL := hid hl
  have HLN := hid hln
  have HLM := hid hlm
  rcases bool_cases (gdB L s f) with hg | hg
  · have hgd := gdd_of hg
    have h4 : n ≤ 4096 := by have := hgd.few; omega
    have HG := hid hg
    clear hn hs hnm hl hln hlm hgd hg
    go_enter Tryd.func30, Tryd.ntmps30
    go_wp2_with fail
    refine (rgood_any so sc n L s f _ HN.out (HS.out.below below_box) HNM.out).mono ?_
    rintro e w1 ⟨rfl, b1⟩
    have HB1 := hid (show Below (w.heap.size + 1) (w.alloc (.cells #[.slice so n sc, .int .i64 s, .int .i64 f] 28)) w1 by simpa using b1)
    have hs1 : w.heap.size + 1 ≤ w1.heap.size := by have := HB1.out.size; simpa using this
    rw [HG.out]
    obtain ⟨c0, c1, c2⟩ := bxi HB1.out
    clear b1
    go_wp2_with fail
    refine wp_region_mix [(0, true), (1, true), (2, true), (3, false), (4, false), (5, false), (6, true)] (fun w' => w'.cell? ⟨w.heap.size, 0, none⟩ = some (.slice so n sc) ∧ w'.cell? ⟨w.heap.size, 1, none⟩ = some (.int .i64 s) ∧ w'.cell? ⟨w.heap.size, 2, none⟩ = some (.int .i64 f)) (fun _ => false) (by kernel_rfl) (by kernel_rfl) (fun j hj => by cases hj) rfl (by kernel_rfl) ⟨c0, c1, c2⟩ ?_
    iterate 3 (refine mix_free ?_ rfl (by kernel_rfl) (fun w' hS => ?_) ?_; (rotate_left; (obtain ⟨s1, s2, s3⟩ := hS; go_simp; with_reducible rfl); rotate_left))
    have HD := hid HB1.out.drew
    have hsD : w.heap.size + 1 ≤ w1.drew.heap.size := hs1
    refine mix_go rfl (by kernel_rfl) fun KK hKK => ?_
    go_simp
    refine (rof_any so sc n s f lo ln lc l w1.drew h4 (HL.out.below (box_trans HD.out)) HLN.out HLM.out).mono ?_
    rintro e w2 ⟨b2, g2, v2, rfl, o2, hl2, hi2, be2⟩
    have HB2 := hid (HD.out.trans (be2.mono hsD))
    have hs2 : w.heap.size + 1 ≤ w2.heap.size := by have := HB2.out.size; simpa using this
    refine hKK _ _ (fun _ => bxi HB2.out) ?_
    clear hKK KK be2
    refine mix_go rfl (by kernel_rfl) fun KK hKK => ?_
    go_simp
    refine (rclosed_any so sc n L s f (some ⟨g2, 0, none⟩) v2 b2 w2 HN.out (HS.out.below (box_trans HB2.out)) HG.out (rdb_own o2) hl2).mono ?_
    rintro e w3 ⟨b3, g3, v3, rfl, o3, hl3, hi3, be3⟩
    have HB3 := hid (HB2.out.trans (be3.mono hs2))
    have hs3 : w.heap.size + 1 ≤ w3.heap.size := by have := HB3.out.size; simpa using this
    refine hKK _ _ (fun _ => bxi HB3.out) ?_
    clear hKK KK be3 o2
    refine mix_go rfl (by kernel_rfl) fun KK hKK => ?_
    go_simp
    refine (rlist_any (some ⟨g3, 0, none⟩) v3 n b3 w3 hl3 (rdb_own o3) h4).mono ?_
    rintro e w9 ⟨T9, vo9, vc9, rfl, o9, hr9, hb9, hi9, be9⟩
    have HB9 := hid (HB3.out.trans (be9.mono hs3))
    refine hKK _ _ (fun _ => bxi HB9.out) ?_
    clear hKK KK be9
    refine mix_free ?_ rfl (by kernel_rfl) (fun w' hS => ?_) ?_; (rotate_left; (go_simp; with_reducible rfl); rotate_left)
    refine mix_end (NoPanic.normal ?_)
    have HX := hid (show ∀ x, tru b3 x ↔ Clo L (fun y => y ∈ l ∧ 0 ≤ y ∧ y < (n : Int)) x from fun x => (hi3 x).trans (Clo.congr hi2 x))
    clear hi3 hi2
    have HO9 := hid o9
    have HI9 := hid (show ∀ x, x ∈ T9 ↔ gdB L s f = true ∧ Clo L (fun y => y ∈ l ∧ 0 ≤ y ∧ y < (n : Int)) x from fun x => by
      rw [hi9 x]
      exact ⟨fun h => ⟨HG.out, HX.out x |>.1 h⟩, fun h => HX.out x |>.2 h.2⟩)
    have HR9 := hid hr9
    have HD9 := hid hb9
    clear o9 hi9 hr9 hb9
    go_wp2
    go_ret
    exact ⟨T9, vo9, vc9, rfl, own_mono' HO9.out (by omega), HR9.out, HD9.out, HI9.out, box_trans HB9.out⟩
  · have HG := hid hg
    clear hn hs hnm hl hln hlm hg
    go_enter Tryd.func30, Tryd.ntmps30
    go_wp2_with fail
    refine (rgood_any so sc n L s f _ HN.out (HS.out.below below_box) HNM.out).mono ?_
    rintro e w1 ⟨rfl, b1⟩
    have HB1 := hid (show Below (w.heap.size + 1) (w.alloc (.cells #[.slice so n sc, .int .i64 s, .int .i64 f] 28)) w1 by simpa using b1)
    rw [HG.out]
    clear b1
    go_wp2
    go_ret
    exact setq_nil (fun x h => by have h1 := h.1; rw [HG.out] at h1; cases h1) (box_trans HB1.out)
set_option maxHeartbeats 4000000 in
set_option maxRecDepth 100000 in
theorem rstepS_any (so : Option Addr) (sc n : Nat) (L : List St) (s f : Int) (lo : Option Addr) (ln lc : Nat) (l : List Int) (c : Int) (w : World) (hn : n = L.length) (hs : RdS w so L) (hnm : n ≤ most) (hl : RdI w lo l) (hln : ln = l.length) (hlm : ln ≤ most) :
    Calls Tryd.prog 32 #[.agg #[.slice so n sc, .int .i64 s, .int .i64 f], .slice lo ln lc, .int .i64 c] w fun e w' => SetQ w n (fun x => gdB L s f = true ∧ Nxt L (Clo L (fun y => y ∈ l ∧ 0 ≤ y ∧ y < (n : Int))) c x) e w' := by
  have HN := hid hn
  have HS := hid hs
  have HNM := hid hnm
  have HL := hid hl
  have HLN := hid hln
  have HLM := hid hlm
  rcases bool_cases (gdB L s f) with hg | hg
  · have hgd := gdd_of hg
    have h4 : n ≤ 4096 := by have := hgd.few; omega
    have HG := hid hg
    clear hn hs hnm hl hln hlm hgd hg
    go_enter Tryd.func32, Tryd.ntmps32
    go_wp2_with fail
    refine (rgood_any so sc n L s f _ HN.out (HS.out.below below_box) HNM.out).mono ?_
    rintro e w1 ⟨rfl, b1⟩
    have HB1 := hid (show Below (w.heap.size + 1) (w.alloc (.cells #[.slice so n sc, .int .i64 s, .int .i64 f] 28)) w1 by simpa using b1)
    have hs1 : w.heap.size + 1 ≤ w1.heap.size := by have := HB1.out.size; simpa using this
    rw [HG.out]
    obtain ⟨c0, c1, c2⟩ := bxi HB1.out
    clear b1
    go_wp2_with fail
    refine wp_region_mix [(0, true), (1, true), (2, true), (3, true), (6, true), (4, false), (5, false), (7, false), (8, false), (9, true)] (fun w' => w'.cell? ⟨w.heap.size, 0, none⟩ = some (.slice so n sc) ∧ w'.cell? ⟨w.heap.size, 1, none⟩ = some (.int .i64 s) ∧ w'.cell? ⟨w.heap.size, 2, none⟩ = some (.int .i64 f)) (fun _ => false) (by kernel_rfl) (by kernel_rfl) (fun j hj => by cases hj) rfl (by kernel_rfl) ⟨c0, c1, c2⟩ ?_
    iterate 5 (refine mix_free ?_ rfl (by kernel_rfl) (fun w' hS => ?_) ?_; (rotate_left; (obtain ⟨s1, s2, s3⟩ := hS; go_simp; with_reducible rfl); rotate_left))
    have HD := hid HB1.out.drew
    have hsD : w.heap.size + 1 ≤ w1.drew.heap.size := hs1
    refine mix_go rfl (by kernel_rfl) fun KK hKK => ?_
    go_simp
    refine (rof_any so sc n s f lo ln lc l w1.drew h4 (HL.out.below (box_trans HD.out)) HLN.out HLM.out).mono ?_
    rintro e w2 ⟨b2, g2, v2, rfl, o2, hl2, hi2, be2⟩
    have HB2 := hid (HD.out.trans (be2.mono hsD))
    have hs2 : w.heap.size + 1 ≤ w2.heap.size := by have := HB2.out.size; simpa using this
    refine hKK _ _ (fun _ => bxi HB2.out) ?_
    clear hKK KK be2
    refine mix_go rfl (by kernel_rfl) fun KK hKK => ?_
    go_simp
    refine (rclosed_any so sc n L s f (some ⟨g2, 0, none⟩) v2 b2 w2 HN.out (HS.out.below (box_trans HB2.out)) HG.out (rdb_own o2) hl2).mono ?_
    rintro e w3 ⟨b3, g3, v3, rfl, o3, hl3, hi3, be3⟩
    have HB3 := hid (HB2.out.trans (be3.mono hs2))
    have hs3 : w.heap.size + 1 ≤ w3.heap.size := by have := HB3.out.size; simpa using this
    refine hKK _ _ (fun _ => bxi HB3.out) ?_
    clear hKK KK be3 o2
    refine mix_go rfl (by kernel_rfl) fun KK hKK => ?_
    go_simp
    refine (rstep_any so sc n L s f (some ⟨g3, 0, none⟩) v3 b3 c w3 HN.out (HS.out.below (box_trans HB3.out)) HG.out (rdb_own o3) hl3).mono ?_
    rintro e w4 ⟨b4, g4, v4, rfl, o4, hl4, hi4, be4⟩
    have HB4 := hid (HB3.out.trans (be4.mono hs3))
    have hs4 : w.heap.size + 1 ≤ w4.heap.size := by have := HB4.out.size; simpa using this
    refine hKK _ _ (fun _ => bxi HB4.out) ?_
    clear hKK KK be4 o3
    refine mix_go rfl (by kernel_rfl) fun KK hKK => ?_
    go_simp
    refine (rlist_any (some ⟨g4, 0, none⟩) v4 n b4 w4 hl4 (rdb_own o4) h4).mono ?_
    rintro e w9 ⟨T9, vo9, vc9, rfl, o9, hr9, hb9, hi9, be9⟩
    have HB9 := hid (HB4.out.trans (be9.mono hs4))
    refine hKK _ _ (fun _ => bxi HB9.out) ?_
    clear hKK KK be9
    refine mix_free ?_ rfl (by kernel_rfl) (fun w' hS => ?_) ?_; (rotate_left; (go_simp; with_reducible rfl); rotate_left)
    refine mix_end (NoPanic.normal ?_)
    have HX := hid (show ∀ x, tru b4 x ↔ Nxt L (Clo L (fun y => y ∈ l ∧ 0 ≤ y ∧ y < (n : Int))) c x from fun x => (hi4 x).trans (Nxt.congr (fun y => (hi3 y).trans (Clo.congr hi2 y)) c x))
    clear hi3 hi2 hi4
    have HO9 := hid o9
    have HI9 := hid (show ∀ x, x ∈ T9 ↔ gdB L s f = true ∧ Nxt L (Clo L (fun y => y ∈ l ∧ 0 ≤ y ∧ y < (n : Int))) c x from fun x => by
      rw [hi9 x]
      exact ⟨fun h => ⟨HG.out, HX.out x |>.1 h⟩, fun h => HX.out x |>.2 h.2⟩)
    have HR9 := hid hr9
    have HD9 := hid hb9
    clear o9 hi9 hr9 hb9
    go_wp2
    go_ret
    exact ⟨T9, vo9, vc9, rfl, own_mono' HO9.out (by omega), HR9.out, HD9.out, HI9.out, box_trans HB9.out⟩
  · have HG := hid hg
    clear hn hs hnm hl hln hlm hg
    go_enter Tryd.func32, Tryd.ntmps32
    go_wp2_with fail
    refine (rgood_any so sc n L s f _ HN.out (HS.out.below below_box) HNM.out).mono ?_
    rintro e w1 ⟨rfl, b1⟩
    have HB1 := hid (show Below (w.heap.size + 1) (w.alloc (.cells #[.slice so n sc, .int .i64 s, .int .i64 f] 28)) w1 by simpa using b1)
    rw [HG.out]
    clear b1
    go_wp2
    go_ret
    exact setq_nil (fun x h => by have h1 := h.1; rw [HG.out] at h1; cases h1) (box_trans HB1.out)
end Go.Proofs.YteacehfihogmpaaDoor
/- The contracts of Ends, Takes and Longest (the document's), where there is something to tell. -/
namespace Go.Proofs.YteacehfihogmpaaDoor
open Go.RowKit

theorem csb_over {c : List Int} {a k : Nat} (hk : c.length ≤ k) : csb c a (k + 1) = csb c a k := by
  unfold csb
  rw [List.take_of_length_le (by rw [List.length_drop]; omega), List.take_of_length_le (by rw [List.length_drop]; omega)]
set_option maxHeartbeats 4000000 in
set_option maxRecDepth 100000 in
theorem rends_any (so : Option Addr) (sc n : Nat) (L : List St) (s f : Nat) (co : Option Addr) (cl cc : Nat) (c : List Int) (a : Nat) (w : World) (hn : n = L.length) (hs : RdS w so L) (hg : gdB L s f = true) (hc : RdI w co c) (hcl : cl = c.length) (hcm : cl ≤ 1000000) (ha : a ≤ cl) :
    Calls Tryd.prog 34 #[.agg #[.slice so n sc, .int .i64 s, .int .i64 f], .slice co cl cc, .int .i64 a] w fun e w' => EndQ w L (Clo L (· = (s : Int))) f c a e w' := by
  obtain ⟨i0, hi3, hz0, hz1, hz2⟩ := info_parts Tryd.info3
  have hgd := gdd_of hg
  have hst := hgd.st
  have hfi := hgd.fi
  have hsn : s < n := by omega
  have hfn : f < n := by omega
  have h4 : n ≤ 4096 := by have := hgd.few; omega
  have HG := hid hg
  have HN := hid hn
  have HS := hid hs
  have HC := hid hc
  have HCL := hid hcl
  have i1 : ¬ (a : Int) < 0 := by omega
  have i2 : ¬ (cl : Int) < (a : Int) := by omega
  clear hs hc hcl hgd hn hst hfi hg
  go_enter Tryd.func34, Tryd.ntmps34
  go_wp2_with fail
  refine (rgood_any so sc n L s f _ HN.out (HS.out.below below_box) (by unfold most; omega)).mono ?_
  rintro e w1 ⟨rfl, b1⟩
  have HB1 := hid (show Below (w.heap.size + 1) (w.alloc (.cells #[.slice so n sc, .int .i64 s, .int .i64 f] 28)) w1 by simpa using b1)
  have hs1 : w.heap.size + 1 ≤ w1.heap.size := by have := HB1.out.size; simpa using this
  rw [HG.out]
  obtain ⟨c0, c1, c2⟩ := bx HB1.out
  clear b1
  go_wp2_with fail
  refine wp_region_mix [(0, true), (1, true), (2, true), (3, true), (4, false), (5, false), (6, false), (7, true)] (fun w' => w'.cell? ⟨w.heap.size, 0, none⟩ = some (.slice so n sc) ∧ w'.cell? ⟨w.heap.size, 1, none⟩ = some (.int .i64 (s : Int)) ∧ w'.cell? ⟨w.heap.size, 2, none⟩ = some (.int .i64 (f : Int))) (fun _ => false) (by kernel_rfl) (by kernel_rfl) (fun j hj => by cases hj) rfl (by kernel_rfl) ⟨c0, c1, c2⟩ ?_
  iterate 4 (refine mix_free ?_ rfl (by kernel_rfl) (fun w' hS => ?_) ?_; (rotate_left; (obtain ⟨s1, s2, s3⟩ := hS; go_simp; with_reducible rfl); rotate_left))
  refine mix_go rfl (by kernel_rfl) fun KK hKK => ?_
  go_simp
  have HBA := hid (show Below (w.heap.size + 1) (w.alloc (.cells #[.slice so n sc, .int .i64 s, .int .i64 f] 28)) (w1.alloc (.cells #[.int .i64 (s : Int)] 3)).drew from (HB1.out.alloc hs1 (.cells #[.int .i64 (s : Int)] 3)).drew)
  have HRS := hid (show RdI (w1.alloc (.cells #[.int .i64 (s : Int)] 3)).drew (some ⟨w1.heap.size, 0, none⟩) [(s : Int)] from fun k y hk => by
    have hk0 : k = 0 := by have := (List.getElem?_eq_some_iff.1 hk).1; simp at this; omega
    subst hk0
    have hy : (s : Int) = y := by simpa using hk
    subst hy
    exact ⟨_, rfl, by show w1.heap.size < (w1.alloc _).heap.size; simp, news_one w1 _ 3 0 _ rfl⟩)
  have hsA : w.heap.size + 1 ≤ ((w1.alloc (.cells #[.int .i64 (s : Int)] 3)).drew).heap.size := by show w.heap.size + 1 ≤ (w1.alloc _).heap.size; simp; omega
  refine hKK _ _ (fun _ => bx HBA.out) ?_
  clear hKK KK
  refine mix_go rfl (by kernel_rfl) fun KK hKK => ?_
  go_simp
  refine (rof_any so sc n s f (some ⟨w1.heap.size, 0, none⟩) 1 1 [(s : Int)] (w1.alloc (.cells #[.int .i64 (s : Int)] 3)).drew h4 HRS.out rfl (by unfold most; omega)).mono ?_
  rintro e w2 ⟨b2, g2, v2, rfl, o2, hl2, hi2, be2⟩
  have HB2 := hid (HBA.out.trans (be2.mono hsA))
  have hs2 : w.heap.size + 1 ≤ w2.heap.size := by have := HB2.out.size; simpa using this
  refine hKK _ _ (fun _ => bx HB2.out) ?_
  clear hKK KK be2
  refine mix_go rfl (by kernel_rfl) fun KK hKK => ?_
  go_simp
  refine (rclosed_any so sc n L s f (some ⟨g2, 0, none⟩) v2 b2 w2 HN.out (HS.out.below (box_trans HB2.out)) HG.out (rdb_own o2) hl2).mono ?_
  rintro e w3 ⟨b3, g3, v3, rfl, o3, hl3, hi3', be3⟩
  have HB3 := hid (HB2.out.trans (be3.mono hs2))
  refine hKK _ _ (fun _ => bx HB3.out) ?_
  clear hKK KK be3 o2
  refine mix_free ?_ rfl (by kernel_rfl) (fun w' hS => ?_) ?_; (rotate_left; (go_simp; with_reducible rfl); rotate_left)
  refine mix_end (NoPanic.normal ?_)
  have HO3 := hid (own_mono' o3 hs2)
  have HL3 := hid hl3
  have HI3 := hid (show ∀ x, tru b3 x ↔ Rd L (Clo L (· = (s : Int))) (csb c a a) x from fun x => by
    rw [csb_self]
    show tru b3 x ↔ Clo L (· = (s : Int)) x
    rw [hi3' x]
    exact Clo.congr (fun y => (hi2 y).trans (by simp; omega)) x)
  clear o3 hl3 hi3' hi2 hl2 HRS HBA HB2 HB1 c0 c1 c2 hs1 hs2 hsA
  go_wp2
  go_loopw [7, 8, 9] (fun xo xs xk wr => ∃ (k em : Nat) (eo : Option Addr) (ec : Nat) (E : List Int) (bs : List Bool) (g vc : Nat), xo = .slice eo em ec ∧ xs = .slice (some ⟨g, 0, none⟩) n vc ∧ xk = .int .i64 k ∧ a ≤ k ∧ k ≤ cl + 1 ∧ em ≤ k ∧ Hid (E.length = em) ∧ Hid (wr.ownsRow (w.heap.size + 1) 3 1 (.slice eo em ec) em (i64s E)) ∧ Hid (wr.ownsRow (w.heap.size + 1) 4 1 (.slice (some ⟨g, 0, none⟩) n vc) n (bls bs)) ∧ Hid ((Value.slice eo em ec).ownBlock ≠ some g) ∧ Hid (bs.length = n) ∧ Hid (∀ x, tru bs x ↔ Rd L (Clo L (· = (s : Int))) (csb c a k) x) ∧ Hid (Eq2 L (Clo L (· = (s : Int))) f c a k E) ∧ Hid (Below (w.heap.size + 1) (w.alloc (.cells #[.slice so n sc, .int .i64 s, .int .i64 f] 28)) wr)) (fun _ _ xk _ => cl + 1 - (intOf xk).toNat)
  case atStart => exact ⟨a, 0, none, 0, [], b3, g3, v3, rfl, rfl, rfl, Nat.le_refl _, by omega, Nat.zero_le _, rfl, World.ownsRow_nil _ _ _ _, HO3, fun h => (by cases h), HL3, HI3, Eq2.start, HB3⟩
  case round =>
    clear HO3 HL3 HI3 HB3
    obtain ⟨k, em, eo, ec, E, bs, g, vc, rfl, rfl, rfl, hak, hkc1, hek, HEL, HOE, HOS, HNE, HBL, HI, HEQ, HB⟩ := hrel
    obtain ⟨c0, c1, c2⟩ := bx HB.out
    have hsz : w.heap.size + 1 ≤ wr.heap.size := by have := HB.out.size; simpa using this
    by_cases hle : k ≤ cl
    · have k1 : (k : Int) ≤ (cl : Int) := by omega
      have hfb : f < bs.length := by have := HBL.out; omega
      have o0 := ownb_at HOS.out (List.getElem?_eq_getElem hfb)
      have HFB := hid (List.getElem?_eq_getElem hfb)
      obtain ⟨v, hv⟩ : ∃ v, v = bs[f] := ⟨_, rfl⟩
      rw [← hv] at o0 HFB
      have f3 : (f : Int) < (n : Int) := by omega
      have f0 : (0 : Int) ≤ (f : Int) := by omega
      clear hv hfb
      rcases bool_cases v with hv | hv
      · subst hv
        have HEQ5 := hid (HEQ.out.yes hak ((HI.out (f : Int)).1 (tru_nat.2 HFB.out)))
        have HEL5 := hid (show (E ++ [(k : Int)]).length = em + 1 by rw [List.length_append, HEL.out]; rfl)
        by_cases hkc : k < cl
        · have k3 : (k : Int) < (cl : Int) := by omega
          go_wp2_with (at_builtin; go_loud (refine wpList_append_lies _ rfl _ _ 22 rfl (w.heap.size + 1) 3 i0 (.int .i64 0) 1 8 Tryd.underlying22 hi3 hz0 hz1 hz2 rfl (by decide) (.slice eo em ec) em (i64s E) rfl (HOE.out.alloc _) ⟨wr.heap.size, 0, none⟩ 1 1 [.int .i64 (k : Int)] rfl rfl (news_one wr _ 3) (i64s_one [(k : Int)]) (by decide) (by unfold maxLen; omega) (by omega) (by simp; omega) (wr.heap.size + 1) (by simp) ?_); intro g5 ec5 w5 o5 gr5 hl5 hlt5; have HOE5 := hid (show w5.ownsRow (w.heap.size + 1) 3 1 (.slice (some ⟨g5, 0, none⟩) (em + 1) ec5) (em + 1) (i64s (E ++ [(k : Int)])) by (rw [i64s_snoc]; exact o5)); have HB5 := hid ((HB.out.alloc hsz (.cells #[.int .i64 (k : Int)] 3)).grown gr5 (by simp; omega) (fun k' hk' => (HOE.out.lt k' hk').1)); have HOS5 := hid ((HOS.out.alloc (.cells #[.int .i64 (k : Int)] 3)).kept gr5 (.inr (fun e => HNE.out e.symm))); have HNE5 := hid (show (Value.slice (some ⟨g5, 0, none⟩) (em + 1) ec5).ownBlock ≠ some g from fun e => by (have e' : g5 = g := Option.some.inj e; subst e'; exact hl5.elim HNE.out (fun h => by have := (HOS.out.lt g5 rfl).2; omega))); clear o5 gr5 hl5 hlt5)
          clear HOE HB HOS HNE HEQ HEL c0 c1 c2 o0
          have k0 : (0 : Int) ≤ (k : Int) := by omega
          have hkl : k < c.length := by have := HCL.out; omega
          obtain ⟨q, eq, hqw, a0w⟩ := HC.out k c[k] (List.getElem?_eq_getElem hkl)
          have a0 := ((box_trans HB5.out).cell (p := q.add k) (by rw [add_blk]; exact hqw)).trans a0w
          have HQW := hid hqw
          have HAW := hid a0w
          subst eq
          have HCS := hid (csb_next (a := a) hak hkl)
          obtain ⟨ck, hck⟩ : ∃ ck, ck = c[k] := ⟨_, rfl⟩
          rw [← hck] at a0 HCS HAW
          obtain ⟨c0, c1, c2⟩ := bx HB5.out
          have hszz : w.heap.size + 1 ≤ w5.heap.size := by have := HB5.out.size; simpa using this
          clear hck hkl hqw a0w
          go_wp2_with fail
          refine wp_region_mix [(0, true), (1, true), (2, true), (3, true), (4, true), (5, true), (6, false), (7, true)] (fun w' => (w'.cell? ⟨w.heap.size, 0, none⟩ = some (.slice so n sc) ∧ w'.cell? ⟨w.heap.size, 1, none⟩ = some (.int .i64 (s : Int)) ∧ w'.cell? ⟨w.heap.size, 2, none⟩ = some (.int .i64 (f : Int))) ∧ w'.cell? (q.add k) = some (.int .i64 ck)) (fun _ => false) (by kernel_rfl) (by kernel_rfl) (fun j hj => by cases hj) rfl (by kernel_rfl) ⟨⟨c0, c1, c2⟩, a0⟩ ?_
          iterate 6 (refine mix_free ?_ rfl (by kernel_rfl) (fun w' hS => ?_) ?_; (rotate_left; (obtain ⟨⟨s1, s2, s3⟩, s4⟩ := hS; go_simp; with_reducible rfl); rotate_left))
          have HD := hid HB5.out.drew
          have hsD : w.heap.size + 1 ≤ w5.drew.heap.size := hszz
          refine mix_go rfl (by kernel_rfl) fun KK hKK => ?_
          go_simp
          refine (rstep_any so sc n L s f (some ⟨g, 0, none⟩) vc bs ck w5.drew HN.out (HS.out.below (box_trans HD.out)) HG.out (rdb_own HOS5.out.drew) HBL.out).mono ?_
          rintro e w7 ⟨b7, g7, v7, rfl, o7, hl7, hi7, be7⟩
          have HB7 := hid (HD.out.trans (be7.mono hsD))
          have a7 : w7.cell? (q.add k) = some (.int .i64 ck) := ((box_trans HB7.out).cell (p := q.add k) (by rw [add_blk]; exact HQW.out)).trans HAW.out
          have HO7 := hid (own_mono' o7 hsD)
          have HE7 := hid (own_same HOE5.out (W' := w7) (fun k' _ hlt => be7.block k' hlt))
          have HN7 := hid (show (Value.slice (some ⟨g5, 0, none⟩) (em + 1) ec5).ownBlock ≠ some g7 from fun e' => by have h1 := (HOE5.out.lt g7 e').2; have h2 : w5.heap.size ≤ g7 := (o7.lt g7 rfl).1; omega)
          have HL7 := hid hl7
          have HI7 := hid (show ∀ x, tru b7 x ↔ Rd L (Clo L (· = (s : Int))) (csb c a (k + 1)) x from fun x => by
            rw [HCS.out, Rd_snoc, hi7 x]
            exact Nxt.congr HI.out ck x)
          refine hKK _ _ (fun _ => ⟨bx HB7.out, a7⟩) ?_
          clear hKK KK o7 hl7 hi7 be7 a7
          refine mix_free ?_ rfl (by kernel_rfl) (fun w' hS => ?_) ?_; (rotate_left; (go_simp; with_reducible rfl); rotate_left)
          refine mix_end (NoPanic.normal ?_)
          go_wp2
          go_roundw
          case rel => exact ⟨k + 1, (em + 1), (some ⟨g5, 0, none⟩), ec5, (E ++ [(k : Int)]), b7, g7, v7, rfl, rfl, by go_num, by omega, by omega, by omega, HEL5, HE7, HO7, HN7, HL7, HI7, HEQ5, HB7⟩
          case measure => simp [intOf]; omega
        · have k3 : ¬ (k : Int) < (cl : Int) := by omega
          go_wp2_with (at_builtin; go_loud (refine wpList_append_lies _ rfl _ _ 22 rfl (w.heap.size + 1) 3 i0 (.int .i64 0) 1 8 Tryd.underlying22 hi3 hz0 hz1 hz2 rfl (by decide) (.slice eo em ec) em (i64s E) rfl (HOE.out.alloc _) ⟨wr.heap.size, 0, none⟩ 1 1 [.int .i64 (k : Int)] rfl rfl (news_one wr _ 3) (i64s_one [(k : Int)]) (by decide) (by unfold maxLen; omega) (by omega) (by simp; omega) (wr.heap.size + 1) (by simp) ?_); intro g5 ec5 w5 o5 gr5 hl5 hlt5; have HOE5 := hid (show w5.ownsRow (w.heap.size + 1) 3 1 (.slice (some ⟨g5, 0, none⟩) (em + 1) ec5) (em + 1) (i64s (E ++ [(k : Int)])) by (rw [i64s_snoc]; exact o5)); have HB5 := hid ((HB.out.alloc hsz (.cells #[.int .i64 (k : Int)] 3)).grown gr5 (by simp; omega) (fun k' hk' => (HOE.out.lt k' hk').1)); have HOS5 := hid ((HOS.out.alloc (.cells #[.int .i64 (k : Int)] 3)).kept gr5 (.inr (fun e => HNE.out e.symm))); have HNE5 := hid (show (Value.slice (some ⟨g5, 0, none⟩) (em + 1) ec5).ownBlock ≠ some g from fun e => by (have e' : g5 = g := Option.some.inj e; subst e'; exact hl5.elim HNE.out (fun h => by have := (HOS.out.lt g5 rfl).2; omega))); clear o5 gr5 hl5 hlt5)
          clear HOE HB HOS HNE HEQ HEL c0 c1 c2 o0
          have HI7 := hid (show ∀ x, tru bs x ↔ Rd L (Clo L (· = (s : Int))) (csb c a (k + 1)) x from fun x => by
            rw [csb_over (by have := HCL.out; omega)]; exact HI.out x)
          go_wp2
          go_roundw
          case rel => exact ⟨k + 1, (em + 1), (some ⟨g5, 0, none⟩), ec5, (E ++ [(k : Int)]), bs, g, vc, rfl, rfl, by go_num, by omega, by omega, by omega, HEL5, HOE5, HOS5, HNE5, HBL, HI7, HEQ5, HB5⟩
          case measure => simp [intOf]; omega
      · subst hv
        have HEQ5 := hid (HEQ.out.no (fun h => by have h1 := tru_nat.1 ((HI.out (f : Int)).2 h); rw [HFB.out] at h1; cases h1))
        clear HEQ
        by_cases hkc : k < cl
        · have k3 : (k : Int) < (cl : Int) := by omega
          have k0 : (0 : Int) ≤ (k : Int) := by omega
          have hkl : k < c.length := by have := HCL.out; omega
          obtain ⟨q, eq, hqw, a0w⟩ := HC.out k c[k] (List.getElem?_eq_getElem hkl)
          have a0 := ((box_trans HB.out).cell (p := q.add k) (by rw [add_blk]; exact hqw)).trans a0w
          have HQW := hid hqw
          have HAW := hid a0w
          subst eq
          have HCS := hid (csb_next (a := a) hak hkl)
          obtain ⟨ck, hck⟩ : ∃ ck, ck = c[k] := ⟨_, rfl⟩
          rw [← hck] at a0 HCS HAW
          obtain ⟨c0, c1, c2⟩ := bx HB.out
          have hszz : w.heap.size + 1 ≤ wr.heap.size := by have := HB.out.size; simpa using this
          clear hck hkl hqw a0w
          go_wp2_with fail
          refine wp_region_mix [(0, true), (1, true), (2, true), (3, true), (4, true), (5, true), (6, false), (7, true)] (fun w' => (w'.cell? ⟨w.heap.size, 0, none⟩ = some (.slice so n sc) ∧ w'.cell? ⟨w.heap.size, 1, none⟩ = some (.int .i64 (s : Int)) ∧ w'.cell? ⟨w.heap.size, 2, none⟩ = some (.int .i64 (f : Int))) ∧ w'.cell? (q.add k) = some (.int .i64 ck)) (fun _ => false) (by kernel_rfl) (by kernel_rfl) (fun j hj => by cases hj) rfl (by kernel_rfl) ⟨⟨c0, c1, c2⟩, a0⟩ ?_
          iterate 6 (refine mix_free ?_ rfl (by kernel_rfl) (fun w' hS => ?_) ?_; (rotate_left; (obtain ⟨⟨s1, s2, s3⟩, s4⟩ := hS; go_simp; with_reducible rfl); rotate_left))
          have HD := hid HB.out.drew
          have hsD : w.heap.size + 1 ≤ wr.drew.heap.size := hszz
          refine mix_go rfl (by kernel_rfl) fun KK hKK => ?_
          go_simp
          refine (rstep_any so sc n L s f (some ⟨g, 0, none⟩) vc bs ck wr.drew HN.out (HS.out.below (box_trans HD.out)) HG.out (rdb_own HOS.out.drew) HBL.out).mono ?_
          rintro e w7 ⟨b7, g7, v7, rfl, o7, hl7, hi7, be7⟩
          have HB7 := hid (HD.out.trans (be7.mono hsD))
          have a7 : w7.cell? (q.add k) = some (.int .i64 ck) := ((box_trans HB7.out).cell (p := q.add k) (by rw [add_blk]; exact HQW.out)).trans HAW.out
          have HO7 := hid (own_mono' o7 hsD)
          have HE7 := hid (own_same HOE.out (W' := w7) (fun k' _ hlt => be7.block k' hlt))
          have HN7 := hid (show (Value.slice eo em ec).ownBlock ≠ some g7 from fun e' => by have h1 := (HOE.out.lt g7 e').2; have h2 : wr.heap.size ≤ g7 := (o7.lt g7 rfl).1; omega)
          have HL7 := hid hl7
          have HI7 := hid (show ∀ x, tru b7 x ↔ Rd L (Clo L (· = (s : Int))) (csb c a (k + 1)) x from fun x => by
            rw [HCS.out, Rd_snoc, hi7 x]
            exact Nxt.congr HI.out ck x)
          refine hKK _ _ (fun _ => ⟨bx HB7.out, a7⟩) ?_
          clear hKK KK o7 hl7 hi7 be7 a7
          refine mix_free ?_ rfl (by kernel_rfl) (fun w' hS => ?_) ?_; (rotate_left; (go_simp; with_reducible rfl); rotate_left)
          refine mix_end (NoPanic.normal ?_)
          go_wp2
          go_roundw
          case rel => exact ⟨k + 1, em, eo, ec, E, b7, g7, v7, rfl, rfl, by go_num, by omega, by omega, by omega, HEL, HE7, HO7, HN7, HL7, HI7, HEQ5, HB7⟩
          case measure => simp [intOf]; omega
        · have k3 : ¬ (k : Int) < (cl : Int) := by omega
          have HI7 := hid (show ∀ x, tru bs x ↔ Rd L (Clo L (· = (s : Int))) (csb c a (k + 1)) x from fun x => by
            rw [csb_over (by have := HCL.out; omega)]; exact HI.out x)
          go_wp2
          go_roundw
          case rel => exact ⟨k + 1, em, eo, ec, E, bs, g, vc, rfl, rfl, by go_num, by omega, by omega, by omega, HEL, HOE, HOS, HNE, HBL, HI7, HEQ5, HB⟩
          case measure => simp [intOf]; omega
    · have k1 : ¬ (k : Int) ≤ (cl : Int) := by omega
      have HEQF := hid (show Eq2 L (Clo L (· = (s : Int))) f c a (c.length + 1) E by rw [← HCL.out, show cl + 1 = k by omega]; exact HEQ.out)
      go_wp2
      go_ret
      have hq := HEL.out
      subst hq
      exact ⟨E, eo, ec, rfl, own_mono' HOE.out (by omega), HEQF.out, box_trans HB.out⟩
end Go.Proofs.YteacehfihogmpaaDoor
/- Closure, Step, Ends, Longest, Takes, the program's and the document's, at every automaton, good or not, and every place. -/
namespace Go.Proofs.YteacehfihogmpaaDoor
open Go.RowKit

/-- Is there something to tell? -/
def EdOk (L : List St) (s f : Int) (c : List Int) (z : Int) : Prop := gdB L s f = true ∧ 0 ≤ z ∧ z ≤ (c.length : Int)
/-- What Ends tells. -/
structure EdS (L : List St) (s f : Int) (c : List Int) (z : Int) (E : List Int) : Prop where
  yes : EdOk L s f c z → Eq2 L (Clo L (· = s)) f c z.toNat (c.length + 1) E
  no : ¬ EdOk L s f c z → E = []
theorem EdS.uniq {L : List St} {s f : Int} {c : List Int} {z : Int} {E E' : List Int} (h : EdS L s f c z E) (h' : EdS L s f c z E') : E = E' := by
  by_cases ok : EdOk L s f c z
  · have h1 := h.yes ok
    have h2 := h'.yes ok
    exact rising_eq h1.ris h2.ris (fun x => (h1.iff x).trans (h2.iff x).symm)
  · rw [h.no ok, h'.no ok]
theorem EdS.len {L : List St} {s f : Int} {c : List Int} {z : Int} {E : List Int} (h : EdS L s f c z E) : E.length ≤ c.length + 1 := by
  by_cases ok : EdOk L s f c z
  · exact (h.yes ok).len
  · rw [h.no ok]; simp
def EndA (w : World) (L : List St) (s f : Int) (c : List Int) (z : Int) (e : Ending) (w' : World) : Prop :=
  ∃ (E : List Int) (vo : Option Addr) (vc : Nat), e = .returned (.slice vo E.length vc) ∧ w'.ownsRow w.heap.size 3 1 (.slice vo E.length vc) E.length (i64s E) ∧ EdS L s f c z E ∧ Below w.heap.size w w'
theorem endA_nil {w w' : World} {L : List St} {s f : Int} {c : List Int} {z : Int} (h : ¬ EdOk L s f c z) (hb : Below w.heap.size w w') : EndA w L s f c z (.returned (.slice none 0 0)) w' :=
  ⟨[], none, 0, rfl, World.ownsRow_nil _ _ _ _, ⟨fun ok => absurd ok h, fun _ => rfl⟩, hb⟩
def LonA (w : World) (L : List St) (s f : Int) (c : List Int) (z : Int) (e : Ending) (w' : World) : Prop :=
  ∃ E : List Int, e = .returned (.tuple #[.int .i64 (E.getLastD 0), .bool (!E.isEmpty)]) ∧ EdS L s f c z E ∧ Below w.heap.size w w'
def TakA (w : World) (L : List St) (s f : Int) (c : List Int) (e : Ending) (w' : World) : Prop :=
  ∃ E : List Int, e = .returned (.bool (!E.isEmpty && (E.getLastD 0 == (c.length : Int)))) ∧ EdS L s f c 0 E ∧ Below w.heap.size w w'
theorem closureA_any (so : Option Addr) (sc n : Nat) (L : List St) (s f : Int) (lo : Option Addr) (ln lc : Nat) (l : List Int) (w : World) (hn : n = L.length) (hs : RdS w so L) (hnm : n ≤ most) (he : eS L ≤ 1000000) (hf : fS L ≤ 1000000) (hl : RdI w lo l) (hln : ln = l.length) (hlm : ln ≤ most) :
    Calls Tryd.prog 29 #[.agg #[.slice so n sc, .int .i64 s, .int .i64 f], .slice lo ln lc] w fun e w' => SetQ w n (fun x => gdB L s f = true ∧ Clo L (fun y => y ∈ l ∧ 0 ≤ y ∧ y < (n : Int)) x) e w' := by
  rcases bool_cases (gdB L s f) with hg | hg
  · refine (closure_any so sc n L s f lo ln lc l w hn hs hg he hf hl hln hlm).mono ?_
    rintro e w' ⟨T, vo, vc, h1, h2, h3, h4, h5, h6⟩
    exact ⟨T, vo, vc, h1, h2, h3, h4, fun x => (h5 x).trans ⟨fun h => ⟨hg, h⟩, fun h => h.2⟩, h6⟩
  · refine (closure_bad so sc n L s f lo ln lc w hn hs hg hnm).mono ?_
    rintro e w' ⟨rfl, hb⟩
    exact setq_nil (fun x h => by have h1 := h.1; rw [hg] at h1; cases h1) hb
theorem stepA_any (so : Option Addr) (sc n : Nat) (L : List St) (s f : Int) (lo : Option Addr) (ln lc : Nat) (l : List Int) (c : Int) (w : World) (hn : n = L.length) (hs : RdS w so L) (hnm : n ≤ most) (he : eS L ≤ 1000000) (hf : fS L ≤ 1000000) (hl : RdI w lo l) (hln : ln = l.length) (hlm : ln ≤ most) :
    Calls Tryd.prog 31 #[.agg #[.slice so n sc, .int .i64 s, .int .i64 f], .slice lo ln lc, .int .i64 c] w fun e w' => SetQ w n (fun x => gdB L s f = true ∧ Nxt L (Clo L (fun y => y ∈ l ∧ 0 ≤ y ∧ y < (n : Int))) c x) e w' := by
  rcases bool_cases (gdB L s f) with hg | hg
  · refine (stepN_any so sc n L s f lo ln lc l c w hn hs hg he hf hl hln hlm).mono ?_
    rintro e w' ⟨T, vo, vc, h1, h2, h3, h4, h5, h6⟩
    exact ⟨T, vo, vc, h1, h2, h3, h4, fun x => (h5 x).trans ⟨fun h => ⟨hg, h⟩, fun h => h.2⟩, h6⟩
  · have HN := hid hn
    have HS := hid hs
    have HNM := hid hnm
    have HG := hid hg
    clear hn hs hnm hl hln hlm hg
    go_enter Tryd.func31, Tryd.ntmps31
    go_wp2_with fail
    refine (good_any so sc n L s f _ HN.out (HS.out.below below_box) HNM.out).mono ?_
    rintro e w1 ⟨rfl, b1⟩
    have HB1 := hid (show Below (w.heap.size + 1) (w.alloc (.cells #[.slice so n sc, .int .i64 s, .int .i64 f] 28)) w1 by simpa using b1)
    rw [HG.out]
    clear b1
    go_wp2
    go_ret
    exact setq_nil (fun x h => by have h1 := h.1; rw [HG.out] at h1; cases h1) (box_trans HB1.out)
set_option maxHeartbeats 1000000 in
set_option maxRecDepth 100000 in
theorem endsA_any (so : Option Addr) (sc n : Nat) (L : List St) (s f : Int) (co : Option Addr) (cl cc : Nat) (c : List Int) (z : Int) (w : World) (hn : n = L.length) (hs : RdS w so L) (hnm : n ≤ most) (he : eS L ≤ 1000000) (hf : fS L ≤ 1000000) (hc : RdI w co c) (hcl : cl = c.length) (hcm : cl ≤ 1000000) :
    Calls Tryd.prog 22 #[.agg #[.slice so n sc, .int .i64 s, .int .i64 f], .slice co cl cc, .int .i64 z] w fun e w' => EndA w L s f c z e w' := by
  have HN := hid hn
  have HS := hid hs
  have HNM := hid hnm
  have HCL := hid hcl
  rcases bool_cases (gdB L s f) with hg | hg
  · by_cases z0 : 0 ≤ z
    · by_cases z1 : z ≤ (cl : Int)
      · have hgd := gdd_of hg
        obtain ⟨a, rfl⟩ := Int.eq_ofNat_of_zero_le z0
        obtain ⟨s, rfl⟩ := Int.eq_ofNat_of_zero_le hgd.st.1
        obtain ⟨f, rfl⟩ := Int.eq_ofNat_of_zero_le hgd.fi.1
        refine (ends_any so sc n L s f co cl cc c a w hn hs hg he hf hc hcl hcm (by omega)).mono ?_
        rintro e w' ⟨E, vo, vc, h1, h2, h3, h4⟩
        exact ⟨E, vo, vc, h1, h2, ⟨fun _ => h3, fun h => absurd ⟨hg, z0, by omega⟩ h⟩, h4⟩
      · have HG := hid hg
        have i1 : ¬ z < 0 := by omega
        have i2 : (cl : Int) < z := by omega
        clear hn hs hnm hc hcl hg
        go_enter Tryd.func22, Tryd.ntmps22
        go_wp2_with fail
        refine (good_any so sc n L s f _ HN.out (HS.out.below below_box) HNM.out).mono ?_
        rintro e w1 ⟨rfl, b1⟩
        have HB1 := hid (show Below (w.heap.size + 1) (w.alloc (.cells #[.slice so n sc, .int .i64 s, .int .i64 f] 28)) w1 by simpa using b1)
        rw [HG.out]
        clear b1
        go_wp2
        go_ret
        exact endA_nil (fun h => by have := h.2.2; have := HCL.out; omega) (box_trans HB1.out)
    · have HG := hid hg
      have i1 : z < 0 := by omega
      clear hn hs hnm hc hcl hg
      go_enter Tryd.func22, Tryd.ntmps22
      go_wp2_with fail
      refine (good_any so sc n L s f _ HN.out (HS.out.below below_box) HNM.out).mono ?_
      rintro e w1 ⟨rfl, b1⟩
      have HB1 := hid (show Below (w.heap.size + 1) (w.alloc (.cells #[.slice so n sc, .int .i64 s, .int .i64 f] 28)) w1 by simpa using b1)
      rw [HG.out]
      clear b1
      go_wp2
      go_ret
      exact endA_nil (fun h => by have := h.2.1; omega) (box_trans HB1.out)
  · have HG := hid hg
    clear hn hs hnm hc hcl hg
    go_enter Tryd.func22, Tryd.ntmps22
    go_wp2_with fail
    refine (good_any so sc n L s f _ HN.out (HS.out.below below_box) HNM.out).mono ?_
    rintro e w1 ⟨rfl, b1⟩
    have HB1 := hid (show Below (w.heap.size + 1) (w.alloc (.cells #[.slice so n sc, .int .i64 s, .int .i64 f] 28)) w1 by simpa using b1)
    rw [HG.out]
    clear b1
    go_wp2
    go_ret
    exact endA_nil (fun h => by have h1 := h.1; rw [HG.out] at h1; cases h1) (box_trans HB1.out)
set_option maxHeartbeats 1000000 in
set_option maxRecDepth 100000 in
theorem rendsA_any (so : Option Addr) (sc n : Nat) (L : List St) (s f : Int) (co : Option Addr) (cl cc : Nat) (c : List Int) (z : Int) (w : World) (hn : n = L.length) (hs : RdS w so L) (hnm : n ≤ most) (hc : RdI w co c) (hcl : cl = c.length) (hcm : cl ≤ 1000000) :
    Calls Tryd.prog 34 #[.agg #[.slice so n sc, .int .i64 s, .int .i64 f], .slice co cl cc, .int .i64 z] w fun e w' => EndA w L s f c z e w' := by
  have HN := hid hn
  have HS := hid hs
  have HNM := hid hnm
  have HCL := hid hcl
  rcases bool_cases (gdB L s f) with hg | hg
  · by_cases z0 : 0 ≤ z
    · by_cases z1 : z ≤ (cl : Int)
      · have hgd := gdd_of hg
        obtain ⟨a, rfl⟩ := Int.eq_ofNat_of_zero_le z0
        obtain ⟨s, rfl⟩ := Int.eq_ofNat_of_zero_le hgd.st.1
        obtain ⟨f, rfl⟩ := Int.eq_ofNat_of_zero_le hgd.fi.1
        refine (rends_any so sc n L s f co cl cc c a w hn hs hg  hc hcl hcm (by omega)).mono ?_
        rintro e w' ⟨E, vo, vc, h1, h2, h3, h4⟩
        exact ⟨E, vo, vc, h1, h2, ⟨fun _ => h3, fun h => absurd ⟨hg, z0, by omega⟩ h⟩, h4⟩
      · have HG := hid hg
        have i1 : ¬ z < 0 := by omega
        have i2 : (cl : Int) < z := by omega
        clear hn hs hnm hc hcl hg
        go_enter Tryd.func34, Tryd.ntmps34
        go_wp2_with fail
        refine (rgood_any so sc n L s f _ HN.out (HS.out.below below_box) HNM.out).mono ?_
        rintro e w1 ⟨rfl, b1⟩
        have HB1 := hid (show Below (w.heap.size + 1) (w.alloc (.cells #[.slice so n sc, .int .i64 s, .int .i64 f] 28)) w1 by simpa using b1)
        rw [HG.out]
        clear b1
        go_wp2
        go_ret
        exact endA_nil (fun h => by have := h.2.2; have := HCL.out; omega) (box_trans HB1.out)
    · have HG := hid hg
      have i1 : z < 0 := by omega
      clear hn hs hnm hc hcl hg
      go_enter Tryd.func34, Tryd.ntmps34
      go_wp2_with fail
      refine (rgood_any so sc n L s f _ HN.out (HS.out.below below_box) HNM.out).mono ?_
      rintro e w1 ⟨rfl, b1⟩
      have HB1 := hid (show Below (w.heap.size + 1) (w.alloc (.cells #[.slice so n sc, .int .i64 s, .int .i64 f] 28)) w1 by simpa using b1)
      rw [HG.out]
      clear b1
      go_wp2
      go_ret
      exact endA_nil (fun h => by have := h.2.1; omega) (box_trans HB1.out)
  · have HG := hid hg
    clear hn hs hnm hc hcl hg
    go_enter Tryd.func34, Tryd.ntmps34
    go_wp2_with fail
    refine (rgood_any so sc n L s f _ HN.out (HS.out.below below_box) HNM.out).mono ?_
    rintro e w1 ⟨rfl, b1⟩
    have HB1 := hid (show Below (w.heap.size + 1) (w.alloc (.cells #[.slice so n sc, .int .i64 s, .int .i64 f] 28)) w1 by simpa using b1)
    rw [HG.out]
    clear b1
    go_wp2
    go_ret
    exact endA_nil (fun h => by have h1 := h.1; rw [HG.out] at h1; cases h1) (box_trans HB1.out)
set_option maxHeartbeats 1000000 in
set_option maxRecDepth 100000 in
theorem longA_any (so : Option Addr) (sc n : Nat) (L : List St) (s f : Int) (co : Option Addr) (cl cc : Nat) (c : List Int) (z : Int) (w : World) (hn : n = L.length) (hs : RdS w so L) (hnm : n ≤ most) (he : eS L ≤ 1000000) (hf : fS L ≤ 1000000) (hc : RdI w co c) (hcl : cl = c.length) (hcm : cl ≤ 1000000) :
    Calls Tryd.prog 27 #[.agg #[.slice so n sc, .int .i64 s, .int .i64 f], .slice co cl cc, .int .i64 z] w fun e w' => LonA w L s f c z e w' := by
  have HC := hid (endsA_any so sc n L s f co cl cc c z (w.alloc (.cells #[.slice so n sc, .int .i64 s, .int .i64 f] 28)) hn (hs.below below_box) hnm he hf (hc.below below_box) hcl hcm)
  have HCL := hid hcl
  clear hs hc hn hcl hnm
  go_enter Tryd.func27, Tryd.ntmps27
  go_wp2_with fail
  refine HC.out.mono ?_
  rintro e w1 ⟨E, vo, vc, rfl, o1, heq, b1⟩
  have HB := hid (box_trans (show Below (w.heap.size + 1) (w.alloc (.cells #[.slice so n sc, .int .i64 s, .int .i64 f] 28)) w1 by simpa using b1))
  have HQ := hid heq
  have hEl := heq.len
  have hle : E.length ≤ 1000001 := by have := HCL.out; omega
  by_cases hE : E.length = 0
  · have hE' : E = [] := List.eq_nil_of_length_eq_zero hE
    subst hE'
    clear o1 heq b1 HC
    go_wp2
    go_ret2
    exact ⟨[], rfl, HQ.out, HB.out⟩
  · obtain ⟨g, rfl, _, _, hcell⟩ := own_at o1 (last_at (E := E) (by omega))
    have hne : E.isEmpty = false := by cases E with
      | nil => simp at hE
      | cons x l => rfl
    have HNE := hid hne
    obtain ⟨x, hx⟩ : ∃ x, x = E.getLastD 0 := ⟨_, rfl⟩
    rw [← hx] at hcell
    have HX := hid hx
    obtain ⟨m, hm⟩ : ∃ m, m = E.length := ⟨_, rfl⟩
    rw [← hm] at hcell hE hle ⊢
    have b0 : ((m : Int) == 0) = false := beq_eq_false_iff_ne.2 (by omega)
    obtain ⟨m1, hm1⟩ : ∃ m1, m1 = m - 1 := ⟨_, rfl⟩
    rw [← hm1] at hcell
    have i1 : (m : Int) - 1 = (m1 : Int) := by omega
    have i2 : (m1 : Int) < (m : Int) := by omega
    have i3 : (0 : Int) ≤ (m1 : Int) := by omega
    clear o1 heq b1 HC hm hEl hm1 hne hx
    go_wp2
    go_ret2
    exact ⟨E, by rw [HNE.out, ← HX.out]; rfl, HQ.out, HB.out⟩
set_option maxHeartbeats 1000000 in
set_option maxRecDepth 100000 in
theorem rlongA_any (so : Option Addr) (sc n : Nat) (L : List St) (s f : Int) (co : Option Addr) (cl cc : Nat) (c : List Int) (z : Int) (w : World) (hn : n = L.length) (hs : RdS w so L) (hnm : n ≤ most) (hc : RdI w co c) (hcl : cl = c.length) (hcm : cl ≤ 1000000) :
    Calls Tryd.prog 28 #[.agg #[.slice so n sc, .int .i64 s, .int .i64 f], .slice co cl cc, .int .i64 z] w fun e w' => LonA w L s f c z e w' := by
  have HC := hid (rendsA_any so sc n L s f co cl cc c z (w.alloc (.cells #[.slice so n sc, .int .i64 s, .int .i64 f] 28)) hn (hs.below below_box) hnm (hc.below below_box) hcl hcm)
  have HCL := hid hcl
  clear hs hc hn hcl hnm
  go_enter Tryd.func28, Tryd.ntmps28
  go_wp2_with fail
  refine HC.out.mono ?_
  rintro e w1 ⟨E, vo, vc, rfl, o1, heq, b1⟩
  have HB := hid (box_trans (show Below (w.heap.size + 1) (w.alloc (.cells #[.slice so n sc, .int .i64 s, .int .i64 f] 28)) w1 by simpa using b1))
  have HQ := hid heq
  have hEl := heq.len
  have hle : E.length ≤ 1000001 := by have := HCL.out; omega
  by_cases hE : E.length = 0
  · have hE' : E = [] := List.eq_nil_of_length_eq_zero hE
    subst hE'
    clear o1 heq b1 HC
    go_wp2
    go_ret2
    exact ⟨[], rfl, HQ.out, HB.out⟩
  · obtain ⟨g, rfl, _, _, hcell⟩ := own_at o1 (last_at (E := E) (by omega))
    have hne : E.isEmpty = false := by cases E with
      | nil => simp at hE
      | cons x l => rfl
    have HNE := hid hne
    obtain ⟨x, hx⟩ : ∃ x, x = E.getLastD 0 := ⟨_, rfl⟩
    rw [← hx] at hcell
    have HX := hid hx
    obtain ⟨m, hm⟩ : ∃ m, m = E.length := ⟨_, rfl⟩
    rw [← hm] at hcell hE hle ⊢
    have b0 : ((m : Int) == 0) = false := beq_eq_false_iff_ne.2 (by omega)
    obtain ⟨m1, hm1⟩ : ∃ m1, m1 = m - 1 := ⟨_, rfl⟩
    rw [← hm1] at hcell
    have i1 : (m : Int) - 1 = (m1 : Int) := by omega
    have i2 : (m1 : Int) < (m : Int) := by omega
    have i3 : (0 : Int) ≤ (m1 : Int) := by omega
    clear o1 heq b1 HC hm hEl hm1 hne hx
    go_wp2
    go_ret2
    exact ⟨E, by rw [HNE.out, ← HX.out]; rfl, HQ.out, HB.out⟩
set_option maxHeartbeats 1000000 in
set_option maxRecDepth 100000 in
theorem takesA_any (so : Option Addr) (sc n : Nat) (L : List St) (s f : Int) (co : Option Addr) (cl cc : Nat) (c : List Int) (w : World) (hn : n = L.length) (hs : RdS w so L) (hnm : n ≤ most) (he : eS L ≤ 1000000) (hf : fS L ≤ 1000000) (hc : RdI w co c) (hcl : cl = c.length) (hcm : cl ≤ 1000000) :
    Calls Tryd.prog 19 #[.agg #[.slice so n sc, .int .i64 s, .int .i64 f], .slice co cl cc] w fun e w' => TakA w L s f c e w' := by
  have HC := hid (longA_any so sc n L s f co cl cc c 0 (w.alloc (.cells #[.slice so n sc, .int .i64 s, .int .i64 f] 28)) hn (hs.below below_box) hnm he hf (hc.below below_box) hcl hcm)
  have HCL := hid hcl
  clear hs hc hn hcl hnm he hf
  go_enter Tryd.func19, Tryd.ntmps19
  go_wp2_with fail
  refine HC.out.mono ?_
  rintro e w1 ⟨E, rfl, heq, b1⟩
  have HB := hid (box_trans (show Below (w.heap.size + 1) (w.alloc (.cells #[.slice so n sc, .int .i64 s, .int .i64 f] 28)) w1 by simpa using b1))
  have HQ := hid heq
  obtain ⟨x, hx⟩ : ∃ x, x = E.getLastD 0 := ⟨_, rfl⟩
  rw [← hx]
  have HX := hid hx
  clear heq b1 HC hx
  rcases bool_cases E.isEmpty with h | h
  · rw [h]
    have HH := hid h
    clear h
    go_wp2
    go_ret
    exact ⟨E, by rw [HH.out]; rfl, HQ.out, HB.out⟩
  · rw [h]
    have HH := hid h
    clear h
    go_wp2
    go_ret
    exact ⟨E, by rw [HH.out, ← HX.out, ← HCL.out]; rfl, HQ.out, HB.out⟩
set_option maxHeartbeats 1000000 in
set_option maxRecDepth 100000 in
theorem rtakesA_any (so : Option Addr) (sc n : Nat) (L : List St) (s f : Int) (co : Option Addr) (cl cc : Nat) (c : List Int) (w : World) (hn : n = L.length) (hs : RdS w so L) (hnm : n ≤ most) (hc : RdI w co c) (hcl : cl = c.length) (hcm : cl ≤ 1000000) :
    Calls Tryd.prog 33 #[.agg #[.slice so n sc, .int .i64 s, .int .i64 f], .slice co cl cc] w fun e w' => TakA w L s f c e w' := by
  have HC := hid (rendsA_any so sc n L s f co cl cc c 0 (w.alloc (.cells #[.slice so n sc, .int .i64 s, .int .i64 f] 28)) hn (hs.below below_box) hnm (hc.below below_box) hcl hcm)
  have HCL := hid hcl
  clear hs hc hn hcl hnm
  go_enter Tryd.func33, Tryd.ntmps33
  go_wp2_with fail
  refine HC.out.mono ?_
  rintro e w1 ⟨E, vo, vc, rfl, o1, heq, b1⟩
  have HB := hid (box_trans (show Below (w.heap.size + 1) (w.alloc (.cells #[.slice so n sc, .int .i64 s, .int .i64 f] 28)) w1 by simpa using b1))
  have HQ := hid heq
  have hEl := heq.len
  have hle : E.length ≤ 1000001 := by have := HCL.out; omega
  by_cases hE : E.length = 0
  · have hE' : E = [] := List.eq_nil_of_length_eq_zero hE
    subst hE'
    clear o1 heq b1 HC
    go_wp2
    go_ret
    exact ⟨[], rfl, HQ.out, HB.out⟩
  · obtain ⟨g, rfl, _, _, hcell⟩ := own_at o1 (last_at (E := E) (by omega))
    have hne : E.isEmpty = false := by cases E with
      | nil => simp at hE
      | cons x l => rfl
    have HNE := hid hne
    obtain ⟨x, hx⟩ : ∃ x, x = E.getLastD 0 := ⟨_, rfl⟩
    rw [← hx] at hcell
    have HX := hid hx
    obtain ⟨m, hm⟩ : ∃ m, m = E.length := ⟨_, rfl⟩
    rw [← hm] at hcell hE hle ⊢
    have b0 : (0 : Int) < (m : Int) := by omega
    obtain ⟨m1, hm1⟩ : ∃ m1, m1 = m - 1 := ⟨_, rfl⟩
    rw [← hm1] at hcell
    have i1 : (m : Int) - 1 = (m1 : Int) := by omega
    have i2 : (m1 : Int) < (m : Int) := by omega
    have i3 : (0 : Int) ≤ (m1 : Int) := by omega
    clear o1 heq b1 HC hm hEl hm1 hne hx
    go_wp2
    go_ret
    exact ⟨E, by rw [HNE.out, ← HX.out, ← HCL.out]; rfl, HQ.out, HB.out⟩
end Go.Proofs.YteacehfihogmpaaDoor
/- Regions that draw their order, gone through in an order of one's own, where a store may come ahead of a read that it does not touch: S holds as long as no final operation has run, T always. -/
namespace Go.Proofs.YteacehfihogmpaaDoor

section
variable {P : Program} {ops : Array Oper} {Q : Exit → Act → World → Prop} {md : Region.Mode} {S T : World → Prop} {fin : Nat → Bool}

def Clean (fin : Nat → Bool) (listed : Array Bool) : Prop := ∀ j, fin j = true → listed.getD j false = false
theorem Clean.of_set {listed : Array Bool} {i : Nat} (h : Clean fin (listed.setIfInBounds i true)) : Clean fin listed := fun j hj => by
  have h5 := h j hj
  by_cases e : i = j
  · subst e
    rcases Nat.lt_or_ge i listed.size with h' | h'
    · simp [h'] at h5
    · simp [Array.getElem?_eq_none h']
  · rw [getD_set_ne false e] at h5; exact h5
theorem Clean.set {listed : Array Bool} {i : Nat} (h : Clean fin listed) (hf : fin i = false) : Clean fin (listed.setIfInBounds i true) := fun j hj => by
  by_cases e : i = j
  · subst e; rw [hf] at hj; cases hj
  · rw [getD_set_ne false e]; exact h j hj
def anyU (P : Program) (md : Region.Mode) (ops : Array Oper) (Q : Exit → Act → World → Prop) (S T : World → Prop) (fin : Nat → Bool) : Nat → Array Bool → Act → World → Prop
  | 0, listed, a, w => Region.ready md ops listed = [] ∧ Q .normal a w
  | f + 1, listed, a, w => (Region.ready md ops listed = [] → Q .normal a w) ∧
      ∀ i ∈ Region.ready md ops listed, wpOp P ops Q i (fun a' w' => ((Clean fin (listed.setIfInBounds i true) → S w') ∧ T w') ∧ anyU P md ops Q S T fin f (listed.setIfInBounds i true) a' w') a w
theorem anyU_any : ∀ (f : Nat) (listed : Array Bool) (a : Act) (w : World), anyU P md ops Q S T fin f listed a w → wpAny P md ops Q f listed a w
  | 0, _, _, _, h => h
  | f + 1, _, _, _, h => ⟨h.1, fun i hi => wpOp_mono (fun a' w' h' => anyU_any f _ a' w' h'.2) (h.2 i hi)⟩

/-- An operation that yields the same wherever R holds; R follows from what stands at every list at which it may still come up. -/
theorem anyU_first {R : World → Prop} {i : Nat} {oi : Oper} {v : Value} (C : Array Bool → Prop) (hi : ops[i]? = some oi) (hfi : fin i = false) (hsel : ∀ (j : Nat) (o : Oper) cs b, ops[j]? = some o → o.op ≠ .select cs b)
    (hQ : ∀ c a w, Q (.panic c) (a.put oi.dst v) w → Q (.panic c) a w) (hC : ∀ listed j oj, C listed → ops[j]? = some oj → (∀ e ∈ oj.after, Region.binds md e = true → e.on ≠ i) → C (listed.setIfInBounds j true))
    (hR : ∀ listed w, C listed → (Clean fin listed → S w) → T w → R w) :
    ∀ (f : Nat) (listed : Array Bool) (a : Act) (w : World), C listed →
      (∀ j oj, ops[j]? = some oj → j ≠ i → listed.getD j true = false → (∀ e ∈ oj.after, Region.binds md e = true → e.on ≠ i) → oi.apart ops oj = true) →
      i ∈ Region.ready md ops listed → YieldsIf P ops R oi v a → (Clean fin listed → S w) → T w →
      anyU P md ops Q S T fin f (listed.setIfInBounds i true) (a.put oi.dst v) w → anyU P md ops Q S T fin (f + 1) listed a w := by
  intro f
  induction f with
  | zero =>
    intro listed a w hc _ hr hy hS hT H
    refine ⟨fun h => (by rw [h] at hr; cases hr), fun j hj => ?_⟩
    by_cases hji : j = i
    · subst hji; exact hy.wpOp hi (hR _ _ hc hS hT) ⟨⟨fun h => hS h.of_set, hT⟩, H⟩
    · have h9 := ready_mono hj hji
      rw [H.1] at h9
      cases h9
  | succ f ih =>
    intro listed a w hc hfree hr hy hS hT H
    refine ⟨fun h => (by rw [h] at hr; cases hr), fun j hj => ?_⟩
    by_cases hji : j = i
    · subst hji; exact hy.wpOp hi (hR _ _ hc hS hT) ⟨⟨fun h => hS h.of_set, hT⟩, H⟩
    · have h1 := H.2 j (ready_mono hj hji)
      obtain ⟨hjun, oj, hoj, hall⟩ := mem_ready.1 hj
      have hnot : ∀ e ∈ oj.after, Region.binds md e = true → e.on ≠ i := fun e he hb heq => by
        have h5 := hall e he hb
        have h0 := (mem_ready.1 hr).1
        rw [heq] at h5
        rcases Nat.lt_or_ge i listed.size with h' | h'
        · simp [h'] at h0 h5; rw [h0] at h5; cases h5
        · simp [Array.getElem?_eq_none h'] at h5
      have h2 := wpOp_putIf hoj (hfree j oj hoj hji hjun hnot) (fun cs b => hsel i oi cs b hi) (fun cs b => hsel j oj cs b hoj) hQ hy h1
      have hfree' : ∀ k ok, ops[k]? = some ok → k ≠ i → (listed.setIfInBounds j true).getD k true = false →
          (∀ e ∈ ok.after, Region.binds md e = true → e.on ≠ i) → oi.apart ops ok = true := fun k ok hk hki hun hno => by
        refine hfree k ok hk hki ?_ hno
        by_cases hjk : j = k
        · subst hjk; exact hjun
        · rw [getD_set_ne true hjk] at hun; exact hun
      refine wpOp_mono (fun a' w' h3 => ?_) h2
      have hcl : Clean fin (listed.setIfInBounds j true) → S w' := fun h => h3.2.1.1 (by rw [Array.setIfInBounds_comm _ _ (Ne.symm hji)]; exact h.set hfi)
      refine ⟨⟨hcl, h3.2.1.2⟩, ih (listed.setIfInBounds j true) a' w' (hC _ _ _ hc hoj hnot) hfree' (ready_mono hr (Ne.symm hji)) h3.1 hcl h3.2.1.2 ?_⟩
      rw [Array.setIfInBounds_comm _ _ hji]
      exact h3.2.2

def Region.mixC (md : Region.Mode) (ops : Array Oper) (fin : Nat → Bool) : Bool → List (Nat × Nat) → Array Bool → Bool
  | _, [], listed => Region.ready md ops listed == []
  | d, (k, 0) :: r, listed => !d && (Region.ready md ops listed).contains k && Region.free md ops listed k && Region.finB md ops fin k && Region.mixC md ops fin d r (listed.setIfInBounds k true)
  | d, (k, 1) :: r, listed => (Region.ready md ops listed).contains k && Region.free md ops listed k && !fin k && Region.mixC md ops fin d r (listed.setIfInBounds k true)
  | d, (k, _ + 2) :: r, listed => (Region.ready md ops listed == [k]) && Region.mixC md ops fin (d || fin k) r (listed.setIfInBounds k true)
def wpMixC (P : Program) (ops : Array Oper) (Q : Exit → Act → World → Prop) (S T : World → Prop) (fin : Nat → Bool) : Bool → List (Nat × Nat) → Act → World → Prop
  | _, [], a, w => Q .normal a w
  | d, (k, 0) :: r, a, w => ∃ o v, ops[k]? = some o ∧ YieldsIf P ops S o v a ∧ wpMixC P ops Q S T fin d r (a.put o.dst v) w
  | d, (k, 1) :: r, a, w => ∃ o v, ops[k]? = some o ∧ YieldsIf P ops T o v a ∧ wpMixC P ops Q S T fin d r (a.put o.dst v) w
  | d, (k, _ + 2) :: r, a, w => ∃ o, ops[k]? = some o ∧ if Region.wanted o (yielded ops a.tmps) = true then o.wp P a w (fun a' w' => (((d || fin k) = false → S w') ∧ T w') ∧ wpMixC P ops Q S T fin (d || fin k) r a' w') Q else (((d || fin k) = false → S w) ∧ T w) ∧ wpMixC P ops Q S T fin (d || fin k) r (a.put o.dst undef) w
theorem anyU_mix (hsel : Region.noSelect ops = true) (hs : ∀ j, fin j = true → j < ops.size) (hQ : ∀ c (a : Act) d v w, Q (.panic c) (a.put d v) w → Q (.panic c) a w) :
    ∀ (l : List (Nat × Nat)) (d : Bool) (listed : Array Bool) (a : Act) (w : World), Region.mixC md ops fin d l listed = true → (d = false ↔ Clean fin listed) → (Clean fin listed → S w) → T w → wpMixC P ops Q S T fin d l a w → anyU P md ops Q S T fin l.length listed a w
  | [], d, listed, a, w, hB, _, _, _, h => ⟨by simpa [Region.mixC] using hB, h⟩
  | (k, 0) :: r, d, listed, a, w, hB, hd, hS, hT, h => by
    simp only [Region.mixC, Bool.and_eq_true, Bool.not_eq_true'] at hB
    obtain ⟨⟨⟨⟨hd0, hr⟩, hf⟩, hfb⟩, hB'⟩ := hB
    obtain ⟨hf1, hf2⟩ := finB_spec hs hfb
    obtain ⟨o, v, h0, hy, hK⟩ := h
    have hcl := hd.1 hd0
    refine anyU_first (R := S) (Clean fin) h0 hf1 (Region.noSelect_spec hsel) (fun c a w => hQ c a _ _ w) (fun ls j oj hc hoj hno => hc.set ?_) (fun _ w hc hS _ => hS hc) r.length listed a w hcl (Region.free_spec h0 hf) (by simpa using hr) hy hS hT
      (anyU_mix hsel hs hQ r d _ _ w hB' ⟨fun _ => hcl.set hf1, fun _ => hd0⟩ (fun h => hS h.of_set) hT hK)
    cases hfj : fin j with
    | false => rfl
    | true =>
      obtain ⟨ok, hok, e, he, hb, heq⟩ := Region.waitsFor_spec (hf2 j hfj)
      rw [hoj] at hok
      cases hok
      exact absurd heq (hno e he hb)
  | (k, 1) :: r, d, listed, a, w, hB, hd, hS, hT, h => by
    simp only [Region.mixC, Bool.and_eq_true, Bool.not_eq_true'] at hB
    obtain ⟨⟨⟨hr, hf⟩, hf1⟩, hB'⟩ := hB
    obtain ⟨o, v, h0, hy, hK⟩ := h
    exact anyU_first (R := T) (fun _ => True) h0 hf1 (Region.noSelect_spec hsel) (fun c a w => hQ c a _ _ w) (fun _ _ _ _ _ _ => trivial) (fun _ _ _ _ hT => hT) r.length listed a w trivial (Region.free_spec h0 hf) (by simpa using hr) hy hS hT
      (anyU_mix hsel hs hQ r d _ _ w hB' ⟨fun h => (hd.1 h).set hf1, fun h => hd.2 h.of_set⟩ (fun h => hS h.of_set) hT hK)
  | (k, m + 2) :: r, d, listed, a, w, hB, hd, hS, hT, h => by
    simp only [Region.mixC, Bool.and_eq_true, beq_iff_eq] at hB
    obtain ⟨hr, hB'⟩ := hB
    obtain ⟨o, h0, h⟩ := h
    refine ⟨fun h1 => (by rw [hr] at h1; cases h1), fun i hi => ?_⟩
    have hkr := hi
    rw [hr] at hi
    have hik : i = k := by simpa using hi
    subst hik
    have hlt : i < listed.size := by
      have h5 := (mem_ready.1 hkr).1
      rcases Nat.lt_or_ge i listed.size with h' | h'
      · exact h'
      · simp [Array.getElem?_eq_none h'] at h5
    have hdc : (d || fin i) = false ↔ Clean fin (listed.setIfInBounds i true) := by
      constructor
      · intro h5
        rw [Bool.or_eq_false_iff] at h5
        exact (hd.1 h5.1).set h5.2
      · intro h5
        rw [Bool.or_eq_false_iff]
        refine ⟨hd.2 h5.of_set, ?_⟩
        cases hfi : fin i with
        | false => rfl
        | true =>
          have h6 := h5 i hfi
          simp [hlt] at h6
    have hw : wpOp P ops Q i (fun a' w' => (((d || fin i) = false → S w') ∧ T w') ∧ wpMixC P ops Q S T fin (d || fin i) r a' w') a w := by
      unfold wpOp
      simp only [h0]
      split
      · rename_i hc
        rw [if_pos hc] at h
        exact .inl h
      · rename_i hc
        rw [if_neg hc] at h
        exact h
    exact wpOp_mono (fun a' w' h' => ⟨⟨fun h5 => h'.1.1 (hdc.2 h5), h'.1.2⟩, anyU_mix hsel hs hQ r _ _ a' w' hB' hdc (fun h5 => h'.1.1 (hdc.2 h5)) h'.1.2 h'.2⟩) hw
/-- The law. -/
theorem wp_region_mixC {id : Nat} {a : Act} {w : World} {l : List Oper} (ord : List (Nat × Nat)) (S T : World → Prop) (fin : Nat → Bool) (hm : P.follows .mixedOrders = true) (hsel : Region.noSelect l.toArray = true) (hs : ∀ j, fin j = true → j < l.length)
    (hlen : ord.length = l.length) (hB : Region.mixC .any l.toArray fin false ord (Array.replicate l.length false) = true) (hS : S w.drew) (hT : T w.drew)
    (h : wpMixC P l.toArray (NoPanic Q) S T fin false ord a w.drew) : (Code.region id l.toArray true).wp P Q a w := by
  refine wp_region_noPanic (wp_region_any hm (anyU_any (S := S) (T := T) (fin := fin) _ _ _ _ ?_))
  have H := anyU_mix (P := P) (ops := l.toArray) (Q := NoPanic Q) (md := .any) (S := S) (T := T) (fin := fin) hsel (by simpa using hs) (fun _ _ _ _ _ h => h) ord false (Array.replicate l.length false) a w.drew hB
    ⟨fun _ j hj => (by have h5 := hs j hj; simp [h5]), fun _ => rfl⟩ (fun _ => hS) hT h
  rw [hlen] at H
  simpa using H
theorem mixC_s {d : Bool} {o : Oper} {k : Nat} {r : List (Nat × Nat)} {a : Act} {w : World} (v : Value) (h0 : ops[k]? = some o) (hw : Region.wanted o (yielded ops a.tmps) = true) (h1 : ∀ w, S w → (execOp a.eval o).run P w = .ok (.value v) w) (h2 : wpMixC P ops Q S T fin d r (a.put o.dst v) w) : wpMixC P ops Q S T fin d ((k, 0) :: r) a w :=
  ⟨o, v, h0, .inl ⟨hw, h1⟩, h2⟩
theorem mixC_t {d : Bool} {o : Oper} {k : Nat} {r : List (Nat × Nat)} {a : Act} {w : World} (v : Value) (h0 : ops[k]? = some o) (hw : Region.wanted o (yielded ops a.tmps) = true) (h1 : ∀ w, T w → (execOp a.eval o).run P w = .ok (.value v) w) (h2 : wpMixC P ops Q S T fin d r (a.put o.dst v) w) : wpMixC P ops Q S T fin d ((k, 1) :: r) a w :=
  ⟨o, v, h0, .inl ⟨hw, h1⟩, h2⟩
theorem mixC_go {d : Bool} {o : Oper} {k : Nat} {r : List (Nat × Nat)} {a : Act} {w : World} (h0 : ops[k]? = some o) (hw : Region.wanted o (yielded ops a.tmps) = true) (h : ∀ K : Act → World → Prop, (∀ a w, ((d || fin k) = false → S w) → T w → wpMixC P ops Q S T fin (d || fin k) r a w → K a w) → o.wp P a w K Q) : wpMixC P ops Q S T fin d ((k, 2) :: r) a w := by
  refine ⟨o, h0, ?_⟩
  rw [if_pos hw]
  exact h _ fun _ _ h1 h2 h3 => ⟨⟨h1, h2⟩, h3⟩
theorem mixC_end {d : Bool} {a : Act} {w : World} (h : Q .normal a w) : wpMixC P ops Q S T fin d [] a w := h
end
end Go.Proofs.YteacehfihogmpaaDoor
/- A region that draws, gone through by hand also where two operations may come first. -/
namespace Go.Proofs.YteacehfihogmpaaDoor

/-- The orders that are gone through: one operation next (mode 0: S holds, 1: T holds, 2: by hand), or either of two by hand. -/
inductive Ot where
  | nil : Ot
  | one : Nat → Nat → Ot → Ot
  | two : Nat → Nat → Ot → Ot → Ot
def Ot.len : Ot → Nat
  | .nil => 0
  | .one _ _ r => r.len + 1
  | .two _ _ r _ => r.len + 1
section
variable {P : Program} {md : Region.Mode} {ops : Array Oper} {Q : Exit → Act → World → Prop} {S T : World → Prop} {fin : Nat → Bool}
def Region.mixT (md : Region.Mode) (ops : Array Oper) (fin : Nat → Bool) : Bool → Ot → Array Bool → Bool
  | _, .nil, listed => Region.ready md ops listed == []
  | d, .one k 0 r, listed => !d && (Region.ready md ops listed).contains k && Region.free md ops listed k && Region.finB md ops fin k && Region.mixT md ops fin d r (listed.setIfInBounds k true)
  | d, .one k 1 r, listed => (Region.ready md ops listed).contains k && Region.free md ops listed k && !fin k && Region.mixT md ops fin d r (listed.setIfInBounds k true)
  | d, .one k (_ + 2) r, listed => (Region.ready md ops listed == [k]) && Region.mixT md ops fin (d || fin k) r (listed.setIfInBounds k true)
  | d, .two i j r s, listed => (Region.ready md ops listed == [i, j]) && (r.len == s.len) && Region.mixT md ops fin (d || fin i) r (listed.setIfInBounds i true) && Region.mixT md ops fin (d || fin j) s (listed.setIfInBounds j true)
/-- One operation, by hand. -/
def wpHand (P : Program) (ops : Array Oper) (Q : Exit → Act → World → Prop) (S T : World → Prop) (fin : Nat → Bool) (d : Bool) (k : Nat) (K : Act → World → Prop) (a : Act) (w : World) : Prop :=
  ∃ o, ops[k]? = some o ∧ if Region.wanted o (yielded ops a.tmps) = true then o.wp P a w (fun a' w' => (((d || fin k) = false → S w') ∧ T w') ∧ K a' w') Q else (((d || fin k) = false → S w) ∧ T w) ∧ K (a.put o.dst undef) w
def wpMixT (P : Program) (ops : Array Oper) (Q : Exit → Act → World → Prop) (S T : World → Prop) (fin : Nat → Bool) : Bool → Ot → Act → World → Prop
  | _, .nil, a, w => Q .normal a w
  | d, .one k 0 r, a, w => ∃ o v, ops[k]? = some o ∧ YieldsIf P ops S o v a ∧ wpMixT P ops Q S T fin d r (a.put o.dst v) w
  | d, .one k 1 r, a, w => ∃ o v, ops[k]? = some o ∧ YieldsIf P ops T o v a ∧ wpMixT P ops Q S T fin d r (a.put o.dst v) w
  | d, .one k (_ + 2) r, a, w => wpHand P ops Q S T fin d k (wpMixT P ops Q S T fin (d || fin k) r) a w
  | d, .two i j r s, a, w => wpHand P ops Q S T fin d i (wpMixT P ops Q S T fin (d || fin i) r) a w ∧ wpHand P ops Q S T fin d j (wpMixT P ops Q S T fin (d || fin j) s) a w
theorem hand_any {d : Bool} {listed : Array Bool} {i f : Nat} {K : Act → World → Prop} {a : Act} {w : World} (hkr : i ∈ Region.ready md ops listed) (hd : d = false ↔ Clean fin listed) (h : wpHand P ops Q S T fin d i K a w)
    (nx : ((d || fin i) = false ↔ Clean fin (listed.setIfInBounds i true)) → ∀ a' w', (Clean fin (listed.setIfInBounds i true) → S w') → T w' → K a' w' → anyU P md ops Q S T fin f (listed.setIfInBounds i true) a' w') :
    wpOp P ops Q i (fun a' w' => ((Clean fin (listed.setIfInBounds i true) → S w') ∧ T w') ∧ anyU P md ops Q S T fin f (listed.setIfInBounds i true) a' w') a w := by
  obtain ⟨o, h0, h⟩ := h
  have hlt : i < listed.size := by
    have h5 := (mem_ready.1 hkr).1
    rcases Nat.lt_or_ge i listed.size with h' | h'
    · exact h'
    · simp [Array.getElem?_eq_none h'] at h5
  have hdc : (d || fin i) = false ↔ Clean fin (listed.setIfInBounds i true) := by
    constructor
    · intro h5
      rw [Bool.or_eq_false_iff] at h5
      exact (hd.1 h5.1).set h5.2
    · intro h5
      rw [Bool.or_eq_false_iff]
      refine ⟨hd.2 h5.of_set, ?_⟩
      cases hfi : fin i with
      | false => rfl
      | true =>
        have h6 := h5 i hfi
        simp [hlt] at h6
  have hw : wpOp P ops Q i (fun a' w' => (((d || fin i) = false → S w') ∧ T w') ∧ K a' w') a w := by
    unfold wpOp
    simp only [h0]
    split
    · rename_i hc
      rw [if_pos hc] at h
      exact .inl h
    · rename_i hc
      rw [if_neg hc] at h
      exact h
  exact wpOp_mono (fun a' w' h' => ⟨⟨fun h5 => h'.1.1 (hdc.2 h5), h'.1.2⟩, nx hdc a' w' (fun h5 => h'.1.1 (hdc.2 h5)) h'.1.2 h'.2⟩) hw
theorem anyU_tree (hsel : Region.noSelect ops = true) (hs : ∀ j, fin j = true → j < ops.size) (hQ : ∀ c (a : Act) d v w, Q (.panic c) (a.put d v) w → Q (.panic c) a w) :
    ∀ (l : Ot) (d : Bool) (listed : Array Bool) (a : Act) (w : World), Region.mixT md ops fin d l listed = true → (d = false ↔ Clean fin listed) → (Clean fin listed → S w) → T w → wpMixT P ops Q S T fin d l a w → anyU P md ops Q S T fin l.len listed a w
  | .nil, d, listed, a, w, hB, _, _, _, h => ⟨by simpa [Region.mixT] using hB, h⟩
  | .one k 0 r, d, listed, a, w, hB, hd, hS, hT, h => by
    simp only [Region.mixT, Bool.and_eq_true, Bool.not_eq_true'] at hB
    obtain ⟨⟨⟨⟨hd0, hr⟩, hf⟩, hfb⟩, hB'⟩ := hB
    obtain ⟨hf1, hf2⟩ := finB_spec hs hfb
    obtain ⟨o, v, h0, hy, hK⟩ := h
    have hcl := hd.1 hd0
    refine anyU_first (R := S) (Clean fin) h0 hf1 (Region.noSelect_spec hsel) (fun c a w => hQ c a _ _ w) (fun ls j oj hc hoj hno => hc.set ?_) (fun _ w hc hS _ => hS hc) r.len listed a w hcl (Region.free_spec h0 hf) (by simpa using hr) hy hS hT
      (anyU_tree hsel hs hQ r d _ _ w hB' ⟨fun _ => hcl.set hf1, fun _ => hd0⟩ (fun h => hS h.of_set) hT hK)
    cases hfj : fin j with
    | false => rfl
    | true =>
      obtain ⟨ok, hok, e, he, hb, heq⟩ := Region.waitsFor_spec (hf2 j hfj)
      rw [hoj] at hok
      cases hok
      exact absurd heq (hno e he hb)
  | .one k 1 r, d, listed, a, w, hB, hd, hS, hT, h => by
    simp only [Region.mixT, Bool.and_eq_true, Bool.not_eq_true'] at hB
    obtain ⟨⟨⟨hr, hf⟩, hf1⟩, hB'⟩ := hB
    obtain ⟨o, v, h0, hy, hK⟩ := h
    exact anyU_first (R := T) (fun _ => True) h0 hf1 (Region.noSelect_spec hsel) (fun c a w => hQ c a _ _ w) (fun _ _ _ _ _ _ => trivial) (fun _ _ _ _ hT => hT) r.len listed a w trivial (Region.free_spec h0 hf) (by simpa using hr) hy hS hT
      (anyU_tree hsel hs hQ r d _ _ w hB' ⟨fun h => (hd.1 h).set hf1, fun h => hd.2 h.of_set⟩ (fun h => hS h.of_set) hT hK)
  | .one k (m + 2) r, d, listed, a, w, hB, hd, hS, hT, h => by
    simp only [Region.mixT, Bool.and_eq_true, beq_iff_eq] at hB
    obtain ⟨hr, hB'⟩ := hB
    refine ⟨fun h1 => (by rw [hr] at h1; cases h1), fun i hi => ?_⟩
    have hik : i = k := by rw [hr] at hi; simpa using hi
    subst hik
    exact hand_any hi hd h (fun hdc a' w' h1 h2 h3 => anyU_tree hsel hs hQ r _ _ a' w' hB' hdc h1 h2 h3)
  | .two i j r s, d, listed, a, w, hB, hd, hS, hT, h => by
    simp only [Region.mixT, Bool.and_eq_true, beq_iff_eq] at hB
    obtain ⟨⟨⟨hr, hl⟩, hB1⟩, hB2⟩ := hB
    obtain ⟨g1, g2⟩ := h
    refine ⟨fun h1 => (by rw [hr] at h1; cases h1), fun k hk => ?_⟩
    have hkk : k = i ∨ k = j := by rw [hr] at hk; simpa using hk
    rcases hkk with e | e
    · subst e
      exact hand_any hk hd g1 (fun hdc a' w' h1 h2 h3 => anyU_tree hsel hs hQ r _ _ a' w' hB1 hdc h1 h2 h3)
    · subst e
      refine hand_any hk hd g2 (fun hdc a' w' h1 h2 h3 => ?_)
      have h5 := anyU_tree hsel hs hQ s _ _ a' w' hB2 hdc h1 h2 h3
      rw [← hl] at h5
      exact h5
/-- The law. -/
theorem wp_region_mixT {id : Nat} {a : Act} {w : World} {l : List Oper} (ord : Ot) (S T : World → Prop) (fin : Nat → Bool) (hm : P.follows .mixedOrders = true) (hsel : Region.noSelect l.toArray = true) (hs : ∀ j, fin j = true → j < l.length)
    (hlen : ord.len = l.length) (hB : Region.mixT .any l.toArray fin false ord (Array.replicate l.length false) = true) (hS : S w.drew) (hT : T w.drew)
    (h : wpMixT P l.toArray (NoPanic Q) S T fin false ord a w.drew) : (Code.region id l.toArray true).wp P Q a w := by
  refine wp_region_noPanic (wp_region_any hm (anyU_any (S := S) (T := T) (fin := fin) _ _ _ _ ?_))
  have H := anyU_tree (P := P) (ops := l.toArray) (Q := NoPanic Q) (md := .any) (S := S) (T := T) (fin := fin) hsel (by simpa using hs) (fun _ _ _ _ _ h => h) ord false (Array.replicate l.length false) a w.drew hB
    ⟨fun _ j hj => (by have h5 := hs j hj; simp [h5]), fun _ => rfl⟩ (fun _ => hS) hT h
  rw [hlen] at H
  simpa using H
theorem mixT_s {d : Bool} {o : Oper} {k : Nat} {r : Ot} {a : Act} {w : World} (v : Value) (h0 : ops[k]? = some o) (hw : Region.wanted o (yielded ops a.tmps) = true) (h1 : ∀ w, S w → (execOp a.eval o).run P w = .ok (.value v) w) (h2 : wpMixT P ops Q S T fin d r (a.put o.dst v) w) : wpMixT P ops Q S T fin d (.one k 0 r) a w :=
  ⟨o, v, h0, .inl ⟨hw, h1⟩, h2⟩
theorem mixT_t {d : Bool} {o : Oper} {k : Nat} {r : Ot} {a : Act} {w : World} (v : Value) (h0 : ops[k]? = some o) (hw : Region.wanted o (yielded ops a.tmps) = true) (h1 : ∀ w, T w → (execOp a.eval o).run P w = .ok (.value v) w) (h2 : wpMixT P ops Q S T fin d r (a.put o.dst v) w) : wpMixT P ops Q S T fin d (.one k 1 r) a w :=
  ⟨o, v, h0, .inl ⟨hw, h1⟩, h2⟩
theorem hand_go {d : Bool} {o : Oper} {k : Nat} {K : Act → World → Prop} {a : Act} {w : World} (h0 : ops[k]? = some o) (hw : Region.wanted o (yielded ops a.tmps) = true) (h : ∀ K' : Act → World → Prop, (∀ a w, ((d || fin k) = false → S w) → T w → K a w → K' a w) → o.wp P a w K' Q) : wpHand P ops Q S T fin d k K a w := by
  refine ⟨o, h0, ?_⟩
  rw [if_pos hw]
  exact h _ fun _ _ h1 h2 h3 => ⟨⟨h1, h2⟩, h3⟩
theorem mixT_go {d : Bool} {o : Oper} {k : Nat} {r : Ot} {a : Act} {w : World} (h0 : ops[k]? = some o) (hw : Region.wanted o (yielded ops a.tmps) = true) (h : ∀ K : Act → World → Prop, (∀ a w, ((d || fin k) = false → S w) → T w → wpMixT P ops Q S T fin (d || fin k) r a w → K a w) → o.wp P a w K Q) : wpMixT P ops Q S T fin d (.one k 2 r) a w :=
  hand_go h0 hw h
theorem mixT_two {d : Bool} {i j : Nat} {r s : Ot} {a : Act} {w : World} (h1 : wpHand P ops Q S T fin d i (wpMixT P ops Q S T fin (d || fin i) r) a w) (h2 : wpHand P ops Q S T fin d j (wpMixT P ops Q S T fin (d || fin j) s) a w) : wpMixT P ops Q S T fin d (.two i j r s) a w := ⟨h1, h2⟩
theorem mixT_end {d : Bool} {a : Act} {w : World} (h : Q .normal a w) : wpMixT P ops Q S T fin d .nil a w := h
end
end Go.Proofs.YteacehfihogmpaaDoor
/- The contracts of ints and Same (the document's): two automata that read as the same one. -/
namespace Go.Proofs.YteacehfihogmpaaDoor
open Go.RowKit

set_option maxHeartbeats 1000000 in
set_option maxRecDepth 100000 in
/-- Two lists that are the same. -/
theorem rints_any (ao bo : Option Addr) (ac bc n : Nat) (l : List Int) (w : World) (ha : RdI w ao l) (hb : RdI w bo l) (hn : n = l.length) (hl : n ≤ most) :
    Calls Tryd.prog 60 #[.slice ao n ac, .slice bo n bc] w fun e w' => e = .returned (.bool true) ∧ Below w.heap.size w w' := by
  unfold most at hl
  have HA := hid ha
  have HB := hid hb
  have HN := hid hn
  clear ha hb hn
  go_enter Tryd.func60, Tryd.ntmps60
  go_wp2
  go_loopw [5] (fun i wr => ∃ k : Nat, k ≤ n ∧ i = .int .i64 k ∧ Hid (Below w.heap.size w wr)) (fun i _ => n - (intOf i).toNat)
  case atStart => exact ⟨0, by omega, rfl, Below.refl _ _⟩
  case round =>
    obtain ⟨k, hk, rfl, HBr⟩ := hrel
    by_cases hlt : k < n
    · have hkl : k < l.length := by have := HN.out; omega
      obtain ⟨a, rfl, _, a0⟩ := HA.out.below HBr.out k l[k] (List.getElem?_eq_getElem hkl)
      obtain ⟨b, rfl, _, b0⟩ := HB.out.below HBr.out k l[k] (List.getElem?_eq_getElem hkl)
      obtain ⟨x, hx⟩ : ∃ x, l[k] = x := ⟨_, rfl⟩
      rw [hx] at a0 b0
      have i3 : (k : Int) < (n : Int) := by omega
      clear hx hkl
      go_wp2_with fail
      go_region
      go_wp2
      go_roundw
      case rel => exact ⟨k + 1, by omega, by go_num, HBr.out.drew⟩
      case measure => simp [intOf]; omega
    · have i3 : ¬ (k : Int) < (n : Int) := by omega
      go_wp2
      go_ret
      exact ⟨rfl, HBr.out⟩
theorem two_box {w wr : World} {A B : Array Value} (h : Below (w.heap.size + 2) ((w.alloc (.cells A 28)).alloc (.cells B 28)) wr) : (∀ k, wr.cell? ⟨w.heap.size, k, none⟩ = A[k]?) ∧ ∀ k, wr.cell? ⟨w.heap.size + 1, k, none⟩ = B[k]? := by
  refine ⟨fun k => ?_, fun k => ?_⟩
  · have h1 : wr.heap[w.heap.size]? = some (.cells A 28) := by rw [h.block w.heap.size (by omega), al_old _ _ (by simp), al_new _ _ rfl]
    rw [cell_of_row wr w.heap.size k A 28 (0, 0) h1]
  · have h1 : wr.heap[w.heap.size + 1]? = some (.cells B 28) := by rw [h.block (w.heap.size + 1) (by omega), al_new _ _ (by simp)]
    rw [cell_of_row wr (w.heap.size + 1) k B 28 (0, 0) h1]
theorem two_low {w wr : World} {A B : Array Value} (h : Below (w.heap.size + 2) ((w.alloc (.cells A 28)).alloc (.cells B 28)) wr) : Below w.heap.size w wr :=
  (((Below.refl w.heap.size w).alloc (Nat.le_refl _) _).alloc (by simp) _).trans (h.mono (by omega))
theorem cell_bl {w w' : World} {p : Addr} {v : Value} (hb : Below w.heap.size w w') (h : w.cell? p = some v) : w'.cell? p = some v := (hb.cell (World.block_lt_of_cell? w p h)).trans h
set_option maxHeartbeats 8000000 in
set_option maxRecDepth 100000 in
theorem same_any (so to : Option Addr) (sc tc n : Nat) (L : List St) (s f : Int) (w : World) (hn : n = L.length) (hs : RdS w so L) (ht : RdS w to L) (hnm : n ≤ most) (hE : ∀ x ∈ L, x.1.length ≤ 1000000 ∧ x.2.length ≤ 1000000) :
    Calls Tryd.prog 15 #[.agg #[.slice so n sc, .int .i64 s, .int .i64 f], .agg #[.slice to n tc, .int .i64 s, .int .i64 f]] w fun e w' => e = .returned (.bool true) ∧ Below w.heap.size w w' := by
  have HN := hid hn
  have HS := hid hs
  have HT := hid ht
  have HE := hid hE
  unfold most at hnm
  have HB0 := hid (Below.refl (w.heap.size + 2) ((w.alloc (.cells #[.slice so n sc, .int .i64 s, .int .i64 f] 28)).alloc (.cells #[.slice to n tc, .int .i64 s, .int .i64 f] 28)))
  clear hn hs ht hE
  go_enter Tryd.func15, Tryd.ntmps15
  go_wp2
  go_loopw [5] (fun y wr => ∃ i : Nat, y = .int .i64 i ∧ i ≤ n ∧ Hid (Below (w.heap.size + 2) ((w.alloc (.cells #[.slice so n sc, .int .i64 s, .int .i64 f] 28)).alloc (.cells #[.slice to n tc, .int .i64 s, .int .i64 f] 28)) wr)) (fun y _ => n - (intOf y).toNat)
  case atStart => exact ⟨0, rfl, Nat.zero_le _, HB0⟩
  case round =>
    clear HB0
    obtain ⟨i, rfl, hi, HB⟩ := hrel
    have c0 : wr.cell? ⟨w.heap.size, 0, none⟩ = some (.slice so n sc) := (two_box HB.out).1 0
    have d0 : wr.cell? ⟨w.heap.size + 1, 0, none⟩ = some (.slice to n tc) := (two_box HB.out).2 0
    have hsz : w.heap.size + 2 ≤ wr.heap.size := by have := HB.out.size; simpa using this
    by_cases hlt : i < n
    · have i3 : (i : Int) < (n : Int) := by omega
      have i0 : (0 : Int) ≤ (i : Int) := by omega
      have hiL : i < L.length := by have := HN.out; omega
      obtain ⟨E, F, hEF⟩ : ∃ E F, L[i]? = some (E, F) := ⟨L[i].1, _, List.getElem?_eq_getElem hiL⟩
      obtain ⟨a, ea, hab, eo, ec, fo, fc, f0w, f1w, hE, hF, _, _⟩ := HS.out i (E, F) hEF
      obtain ⟨b, eb, hbb, go, gc, ho, hc, g0w, g1w, hG, hH, _, _⟩ := HT.out i (E, F) hEF
      have hlens := HE.out _ (List.mem_of_getElem? hEF)
      dsimp only at f0w f1w g0w g1w hlens hE hF hG hH
      have f0 := ((two_low HB.out).cell (p := a.add (i * 2)) (by rw [add_blk]; exact hab)).trans f0w
      have f1 := ((two_low HB.out).cell (p := ⟨(a.add (i * 2)).block, (a.add (i * 2)).off + 1, none⟩) (show (a.add (i * 2)).block < _ by rw [add_blk]; exact hab)).trans f1w
      have g0 := ((two_low HB.out).cell (p := b.add (i * 2)) (by rw [add_blk]; exact hbb)).trans g0w
      have g1 := ((two_low HB.out).cell (p := ⟨(b.add (i * 2)).block, (b.add (i * 2)).off + 1, none⟩) (show (b.add (i * 2)).block < _ by rw [add_blk]; exact hbb)).trans g1w
      subst ea
      subst eb
      obtain ⟨en, hen⟩ : ∃ en, en = E.length := ⟨_, rfl⟩
      obtain ⟨fn, hfn⟩ : ∃ fn, fn = F.length := ⟨_, rfl⟩
      rw [← hen] at f0 g0 hlens
      rw [← hfn] at f1 g1 hlens
      have HEN := hid hen
      have HFN := hid hfn
      have HER := hid hE
      have HFR := hid hF
      have HGR := hid hG
      have HHR := hid hH
      obtain ⟨hle1, hle2⟩ := hlens
      clear hen hfn hE hF hG hH f0w f1w g0w g1w hEF hab hbb hiL
      go_wp2_with fail
      refine wp_region_mixT (.one 0 1 (.one 1 1 (.one 2 1 (.one 3 1 (.one 4 1 (.one 5 1 (.one 6 1 (.one 7 1 (.one 8 1 (.one 9 1 (.two 10 11 (.one 11 2 (.one 12 2 (.one 13 2 .nil))) (.one 10 2 (.one 12 2 (.one 13 2 .nil)))))))))))))) (fun _ => True) (fun w' => w'.cell? ⟨w.heap.size, 0, none⟩ = some (.slice (some a) n sc) ∧ w'.cell? ⟨w.heap.size + 1, 0, none⟩ = some (.slice (some b) n tc) ∧ w'.cell? (a.add (i * 2)) = some (.slice eo en ec) ∧ w'.cell? ⟨(a.add (i * 2)).block, (a.add (i * 2)).off + 1, none⟩ = some (.slice fo fn fc) ∧ w'.cell? (b.add (i * 2)) = some (.slice go en gc) ∧ w'.cell? ⟨(b.add (i * 2)).block, (b.add (i * 2)).off + 1, none⟩ = some (.slice ho fn hc)) (fun _ => false) (by kernel_rfl) (by kernel_rfl) (fun j hj => by cases hj) rfl (by kernel_rfl) trivial ⟨c0, d0, f0, f1, g0, g1⟩ ?_
      iterate 10 (refine mixT_t ?_ rfl (by kernel_rfl) (fun w' hS => ?_) ?_; (rotate_left; (obtain ⟨s1, s2, s3, s4, s5, s6⟩ := hS; go_simp; with_reducible rfl); rotate_left))
      refine mixT_two ?x10 ?x11
      case x10 =>
        refine hand_go rfl (by kernel_rfl) fun KK hKK => ?_
        go_simp
        refine hKK _ _ (fun _ => trivial) ⟨cell_al c0, cell_al d0, cell_al f0, cell_al f1, cell_al g0, cell_al g1⟩ ?_
        clear hKK KK
        refine mixT_go rfl (by kernel_rfl) fun KK hKK => ?_
        go_simp
        refine hKK _ _ (fun _ => trivial) ⟨cell_al (cell_al c0), cell_al (cell_al d0), cell_al (cell_al f0), cell_al (cell_al f1), cell_al (cell_al g0), cell_al (cell_al g1)⟩ ?_
        clear hKK KK
        refine mixT_go rfl (by kernel_rfl) fun KK hKK => ?_
        go_simp
        refine hKK _ _ (fun _ => trivial) ⟨cell_al (cell_al c0), cell_al (cell_al d0), cell_al (cell_al f0), cell_al (cell_al f1), cell_al (cell_al g0), cell_al (cell_al g1)⟩ ?_
        clear hKK KK
        refine mixT_go rfl (by kernel_rfl) fun KK hKK => ?_
        go_simp
        refine hKK _ _ (fun _ => trivial) ⟨cell_al (cell_al c0), cell_al (cell_al d0), cell_al (cell_al f0), cell_al (cell_al f1), cell_al (cell_al g0), cell_al (cell_al g1)⟩ ?_
        clear hKK KK
        refine mixT_end (NoPanic.normal ?_)
        obtain ⟨q1, q2, bW⟩ := alloc2 wr (.cells #[.slice eo en ec, .slice fo fn fc] 86) (.cells #[.slice go en gc, .slice ho fn hc] 86)
        obtain ⟨W, hW⟩ : ∃ W, W = ((wr.alloc (.cells #[.slice eo en ec, .slice fo fn fc] 86)).alloc (.cells #[.slice go en gc, .slice ho fn hc] 86)).drew := ⟨_, rfl⟩
        rw [← hW] at q1 q2 bW
        rw [← hW]
        obtain ⟨z1, hz1⟩ : ∃ z, z = wr.heap.size + 1 := ⟨_, rfl⟩
        obtain ⟨z0, hz0⟩ : ∃ z, z = wr.heap.size := ⟨_, rfl⟩
        rw [← hz1] at q2
        rw [← hz1]
        rw [← hz0] at q1
        rw [← hz0]
        have HQ := hid (show W.heap[z0]? = some (.cells #[.slice eo en ec, .slice fo fn fc] 86) ∧ W.heap[z1]? = some (.cells #[.slice go en gc, .slice ho fn hc] 86) from ⟨q1, q2⟩)
        clear hW hz1 hz0 q1 q2 c0 d0 f0 f1 g0 g1
        have hszW : w.heap.size + 2 ≤ W.heap.size := by have := bW.size; omega
        have HBW := hid (HB.out.trans (bW.mono hsz))
        have x0 : W.cell? ⟨z0, 0, none⟩ = some (.slice eo en ec) := by rw [cell_of_row W z0 0 _ 86 (0, 0) HQ.out.1]; rfl
        have x1 : W.cell? ⟨z0, 1, none⟩ = some (.slice fo fn fc) := by rw [cell_of_row W z0 1 _ 86 (0, 0) HQ.out.1]; rfl
        have y0 : W.cell? ⟨z1, 0, none⟩ = some (.slice go en gc) := by rw [cell_of_row W z1 0 _ 86 (0, 0) HQ.out.2]; rfl
        have y1 : W.cell? ⟨z1, 1, none⟩ = some (.slice ho fn hc) := by rw [cell_of_row W z1 1 _ 86 (0, 0) HQ.out.2]; rfl
        have l6 : z0 < W.heap.size := lt_of HQ.out.1
        have l7 : z1 < W.heap.size := lt_of HQ.out.2
        clear bW HQ HB hsz
        go_wp2_with fail
        refine (rints_any fo ho fc hc fn F W (HFR.out.below (two_low HBW.out)) (HHR.out.below (two_low HBW.out)) HFN.out (by unfold most; omega)).mono ?_
        rintro e w3 ⟨rfl, b3⟩
        have HB3 := hid (HBW.out.trans (b3.mono hszW))
        have hs3 : w.heap.size + 2 ≤ w3.heap.size := by have := b3.size; omega
        have HX := hid ((b3.cell (p := ⟨z0, 0, none⟩) l6).trans x0)
        have HY := hid ((b3.cell (p := ⟨z1, 0, none⟩) l7).trans y0)
        have HL6 := hid (show z0 < w3.heap.size by have := b3.size; omega)
        have HL7 := hid (show z1 < w3.heap.size by have := b3.size; omega)
        have x0' := HX.out
        have y0' := HY.out
        clear b3 x0 x1 y0 y1 l6 l7 HBW hszW
        go_wp2
        clear x0' y0'
        go_loopw [8] (fun y wr => ∃ k : Nat, y = .int .i64 k ∧ k ≤ en ∧ Hid (Below w3.heap.size w3 wr)) (fun y _ => en - (intOf y).toNat)
        case atStart => exact ⟨0, rfl, Nat.zero_le _, Below.refl _ _⟩
        case round =>
          obtain ⟨k, rfl, hk, HR⟩ := hrel
          have x0 := (HR.out.cell (p := ⟨z0, 0, none⟩) HL6.out).trans HX.out
          have y0 := (HR.out.cell (p := ⟨z1, 0, none⟩) HL7.out).trans HY.out
          have HBR := hid (HB3.out.trans (HR.out.mono hs3))
          by_cases hkl : k < en
          · have k3 : (k : Int) < (en : Int) := by omega
            have k0 : (0 : Int) ≤ (k : Int) := by omega
            have hkE : k < E.length := by have := HEN.out; omega
            obtain ⟨C, t, hCt⟩ : ∃ C t, E[k]? = some (C, t) := ⟨E[k].1, _, List.getElem?_eq_getElem hkE⟩
            obtain ⟨d, ed, hdb, co, cc, u0, u1, hC, hcl⟩ := HER.out.below (two_low HBR.out) k (C, t) hCt
            obtain ⟨d', ed', hdb', co', cc', v0, v1, hC', _⟩ := HGR.out.below (two_low HBR.out) k (C, t) hCt
            subst ed
            subst ed'
            dsimp only at u0 u1 v0 v1 hC hC' hcl
            obtain ⟨cn, hcn⟩ : ∃ cn, cn = C.length := ⟨_, rfl⟩
            rw [← hcn] at u0 v0 hcl
            have HCR := hid hC
            have HCR' := hid hC'
            have HCN := hid hcn
            have HCL := hid hcl
            clear hCt hC hC' hcn hdb hdb' hkE hcl
            go_wp2_with fail
            refine wp_region_mix [(0, true), (1, true), (2, true), (3, true), (4, true), (5, true), (6, true), (7, true), (8, true), (9, true), (10, true), (11, true), (12, true), (13, true), (14, true), (15, true), (16, true), (17, true), (18, true), (19, true), (20, true), (21, true), (22, true), (23, true), (24, true), (25, true), (26, false), (27, true), (28, true)] (fun w' => w'.cell? ⟨z0, 0, none⟩ = some (.slice (some d) en ec) ∧ w'.cell? ⟨z1, 0, none⟩ = some (.slice (some d') en gc) ∧ w'.cell? (d.add (k * 2)) = some (.slice co cn cc) ∧ w'.cell? ⟨(d.add (k * 2)).block, (d.add (k * 2)).off + 1, none⟩ = some (.int .i64 t) ∧ w'.cell? (d'.add (k * 2)) = some (.slice co' cn cc') ∧ w'.cell? ⟨(d'.add (k * 2)).block, (d'.add (k * 2)).off + 1, none⟩ = some (.int .i64 t)) (fun _ => false) (by kernel_rfl) (by kernel_rfl) (fun j hj => by cases hj) rfl (by kernel_rfl) ⟨x0, y0, u0, u1, v0, v1⟩ ?_
            iterate 26 (refine mix_free ?_ rfl (by kernel_rfl) (fun w' hS => ?_) ?_; (rotate_left; (obtain ⟨s1, s2, s3, s4, s5, s6⟩ := hS; go_simp; with_reducible rfl); rotate_left))
            have hbl := HBR.out
            refine mix_go rfl (by kernel_rfl) fun KK hKK => ?_
            go_simp
            refine (rints_any co co' cc cc' cn C wr.drew (HCR.out.below (show Below wr.heap.size wr wr.drew from (Below.refl _ _).drew)) (HCR'.out.below (show Below wr.heap.size wr wr.drew from (Below.refl _ _).drew)) HCN.out HCL.out).mono ?_
            rintro e w5 ⟨rfl, b5⟩
            have HB5 := hid (show Below wr.heap.size wr w5 from ((Below.refl wr.heap.size wr).drew).trans b5)
            refine hKK _ _ (fun _ => ⟨cell_bl HB5.out x0, cell_bl HB5.out y0, cell_bl HB5.out u0, cell_bl HB5.out u1, cell_bl HB5.out v0, cell_bl HB5.out v1⟩) ?_
            clear hKK KK b5
            iterate 2 (refine mix_free ?_ rfl (by kernel_rfl) (fun w' hS => ?_) ?_; (rotate_left; (go_simp; with_reducible rfl); rotate_left))
            refine mix_end (NoPanic.normal ?_)
            have HR5 := hid (HR.out.trans (HB5.out.mono HR.out.size))
            clear x0 y0 u0 u1 v0 v1 hbl
            go_wp2
            go_roundw
            case rel => exact ⟨k + 1, by go_num, by omega, HR5⟩
            case measure => simp [intOf]; omega
          · have k3 : ¬ (k : Int) < (en : Int) := by omega
            go_wp2
            go_roundw
            case rel => exact ⟨i + 1, by go_num, by omega, HBR⟩
            case measure => simp [intOf]; omega
      case x11 =>
        refine hand_go rfl (by kernel_rfl) fun KK hKK => ?_
        go_simp
        refine hKK _ _ (fun _ => trivial) ⟨cell_al c0, cell_al d0, cell_al f0, cell_al f1, cell_al g0, cell_al g1⟩ ?_
        clear hKK KK
        refine mixT_go rfl (by kernel_rfl) fun KK hKK => ?_
        go_simp
        refine hKK _ _ (fun _ => trivial) ⟨cell_al (cell_al c0), cell_al (cell_al d0), cell_al (cell_al f0), cell_al (cell_al f1), cell_al (cell_al g0), cell_al (cell_al g1)⟩ ?_
        clear hKK KK
        refine mixT_go rfl (by kernel_rfl) fun KK hKK => ?_
        go_simp
        refine hKK _ _ (fun _ => trivial) ⟨cell_al (cell_al c0), cell_al (cell_al d0), cell_al (cell_al f0), cell_al (cell_al f1), cell_al (cell_al g0), cell_al (cell_al g1)⟩ ?_
        clear hKK KK
        refine mixT_go rfl (by kernel_rfl) fun KK hKK => ?_
        go_simp
        refine hKK _ _ (fun _ => trivial) ⟨cell_al (cell_al c0), cell_al (cell_al d0), cell_al (cell_al f0), cell_al (cell_al f1), cell_al (cell_al g0), cell_al (cell_al g1)⟩ ?_
        clear hKK KK
        refine mixT_end (NoPanic.normal ?_)
        obtain ⟨q1, q2, bW⟩ := alloc2 wr (.cells #[.slice go en gc, .slice ho fn hc] 86) (.cells #[.slice eo en ec, .slice fo fn fc] 86)
        obtain ⟨W, hW⟩ : ∃ W, W = ((wr.alloc (.cells #[.slice go en gc, .slice ho fn hc] 86)).alloc (.cells #[.slice eo en ec, .slice fo fn fc] 86)).drew := ⟨_, rfl⟩
        rw [← hW] at q1 q2 bW
        rw [← hW]
        obtain ⟨z1, hz1⟩ : ∃ z, z = wr.heap.size + 1 := ⟨_, rfl⟩
        obtain ⟨z0, hz0⟩ : ∃ z, z = wr.heap.size := ⟨_, rfl⟩
        rw [← hz1] at q2
        rw [← hz1]
        rw [← hz0] at q1
        rw [← hz0]
        have HQ := hid (show W.heap[z1]? = some (.cells #[.slice eo en ec, .slice fo fn fc] 86) ∧ W.heap[z0]? = some (.cells #[.slice go en gc, .slice ho fn hc] 86) from ⟨q2, q1⟩)
        clear hW hz1 hz0 q1 q2 c0 d0 f0 f1 g0 g1
        have hszW : w.heap.size + 2 ≤ W.heap.size := by have := bW.size; omega
        have HBW := hid (HB.out.trans (bW.mono hsz))
        have x0 : W.cell? ⟨z1, 0, none⟩ = some (.slice eo en ec) := by rw [cell_of_row W z1 0 _ 86 (0, 0) HQ.out.1]; rfl
        have x1 : W.cell? ⟨z1, 1, none⟩ = some (.slice fo fn fc) := by rw [cell_of_row W z1 1 _ 86 (0, 0) HQ.out.1]; rfl
        have y0 : W.cell? ⟨z0, 0, none⟩ = some (.slice go en gc) := by rw [cell_of_row W z0 0 _ 86 (0, 0) HQ.out.2]; rfl
        have y1 : W.cell? ⟨z0, 1, none⟩ = some (.slice ho fn hc) := by rw [cell_of_row W z0 1 _ 86 (0, 0) HQ.out.2]; rfl
        have l6 : z1 < W.heap.size := lt_of HQ.out.1
        have l7 : z0 < W.heap.size := lt_of HQ.out.2
        clear bW HQ HB hsz
        go_wp2_with fail
        refine (rints_any fo ho fc hc fn F W (HFR.out.below (two_low HBW.out)) (HHR.out.below (two_low HBW.out)) HFN.out (by unfold most; omega)).mono ?_
        rintro e w3 ⟨rfl, b3⟩
        have HB3 := hid (HBW.out.trans (b3.mono hszW))
        have hs3 : w.heap.size + 2 ≤ w3.heap.size := by have := b3.size; omega
        have HX := hid ((b3.cell (p := ⟨z1, 0, none⟩) l6).trans x0)
        have HY := hid ((b3.cell (p := ⟨z0, 0, none⟩) l7).trans y0)
        have HL6 := hid (show z1 < w3.heap.size by have := b3.size; omega)
        have HL7 := hid (show z0 < w3.heap.size by have := b3.size; omega)
        have x0' := HX.out
        have y0' := HY.out
        clear b3 x0 x1 y0 y1 l6 l7 HBW hszW
        go_wp2
        clear x0' y0'
        go_loopw [8] (fun y wr => ∃ k : Nat, y = .int .i64 k ∧ k ≤ en ∧ Hid (Below w3.heap.size w3 wr)) (fun y _ => en - (intOf y).toNat)
        case atStart => exact ⟨0, rfl, Nat.zero_le _, Below.refl _ _⟩
        case round =>
          obtain ⟨k, rfl, hk, HR⟩ := hrel
          have x0 := (HR.out.cell (p := ⟨z1, 0, none⟩) HL6.out).trans HX.out
          have y0 := (HR.out.cell (p := ⟨z0, 0, none⟩) HL7.out).trans HY.out
          have HBR := hid (HB3.out.trans (HR.out.mono hs3))
          by_cases hkl : k < en
          · have k3 : (k : Int) < (en : Int) := by omega
            have k0 : (0 : Int) ≤ (k : Int) := by omega
            have hkE : k < E.length := by have := HEN.out; omega
            obtain ⟨C, t, hCt⟩ : ∃ C t, E[k]? = some (C, t) := ⟨E[k].1, _, List.getElem?_eq_getElem hkE⟩
            obtain ⟨d, ed, hdb, co, cc, u0, u1, hC, hcl⟩ := HER.out.below (two_low HBR.out) k (C, t) hCt
            obtain ⟨d', ed', hdb', co', cc', v0, v1, hC', _⟩ := HGR.out.below (two_low HBR.out) k (C, t) hCt
            subst ed
            subst ed'
            dsimp only at u0 u1 v0 v1 hC hC' hcl
            obtain ⟨cn, hcn⟩ : ∃ cn, cn = C.length := ⟨_, rfl⟩
            rw [← hcn] at u0 v0 hcl
            have HCR := hid hC
            have HCR' := hid hC'
            have HCN := hid hcn
            have HCL := hid hcl
            clear hCt hC hC' hcn hdb hdb' hkE hcl
            go_wp2_with fail
            refine wp_region_mix [(0, true), (1, true), (2, true), (3, true), (4, true), (5, true), (6, true), (7, true), (8, true), (9, true), (10, true), (11, true), (12, true), (13, true), (14, true), (15, true), (16, true), (17, true), (18, true), (19, true), (20, true), (21, true), (22, true), (23, true), (24, true), (25, true), (26, false), (27, true), (28, true)] (fun w' => w'.cell? ⟨z1, 0, none⟩ = some (.slice (some d) en ec) ∧ w'.cell? ⟨z0, 0, none⟩ = some (.slice (some d') en gc) ∧ w'.cell? (d.add (k * 2)) = some (.slice co cn cc) ∧ w'.cell? ⟨(d.add (k * 2)).block, (d.add (k * 2)).off + 1, none⟩ = some (.int .i64 t) ∧ w'.cell? (d'.add (k * 2)) = some (.slice co' cn cc') ∧ w'.cell? ⟨(d'.add (k * 2)).block, (d'.add (k * 2)).off + 1, none⟩ = some (.int .i64 t)) (fun _ => false) (by kernel_rfl) (by kernel_rfl) (fun j hj => by cases hj) rfl (by kernel_rfl) ⟨x0, y0, u0, u1, v0, v1⟩ ?_
            iterate 26 (refine mix_free ?_ rfl (by kernel_rfl) (fun w' hS => ?_) ?_; (rotate_left; (obtain ⟨s1, s2, s3, s4, s5, s6⟩ := hS; go_simp; with_reducible rfl); rotate_left))
            have hbl := HBR.out
            refine mix_go rfl (by kernel_rfl) fun KK hKK => ?_
            go_simp
            refine (rints_any co co' cc cc' cn C wr.drew (HCR.out.below (show Below wr.heap.size wr wr.drew from (Below.refl _ _).drew)) (HCR'.out.below (show Below wr.heap.size wr wr.drew from (Below.refl _ _).drew)) HCN.out HCL.out).mono ?_
            rintro e w5 ⟨rfl, b5⟩
            have HB5 := hid (show Below wr.heap.size wr w5 from ((Below.refl wr.heap.size wr).drew).trans b5)
            refine hKK _ _ (fun _ => ⟨cell_bl HB5.out x0, cell_bl HB5.out y0, cell_bl HB5.out u0, cell_bl HB5.out u1, cell_bl HB5.out v0, cell_bl HB5.out v1⟩) ?_
            clear hKK KK b5
            iterate 2 (refine mix_free ?_ rfl (by kernel_rfl) (fun w' hS => ?_) ?_; (rotate_left; (go_simp; with_reducible rfl); rotate_left))
            refine mix_end (NoPanic.normal ?_)
            have HR5 := hid (HR.out.trans (HB5.out.mono HR.out.size))
            clear x0 y0 u0 u1 v0 v1 hbl
            go_wp2
            go_roundw
            case rel => exact ⟨k + 1, by go_num, by omega, HR5⟩
            case measure => simp [intOf]; omega
          · have k3 : ¬ (k : Int) < (en : Int) := by omega
            go_wp2
            go_roundw
            case rel => exact ⟨i + 1, by go_num, by omega, HBR⟩
            case measure => simp [intOf]; omega
    · have i3 : ¬ (i : Int) < (n : Int) := by omega
      go_wp2
      go_ret
      exact ⟨rfl, two_low HB.out⟩
end Go.Proofs.YteacehfihogmpaaDoor
/- Lists that are copied into rows of their own: what lies apart from the rows that still grow. -/
namespace Go.Proofs.YteacehfihogmpaaDoor
open Go.RowKit

/-- A list of numbers that lies in none of the blocks X. -/
def RdIx (w : World) (X : Nat → Prop) (ao : Option Addr) (l : List Int) : Prop :=
  ∀ (k : Nat) (z : Int), l[k]? = some z → ∃ a : Addr, ao = some a ∧ a.block < w.heap.size ∧ ¬ X a.block ∧ w.cell? (a.add k) = some (.int .i64 z)
def RdEx (w : World) (X : Nat → Prop) (ao : Option Addr) (E : List Ed) : Prop :=
  ∀ (k : Nat) (g : Ed), E[k]? = some g → ∃ a : Addr, ao = some a ∧ a.block < w.heap.size ∧ ¬ X a.block ∧ ∃ (co : Option Addr) (cc : Nat), w.cell? (a.add (k * 2)) = some (.slice co g.1.length cc) ∧ w.cell? ⟨(a.add (k * 2)).block, (a.add (k * 2)).off + 1, none⟩ = some (.int .i64 g.2) ∧ RdIx w X co g.1
/-- The first edges, copied: the cells of their row. -/
def CpE (w : World) (X : Nat → Prop) (E : List Ed) (k : Nat) (R : List Value) : Prop :=
  ∀ (j : Nat) (g : Ed), j < k → E[j]? = some g → ∃ (co : Option Addr) (cc : Nat), R[j * 2]? = some (.slice co g.1.length cc) ∧ R[j * 2 + 1]? = some (.int .i64 g.2) ∧ RdIx w X co g.1
/-- The first states, copied. -/
def CpS (w : World) (X : Nat → Prop) (L : List St) (k : Nat) (R : List Value) : Prop :=
  ∀ (j : Nat) (s : St), j < k → L[j]? = some s → ∃ (eo : Option Addr) (ec : Nat) (fo : Option Addr) (fc : Nat), R[j * 2]? = some (.slice eo s.1.length ec) ∧ R[j * 2 + 1]? = some (.slice fo s.2.length fc) ∧ RdEx w X eo s.1 ∧ RdIx w X fo s.2
/-- From one world to a later one. -/
structure Kp (w w' : World) (X X' : Nat → Prop) : Prop where
  size : w.heap.size ≤ w'.heap.size
  block : ∀ k, k < w.heap.size → ¬ X k → w'.heap[k]? = w.heap[k]?
  sub : ∀ k, k < w.heap.size → X' k → X k
section
variable {w w' : World} {X X' : Nat → Prop}
theorem Kp.cell (h : Kp w w' X X') {p : Addr} {v : Value} (hp : p.block < w.heap.size) (hx : ¬ X p.block) (hc : w.cell? p = some v) : w'.cell? p = some v := (World.cell?_of_block (h.block p.block hp hx)).trans hc
theorem RdIx.keep {ao : Option Addr} {l : List Int} (h : RdIx w X ao l) (hk : Kp w w' X X') : RdIx w' X' ao l := fun k z hz => by
  obtain ⟨a, h1, h2, h3, h4⟩ := h k z hz
  exact ⟨a, h1, Nat.lt_of_lt_of_le h2 hk.size, fun hx => h3 (hk.sub _ h2 hx), hk.cell (p := a.add k) (by rw [add_blk]; exact h2) (by rw [add_blk]; exact h3) h4⟩
theorem RdEx.keep {ao : Option Addr} {E : List Ed} (h : RdEx w X ao E) (hk : Kp w w' X X') : RdEx w' X' ao E := fun k g hg => by
  obtain ⟨a, h1, h2, h3, co, cc, h4, h5, h6⟩ := h k g hg
  exact ⟨a, h1, Nat.lt_of_lt_of_le h2 hk.size, fun hx => h3 (hk.sub _ h2 hx), co, cc, hk.cell (p := a.add (k * 2)) (by rw [add_blk]; exact h2) (by rw [add_blk]; exact h3) h4, hk.cell (p := ⟨(a.add (k * 2)).block, (a.add (k * 2)).off + 1, none⟩) (show (a.add (k * 2)).block < _ by rw [add_blk]; exact h2) (show ¬ X (a.add (k * 2)).block by rw [add_blk]; exact h3) h5, h6.keep hk⟩
theorem CpE.keep {E : List Ed} {k : Nat} {R : List Value} (h : CpE w X E k R) (hk : Kp w w' X X') : CpE w' X' E k R := fun j g hj hg => by
  obtain ⟨co, cc, h1, h2, h3⟩ := h j g hj hg
  exact ⟨co, cc, h1, h2, h3.keep hk⟩
theorem CpS.keep {L : List St} {k : Nat} {R : List Value} (h : CpS w X L k R) (hk : Kp w w' X X') : CpS w' X' L k R := fun j s hj hs => by
  obtain ⟨eo, ec, fo, fc, h1, h2, h3, h4⟩ := h j s hj hs
  exact ⟨eo, ec, fo, fc, h1, h2, h3.keep hk, h4.keep hk⟩
theorem CpE.next {E : List Ed} {k : Nat} {R : List Value} {C : List Int} {t : Int} {co : Option Addr} {cc : Nat} (h : CpE w X E k R) (hR : R.length = k * 2) (hE : E[k]? = some (C, t)) (hC : RdIx w X co C) : CpE w X E (k + 1) (R ++ [.slice co C.length cc, .int .i64 t]) := fun j g hj hg => by
  by_cases e : j = k
  · subst e
    rw [hE] at hg
    cases hg
    exact ⟨co, cc, by rw [List.getElem?_append_right (by omega), hR]; simp, by rw [List.getElem?_append_right (by omega), hR]; simp, hC⟩
  · obtain ⟨co, cc, h1, h2, h3⟩ := h j g (by omega) hg
    exact ⟨co, cc, by rw [List.getElem?_append_left (by omega)]; exact h1, by rw [List.getElem?_append_left (by omega)]; exact h2, h3⟩
theorem CpS.next {L : List St} {k : Nat} {R : List Value} {E : List Ed} {F : List Int} {eo fo : Option Addr} {ec fc : Nat} (h : CpS w X L k R) (hR : R.length = k * 2) (hL : L[k]? = some (E, F)) (hE : RdEx w X eo E) (hF : RdIx w X fo F) : CpS w X L (k + 1) (R ++ [.slice eo E.length ec, .slice fo F.length fc]) := fun j g hj hg => by
  by_cases e : j = k
  · subst e
    rw [hL] at hg
    cases hg
    exact ⟨eo, ec, fo, fc, by rw [List.getElem?_append_right (by omega), hR]; simp, by rw [List.getElem?_append_right (by omega), hR]; simp, hE, hF⟩
  · obtain ⟨eo, ec, fo, fc, h1, h2, h3⟩ := h j g (by omega) hg
    exact ⟨eo, ec, fo, fc, by rw [List.getElem?_append_left (by omega)]; exact h1, by rw [List.getElem?_append_left (by omega)]; exact h2, h3⟩
end
theorem own2_form {B e m vc : Nat} {w : World} {vo : Option Addr} {R : List Value} (h : w.ownsRow B e 2 (.slice vo m vc) m R) {j : Nat} {u v : Value} (h0 : R[j * 2]? = some u) (h1 : R[j * 2 + 1]? = some v) : ∃ g, vo = some ⟨g, 0, none⟩ ∧ B ≤ g ∧ g < w.heap.size ∧ w.cell? ⟨g, j * 2, none⟩ = some u ∧ w.cell? ⟨g, j * 2 + 1, none⟩ = some v := by
  have hl := (List.getElem?_eq_some_iff.1 h1).1
  have hm := h.1
  rcases h.2 with ⟨_, e0⟩ | ⟨g, cap, cur, hv, hb, hg, _⟩
  · omega
  · simp only [Value.slice.injEq, true_and] at hv
    obtain ⟨rfl, rfl⟩ := hv
    exact ⟨g, rfl, hb, (Array.getElem?_eq_some_iff.1 hg).1, by rw [h.cellAt (j * 2) (by omega)]; exact h0, by rw [h.cellAt (j * 2 + 1) (by omega)]; exact h1⟩
/-- The edges' row, once it is whole. -/
theorem rdex_of {B m vc : Nat} {w : World} {X X' : Nat → Prop} {vo : Option Addr} {R : List Value} {E : List Ed} (h : w.ownsRow B 88 2 (.slice vo m vc) m R) (hc : CpE w X E m R) (hm : m = E.length) (hX : ∀ g, B ≤ g → ¬ X' g) (hs : ∀ g, X' g → X g) : RdEx w X' vo E := fun k g hg => by
  have hk := (List.getElem?_eq_some_iff.1 hg).1
  obtain ⟨co, cc, h1, h2, h3⟩ := hc k g (by omega) hg
  obtain ⟨q, rfl, hq, hlt, c0, c1⟩ := own2_form h h1 h2
  exact ⟨_, rfl, hlt, hX q hq, co, cc, by rw [Addr.add_lit, Nat.zero_add]; exact c0, by rw [Addr.add_lit, Nat.zero_add]; exact c1, h3.keep ⟨Nat.le_refl _, fun _ _ _ => rfl, fun k _ hx => hs k hx⟩⟩
/-- The states' row, once it is whole. -/
theorem rds_of {B m vc : Nat} {w : World} {X : Nat → Prop} {vo : Option Addr} {R : List Value} {L : List St} (h : w.ownsRow B 86 2 (.slice vo m vc) m R) (hc : CpS w X L m R) (hm : m = L.length) (hb : ∀ s ∈ L, s.1.length ≤ most ∧ s.2.length ≤ most ∧ ∀ e ∈ s.1, e.1.length ≤ most) : RdS w vo L := fun k s hs => by
  have hk := (List.getElem?_eq_some_iff.1 hs).1
  obtain ⟨eo, ec, fo, fc, h1, h2, h3, h4⟩ := hc k s (by omega) hs
  obtain ⟨q, rfl, hq, hlt, c0, c1⟩ := own2_form h h1 h2
  obtain ⟨b1, b2, b3⟩ := hb s (List.mem_of_getElem? hs)
  refine ⟨_, rfl, hlt, eo, ec, fo, fc, by rw [Addr.add_lit, Nat.zero_add]; exact c0, by rw [Addr.add_lit, Nat.zero_add]; exact c1, fun j g hg => ?_, fun j z hz => ?_, b1, b2⟩
  · obtain ⟨a, e1, e2, _, co, cc, e3, e4, e5⟩ := h3 j g hg
    exact ⟨a, e1, e2, co, cc, e3, e4, fun i z hz => by obtain ⟨a', x1, x2, _, x3⟩ := e5 i z hz; exact ⟨a', x1, x2, x3⟩, b3 g (List.mem_of_getElem? hg)⟩
  · obtain ⟨a, x1, x2, _, x3⟩ := h4 j z hz
    exact ⟨a, x1, x2, x3⟩
/-- append of a list onto an empty row. -/
theorem run_copy {B H : Nat} {w : World} (hown : w.ownsRow B 3 1 (.slice (some ⟨H, 0, none⟩) 0 0) 0 []) (ty : TypeId) {fo : Option Addr} {fn fc : Nat} {F : List Int} (hF : RdI w fo F) (hfn : fn = F.length) (hl : fn ≤ 1000000) (hB : B ≤ w.heap.size) :
    ∃ g cap w', (Builtin.append_ #[22, 22] ty #[.slice (some ⟨H, 0, none⟩) 0 0, .slice fo fn fc]).run Tryd.prog w = .ok (.slice (some ⟨g, 0, none⟩) fn cap) w' ∧ w'.ownsRow B 3 1 (.slice (some ⟨g, 0, none⟩) fn cap) fn (i64s F) ∧ w.grownBy w' (some H) ∧ (g = H ∨ g = w.heap.size) ∧ g < w'.heap.size := by
  obtain ⟨i, hi, hz, hsize, hby⟩ := info_parts Tryd.info3
  by_cases h0 : fn = 0
  · subst h0
    have hF0 : F = [] := List.eq_nil_of_length_eq_zero hfn.symm
    subst hF0
    have hs : Src Tryd.prog i.size 22 (.slice fo 0 fc) 0 [] w := by
      cases fo with
      | none => exact Src.ofNil w Tryd.underlying22 fc
      | some a => exact Src.ofSlice w Tryd.underlying22 a 0 fc [] (by simp) (fun j u hj => by simp at hj) (fun u hu => by simp at hu)
    have hr : (Builtin.append_ #[22, 22] ty #[.slice (some ⟨H, 0, none⟩) 0 0, .slice fo 0 fc]).run Tryd.prog w = .ok (.slice (some ⟨H, 0, none⟩) 0 0) w := by
      simp [Builtin.append_, run_underlying Tryd.underlying22, sizeOf, typeInfo, hi, hs.len, hs.cells, storeCells]
    exact ⟨H, 0, w, hr, hown, ⟨rfl, rfl, rfl, Nat.le_refl _, fun _ _ _ => rfl⟩, .inl rfl, (hown.lt H rfl).2⟩
  · obtain ⟨a, rfl, _, _⟩ := hF 0 F[0] (List.getElem?_eq_getElem (by omega))
    obtain ⟨g, cap, w', hr, h2, h3, h4, h5⟩ := run_append_lies (P := Tryd.prog) w 22 ty B 3 i (.int .i64 0) 1 8 Tryd.underlying22 hi hz hsize hby rfl (by decide) (.slice (some ⟨H, 0, none⟩) 0 0) 0 [] hown a fn fc (i64s F) (by rw [i64s_len, hfn, Nat.mul_one]) (fun j u hj => by
      rw [i64s_at] at hj
      obtain ⟨z, hz1, hz2⟩ := Option.map_eq_some_iff.1 hj
      obtain ⟨a', e, _, h⟩ := hF j z hz1
      cases e
      rw [h, hz2]) (i64s_one F) (by omega) (by unfold maxLen; omega) (by omega) hB w.heap.size rfl
    refine ⟨g, cap, w', by simpa using hr, by simpa using h2, h3, ?_, h5⟩
    rcases h4 with h | h
    · exact .inl (Option.some.inj h).symm
    · exact .inr h
theorem wp_copy {w : World} {o : Oper} {a : Act} {K : Act → World → Prop} {Q : Exit → Act → World → Prop} (s x : Operand) (ho : o.op = .call { callee := .builtin .append, args := #[s, x], argTypes := #[22, 22] }) (B H : Nat) (hs : a.eval s = .slice (some ⟨H, 0, none⟩) 0 0) (hown : w.ownsRow B 3 1 (.slice (some ⟨H, 0, none⟩) 0 0) 0 []) (fo : Option Addr) (fn fc : Nat) (F : List Int) (hx : a.eval x = .slice fo fn fc) (hF : RdI w fo F) (hfn : fn = F.length) (hl : fn ≤ 1000000) (hB : B ≤ w.heap.size)
    (h : ∀ g cap w', w'.ownsRow B 3 1 (.slice (some ⟨g, 0, none⟩) fn cap) fn (i64s F) → w.grownBy w' (some H) → (g = H ∨ g = w.heap.size) → g < w'.heap.size → K (a.put o.dst (.slice (some ⟨g, 0, none⟩) fn cap)) w') : o.wp Tryd.prog a w K Q := by
  obtain ⟨g, cap, w', hr, h2, h3, h4, h5⟩ := run_copy hown o.type (fc := fc) hF hfn hl hB
  unfold Oper.wp execOp
  simp only [ho, resolve, invoke, builtin, Sem.run_bind, Sem.run_pure, Result.andThen_ok, List.map_toArray, List.map_cons, List.map_nil, hs, hx, hr]
  exact h g cap w' h2 h3 h4 h5
theorem wpList_copy {w : World} {ops : Array Oper} {rest : List Oper} {o : Oper} {a : Act} {Q : Exit → Act → World → Prop} (hgd : o.guard = none) (s x : Operand) (ho : o.op = .call { callee := .builtin .append, args := #[s, x], argTypes := #[22, 22] }) (B H : Nat) (hs : a.eval s = .slice (some ⟨H, 0, none⟩) 0 0) (hown : w.ownsRow B 3 1 (.slice (some ⟨H, 0, none⟩) 0 0) 0 []) (fo : Option Addr) (fn fc : Nat) (F : List Int) (hx : a.eval x = .slice fo fn fc) (hF : RdI w fo F) (hfn : fn = F.length) (hl : fn ≤ 1000000) (hB : B ≤ w.heap.size)
    (h : ∀ g cap w', w'.ownsRow B 3 1 (.slice (some ⟨g, 0, none⟩) fn cap) fn (i64s F) → w.grownBy w' (some H) → (g = H ∨ g = w.heap.size) → g < w'.heap.size → wpList Tryd.prog ops Q rest (a.put o.dst (.slice (some ⟨g, 0, none⟩) fn cap)) w') : wpList Tryd.prog ops Q (o :: rest) a w :=
  wpList_plain hgd fun _ hK => wp_copy s x ho B H hs hown fo fn fc F hx hF hfn hl hB fun g cap w' h2 h3 h4 h5 => hK _ _ (h g cap w' h2 h3 h4 h5)
/-- All stays but one block. -/
structure But1 (p B : Nat) (w w' : World) : Prop where
  os : w'.os = w.os
  tape : w'.tape = w.tape
  output : w'.output = w.output
  size : w.heap.size ≤ w'.heap.size
  block : ∀ k, k < B → k ≠ p → w'.heap[k]? = w.heap[k]?
end Go.Proofs.YteacehfihogmpaaDoor
/- The contract of own (the laws'): an automaton, copied. -/
namespace Go.Proofs.YteacehfihogmpaaDoor
open Go.RowKit

theorem Tryd.info86 : (Tryd.prog.info? 86).map (fun i => (i.zero, i.size, i.bytes)) = some (some (.agg #[.slice none 0 0, .slice none 0 0]), 2, 48) := by kernel_rfl
theorem Tryd.info88 : (Tryd.prog.info? 88).map (fun i => (i.zero, i.size, i.bytes)) = some (some (.agg #[.slice none 0 0, .int .i64 0]), 2, 32) := by kernel_rfl
/-- What own leaves. -/
def OwnQ (w : World) (n : Nat) (L : List St) (s f : Int) (e : Ending) (w' : World) : Prop :=
  ∃ (to : Option Addr) (tc : Nat), e = .returned (.agg #[.slice to n tc, .int .i64 s, .int .i64 f]) ∧ RdS w' to L ∧ Below w.heap.size w w'
theorem news_two (w : World) (v v' : Value) (T : TypeId) : ∀ j u, [v, v'][j]? = some u → (w.alloc (.cells #[v, v'] T)).drew.cell? ((⟨w.heap.size, 0, none⟩ : Addr).add j) = some u := fun j u hj => by
  show (w.alloc (.cells #[v, v'] T)).cell? _ = _
  rw [Addr.add_lit, Nat.zero_add, cell_of_row _ w.heap.size j #[v, v'] T (0, 0) (show (w.heap.push _)[w.heap.size]? = _ by simp)]
  simpa using hj
set_option maxHeartbeats 8000000 in
set_option maxRecDepth 100000 in
theorem own_any (so : Option Addr) (sc n : Nat) (L : List St) (s f : Int) (w : World) (hn : n = L.length) (hs : RdS w so L) (hnm : n ≤ 1000000) (hE : ∀ x ∈ L, x.1.length ≤ 1000000 ∧ x.2.length ≤ 1000000 ∧ ∀ e ∈ x.1, e.1.length ≤ 1000000) :
    Calls Tryd.prog 26 #[.agg #[.slice so n sc, .int .i64 s, .int .i64 f]] w fun e w' => OwnQ w n L s f e w' := by
  obtain ⟨i86, hi86, hs0, hs1, hs2⟩ := info_parts Tryd.info86
  obtain ⟨i88, hi88, he0, he1, he2⟩ := info_parts Tryd.info88
  have HN := hid hn
  have HS := hid hs
  have HE := hid hE
  have HB0 := hid (Below.refl (w.heap.size + 2) ((w.alloc (.cells #[.slice so n sc, .int .i64 s, .int .i64 f] 28)).alloc (.cells #[.slice none 0 0, .int .i64 0, .int .i64 0] 28)))
  clear hn hs hE
  go_enter Tryd.func26, Tryd.ntmps26
  go_wp2
  go_loopw [3, 4] (fun x y wr => ∃ (i : Nat) (lo : Option Addr) (lc : Nat) (R : List Value), x = .slice lo i lc ∧ y = .int .i64 i ∧ i ≤ n ∧ Hid (wr.ownsRow (w.heap.size + 2) 86 2 (.slice lo i lc) i R) ∧ Hid (CpS wr (fun b => b < w.heap.size + 2 ∨ (Value.slice lo i lc).ownBlock = some b) L i R) ∧ Hid (Below (w.heap.size + 2) ((w.alloc (.cells #[.slice so n sc, .int .i64 s, .int .i64 f] 28)).alloc (.cells #[.slice none 0 0, .int .i64 0, .int .i64 0] 28)) wr)) (fun _ y _ => n - (intOf y).toNat)
  case atStart => exact ⟨0, none, 0, [], rfl, rfl, Nat.zero_le _, World.ownsRow_nil _ _ _ _, fun j s hj => (by omega), HB0⟩
  case round =>
    clear HB0
    obtain ⟨i, lo, lc, R, rfl, rfl, hi, HO, HC, HB⟩ := hrel
    have c0 : wr.cell? ⟨w.heap.size, 0, none⟩ = some (.slice so n sc) := (two_box HB.out).1 0
    have hsz : w.heap.size + 2 ≤ wr.heap.size := by have := HB.out.size; simpa using this
    by_cases hlt : i < n
    · have i3 : (i : Int) < (n : Int) := by omega
      have i0 : (0 : Int) ≤ (i : Int) := by omega
      have hiL : i < L.length := by have := HN.out; omega
      obtain ⟨E, F, hEF⟩ : ∃ E F, L[i]? = some (E, F) := ⟨L[i].1, _, List.getElem?_eq_getElem hiL⟩
      obtain ⟨a, ea, hab, eo, ec, fo, fc, f0w, f1w, hE, hF, _, _⟩ := HS.out i (E, F) hEF
      have hlens := HE.out _ (List.mem_of_getElem? hEF)
      dsimp only at f0w f1w hlens hE hF
      have f1 := ((two_low HB.out).cell (p := ⟨(a.add (i * 2)).block, (a.add (i * 2)).off + 1, none⟩) (show (a.add (i * 2)).block < _ by rw [add_blk]; exact hab)).trans f1w
      subst ea
      obtain ⟨en, hen⟩ : ∃ en, en = E.length := ⟨_, rfl⟩
      obtain ⟨fn, hfn⟩ : ∃ fn, fn = F.length := ⟨_, rfl⟩
      rw [← hen] at f0w
      rw [← hfn] at f1
      have HF0 := hid f0w
      have HAB := hid hab
      have HEN := hid hen
      have HFN := hid hfn
      have HER := hid hE
      have HFR := hid hF
      have HEF := hid hEF
      have HCE := hid hlens.2.2
      have hle1 : en ≤ 1000000 := by have := hlens.1; omega
      have hle2 : fn ≤ 1000000 := by have := hlens.2.1; omega
      clear hen hfn hE hF f0w f1w hEF hab hiL hlens
      have c0' : (wr.alloc (.cells #[] 3)).cell? ⟨w.heap.size, 0, none⟩ = some (.slice (some a) n sc) := cell_al c0
      have f1' : (wr.alloc (.cells #[] 3)).cell? ⟨(a.add (i * 2)).block, (a.add (i * 2)).off + 1, none⟩ = some (.slice fo fn fc) := cell_al f1
      have HOE := hid (show (wr.alloc (.cells #[] 3)).ownsRow wr.heap.size 3 1 (.slice (some ⟨wr.heap.size, 0, none⟩) 0 0) 0 [] from World.ownsRow_lit wr #[] 0 (Nat.le_refl _) (by decide) (by simp))
      have HBA := hid (HB.out.alloc hsz (.cells #[] 3))
      go_wp2_with (at_builtin; go_loud (refine wpList_copy rfl _ _ rfl wr.heap.size wr.heap.size rfl HOE.out fo fn fc F rfl (HFR.out.below (two_low HBA.out)) HFN.out hle2 (by simp) ?_); intro g gcap w2 o2 gr2 hg2 hlt2)
      obtain ⟨w3, hw3⟩ : ∃ w3, w3 = w2.alloc (.cells #[.slice none 0 0, .slice (some ⟨g, 0, none⟩) fn gcap] 86) := ⟨_, rfl⟩
      rw [← hw3]
      obtain ⟨p5, hp5⟩ : ∃ p5, p5 = w2.heap.size := ⟨_, rfl⟩
      rw [← hp5]
      have hws : wr.heap.size + 1 ≤ w2.heap.size := by have := gr2.size; simpa using this
      have hB5 : w3.heap.size = p5 + 1 := by rw [hw3, hp5]; simp
      have hgp : g < p5 := by omega
      have hgw : wr.heap.size ≤ g := by (rcases hg2 with h | h; (· omega); (· simp at h; omega))
      have HP3 := hid (show w3.heap[p5]? = some (.cells #[.slice none 0 0, .slice (some ⟨g, 0, none⟩) fn gcap] 86) by rw [hw3, hp5]; exact al_new _ _ rfl)
      have hblk : ∀ k, k < wr.heap.size → w3.heap[k]? = wr.heap[k]? := fun k hk => by
        rw [hw3, al_old _ _ (by omega), gr2.block k (by simp; omega) (fun e => by have := Option.some.inj e; omega), al_old _ _ hk]
      have HLO := hid (show ∀ b, (Value.slice lo i lc).ownBlock = some b → b < wr.heap.size from fun b hb => (HO.out.lt b hb).2)
      have HO3 := hid (own_same HO.out (W' := w3) (fun k _ hk => hblk k hk))
      have HC3 := hid (HC.out.keep (w' := w3) (X' := fun b => (b < w.heap.size + 2 ∨ (Value.slice lo i lc).ownBlock = some b) ∨ b = p5) ⟨by omega, fun k hk _ => hblk k hk, fun b hb h => h.elim id (fun e => by omega)⟩)
      have HLP := hid (show ∀ b, (Value.slice lo i lc).ownBlock = some b → b < p5 from fun b hb => by have := HLO.out b hb; omega)
      have HF3 := hid (show RdIx w3 (fun b => (b < w.heap.size + 2 ∨ (Value.slice lo i lc).ownBlock = some b) ∨ b = p5) (some ⟨g, 0, none⟩) F from fun k z hz => by
        obtain ⟨g', e, _, hg', hc⟩ := own_at o2 hz
        cases e
        refine ⟨_, rfl, by show g < w3.heap.size; omega, ?_, ?_⟩
        · rintro ((h | h) | h)
          · have h' : g < w.heap.size + 2 := h; omega
          · have := HLO.out g h; omega
          · have h' : g = p5 := h; omega
        · rw [Addr.add_lit, Nat.zero_add, hw3]; exact cell_al hc)
      have HB3 := hid (show Below (w.heap.size + 2) ((w.alloc (.cells #[.slice (some a) n sc, .int .i64 s, .int .i64 f] 28)).alloc (.cells #[.slice none 0 0, .int .i64 0, .int .i64 0] 28)) w3 from HB.out.trans ⟨by rw [hw3]; exact gr2.os, by rw [hw3]; exact gr2.tape, by rw [hw3]; exact gr2.output, by omega, fun k hk => hblk k (by omega)⟩)
      have hp5w : w.heap.size + 2 ≤ p5 := by omega
      clear hw3 hp5 hws hg2 hgw hblk o2 gr2 hlt2 HO HC HB HOE HBA c0 c0' f1 f1' hsz
      go_loopw [6] (fun y wr => ∃ (k : Nat) (go : Option Addr) (gc : Nat) (RE : List Value), y = .int .i64 k ∧ k ≤ en ∧ Hid (wr.heap[p5]? = some (.cells #[.slice go k gc, .slice (some ⟨g, 0, none⟩) fn gcap] 86)) ∧ Hid (wr.ownsRow (p5 + 1) 88 2 (.slice go k gc) k RE) ∧ Hid (CpE wr (fun b => b < p5 + 1 ∨ (Value.slice go k gc).ownBlock = some b) E k RE) ∧ Hid (But1 p5 (p5 + 1) w3 wr)) (fun y _ => en - (intOf y).toNat)
      case atStart => exact ⟨0, none, 0, [], rfl, Nat.zero_le _, HP3, World.ownsRow_nil _ _ _ _, fun j g hj => (by omega), ⟨rfl, rfl, rfl, Nat.le_refl _, fun _ _ _ => rfl⟩⟩
      case round =>
        obtain ⟨k, go, gc, RE, rfl, hk, HP, HOE, HCP, HBT⟩ := hrel
        have HB := hid (show Below (w.heap.size + 2) ((w.alloc (.cells #[.slice (some a) n sc, .int .i64 s, .int .i64 f] 28)).alloc (.cells #[.slice none 0 0, .int .i64 0, .int .i64 0] 28)) wr from HB3.out.trans ⟨HBT.out.os, HBT.out.tape, HBT.out.output, HBT.out.size, fun b hb => HBT.out.block b (by omega) (by omega)⟩)
        have c0 : wr.cell? ⟨w.heap.size, 0, none⟩ = some (.slice (some a) n sc) := (two_box HB.out).1 0
        have f0 := ((two_low HB.out).cell (p := a.add (i * 2)) (by rw [add_blk]; exact HAB.out)).trans HF0.out
        have x0 : wr.cell? ⟨p5, 0, none⟩ = some (.slice go k gc) := by rw [cell_of_row wr p5 0 _ 86 (0, 0) HP.out]; rfl
        have x1 : wr.cell? ⟨p5, 1, none⟩ = some (.slice (some ⟨g, 0, none⟩) fn gcap) := by rw [cell_of_row wr p5 1 _ 86 (0, 0) HP.out]; rfl
        have fz := frozen_of_row wr p5 0 _ 86 HP.out
        have hpl : p5 < wr.heap.size := lt_of HP.out
        by_cases hkl : k < en
        · have k3 : (k : Int) < (en : Int) := by omega
          have k0 : (0 : Int) ≤ (k : Int) := by omega
          have hkE : k < E.length := by have := HEN.out; omega
          obtain ⟨C, t, hCt⟩ : ∃ C t, E[k]? = some (C, t) := ⟨E[k].1, _, List.getElem?_eq_getElem hkE⟩
          obtain ⟨d, ed, hdb, co, cc, u0w, u1w, hC, _⟩ := HER.out k (C, t) hCt
          have hcl : C.length ≤ 1000000 := HCE.out _ (List.mem_of_getElem? hCt)
          subst ed
          dsimp only at u0w u1w hC
          have u0 := ((two_low HB.out).cell (p := d.add (k * 2)) (by rw [add_blk]; exact hdb)).trans u0w
          have u1 := ((two_low HB.out).cell (p := ⟨(d.add (k * 2)).block, (d.add (k * 2)).off + 1, none⟩) (show (d.add (k * 2)).block < _ by rw [add_blk]; exact hdb)).trans u1w
          obtain ⟨cn, hcn⟩ : ∃ cn, cn = C.length := ⟨_, rfl⟩
          rw [← hcn] at u0 hcl
          have HCR := hid hC
          have HCN := hid hcn
          have HCT := hid hCt
          clear hCt hC hcn hdb hkE u0w u1w
          go_wp2_with fail
          obtain ⟨w4, hw4⟩ : ∃ w4, w4 = wr.alloc (.cells #[.slice co cn cc, .int .i64 t] 88) := ⟨_, rfl⟩
          rw [← hw4]
          obtain ⟨p7, hp7⟩ : ∃ p7, p7 = wr.heap.size := ⟨_, rfl⟩
          rw [← hp7]
          have hs4 : w4.heap.size = p7 + 1 := by rw [hw4, hp7]; simp
          have hr4 : w4.heap[p7]? = some (.cells #[.slice co cn cc, .int .i64 t] 88) := by rw [hw4, hp7]; exact al_new _ _ rfl
          have y0 : w4.cell? ⟨p7, 0, none⟩ = some (.slice co cn cc) := by rw [cell_of_row w4 p7 0 _ 88 (0, 0) hr4]; rfl
          have y1 : w4.cell? ⟨p7, 1, none⟩ = some (.int .i64 t) := by rw [cell_of_row w4 p7 1 _ 88 (0, 0) hr4]; rfl
          have x4 : w4.cell? ⟨p5, 0, none⟩ = some (.slice go k gc) := by rw [hw4]; exact cell_al x0
          have hblk4 : ∀ b, b < wr.heap.size → w4.heap[b]? = wr.heap[b]? := fun b hb => by rw [hw4, al_old _ _ hb]
          have HP4 := hid ((hblk4 p5 hpl).trans HP.out)
          have HOE4 := hid (show w4.ownsRow (p5 + 1) 88 2 (.slice go k gc) k RE by rw [hw4]; exact HOE.out.alloc _)
          have HB4 := hid (show Below (w.heap.size + 2) ((w.alloc (.cells #[.slice (some a) n sc, .int .i64 s, .int .i64 f] 28)).alloc (.cells #[.slice none 0 0, .int .i64 0, .int .i64 0] 28)) w4 by rw [hw4]; exact HB.out.alloc (by omega) _)
          have HBT4 := hid (show But1 p5 (p5 + 1) w3 w4 from ⟨by rw [hw4]; exact HBT.out.os, by rw [hw4]; exact HBT.out.tape, by rw [hw4]; exact HBT.out.output, by have := HBT.out.size; omega, fun b hb hne => (hblk4 b (by omega)).trans (HBT.out.block b hb hne)⟩)
          have HCP4 := hid (HCP.out.keep (w' := w4) (X' := fun b => b < p5 + 1 ∨ (Value.slice go k gc).ownBlock = some b) ⟨by omega, fun b hb _ => hblk4 b hb, fun _ _ h => h⟩)
          have hp57 : p5 < p7 := by omega
          have HOG := hid (show ∀ b, (Value.slice go k gc).ownBlock = some b → b < p7 from fun b hb => by have := (HOE.out.lt b hb).2; omega)
          have HS4 := hid hs4
          have hw45 : w.heap.size + 2 ≤ w4.heap.size := by omega
          clear hs4 hw4 hp7 hr4 hblk4 x0 x1 fz c0 f0 u0 u1 hpl HP HOE HB HBT HCP
          refine wp_region_mix [(0, true), (1, true), (3, true), (4, true), (6, true), (7, true), (2, false), (5, false), (8, true), (9, false), (10, false), (11, true), (12, false)] (fun w' => w'.cell? ⟨p5, 0, none⟩ = some (.slice go k gc) ∧ w'.cell? ⟨p7, 0, none⟩ = some (.slice co cn cc) ∧ w'.cell? ⟨p7, 1, none⟩ = some (.int .i64 t)) (fun j => j == 12) (by kernel_rfl) (by kernel_rfl) (fun j hj => by have := beq_iff_eq.1 hj; subst this; decide) rfl (by kernel_rfl) ⟨x4, y0, y1⟩ ?_
          iterate 6 (refine mix_free ?_ rfl (by kernel_rfl) (fun w' hS => ?_) ?_; (rotate_left; (obtain ⟨s1, s2, s3⟩ := hS; go_simp; with_reducible rfl); rotate_left))
          refine mix_go rfl (by kernel_rfl) fun KK hKK => ?_
          go_simp
          refine hKK _ _ (fun _ => ⟨cell_al x4, cell_al y0, cell_al y1⟩) ?_
          clear hKK KK
          have HW5 := hid (show (w4.alloc (.cells #[] 3)).drew.ownsRow w4.heap.size 3 1 (.slice (some ⟨w4.heap.size, 0, none⟩) 0 0) 0 [] from (World.ownsRow_lit w4 #[] 0 (Nat.le_refl _) (by decide) (by simp)).drew)
          have HB5 := hid (show Below (w.heap.size + 2) ((w.alloc (.cells #[.slice (some a) n sc, .int .i64 s, .int .i64 f] 28)).alloc (.cells #[.slice none 0 0, .int .i64 0, .int .i64 0] 28)) (w4.alloc (.cells #[] 3)).drew from (HB4.out.alloc hw45 _).drew)
          refine mix_go rfl (by kernel_rfl) fun KK hKK => ?_
          refine wp_copy _ _ rfl w4.heap.size w4.heap.size rfl HW5.out co cn cc C rfl (HCR.out.below (two_low HB5.out)) HCN.out hcl (by show w4.heap.size ≤ (w4.alloc _).heap.size; simp) ?_
          intro q qc w6 o6 gr6 hq6 hlt6
          have hs6 : w4.heap.size + 1 ≤ w6.heap.size := by have h := gr6.size; have h' : (w4.alloc (.cells #[] 3)).heap.size ≤ w6.heap.size := h; simpa using h'
          have hq4 : w4.heap.size ≤ q := by
            rcases hq6 with h | h
            · omega
            · have h' : q = (w4.alloc (.cells #[] 3)).heap.size := h
              simp at h'
              omega
          have hblk6 : ∀ b, b < w4.heap.size → w6.heap[b]? = w4.heap[b]? := fun b hb => (gr6.block b (by show b < (w4.alloc _).heap.size; simp; omega) (fun e => by have := Option.some.inj e; omega)).trans (al_old _ _ hb)
          have HBK6 := hid hblk6
          have x6 : w6.cell? ⟨p5, 0, none⟩ = some (.slice go k gc) := (World.cell?_of_block (hblk6 p5 (by have := HS4.out; omega))).trans x4
          have y6 : w6.cell? ⟨p7, 0, none⟩ = some (.slice co cn cc) := (World.cell?_of_block (hblk6 p7 (by have := HS4.out; omega))).trans y0
          have z6 : w6.cell? ⟨p7, 1, none⟩ = some (.int .i64 t) := (World.cell?_of_block (hblk6 p7 (by have := HS4.out; omega))).trans y1
          refine hKK _ _ (fun _ => ⟨x6, y6, z6⟩) ?_
          clear hKK KK
          refine mix_free ?_ rfl (by kernel_rfl) (fun w' hS => ?_) ?_; (rotate_left; (obtain ⟨s1, s2, s3⟩ := hS; go_simp; with_reducible rfl); rotate_left)
          have HO6 := hid o6
          have HT6 := hid (show w6.os = w4.os ∧ w6.tape = w4.tape ∧ w6.output = w4.output from ⟨gr6.os, gr6.tape, gr6.output⟩)
          have HQ4 := hid hq4
          have HS6 := hid hs6
          have HLT6 := hid hlt6
          clear o6 gr6 hq6 hblk6 hq4 hs6 hlt6 HW5 HB5 x4 y0 y1
          refine mix_go rfl (by kernel_rfl) fun KK hKK => ?_
          go_simp
          refine hKK _ _ (fun _ => ⟨cell_al x6, cell_al y6, cell_al z6⟩) ?_
          clear hKK KK
          have HOE6 := hid (show w6.ownsRow (p5 + 1) 88 2 (.slice go k gc) k RE from own_same HOE4.out (fun b _ hb => HBK6.out b hb))
          refine mix_go rfl (by kernel_rfl) fun KK hKK => ?_
          refine wp_append_lies _ _ _ 84 rfl (p5 + 1) 88 i88 (.agg #[.slice none 0 0, .int .i64 0]) 2 32 Tryd.underlying84 hi88 he0 he1 he2 rfl (by decide) (.slice go k gc) k RE rfl (HOE6.out.alloc _) ⟨w6.heap.size, 0, none⟩ 1 1 [.slice (some ⟨q, 0, none⟩) cn qc, .int .i64 t] rfl rfl (news_two w6 _ _ 88) (fun u hu => by simp at hu; rcases hu with h | h <;> rw [h] <;> rfl) (by decide) (by unfold maxLen; omega) (by omega) (by show p5 + 1 ≤ (w6.alloc _).heap.size; have h1 := HS4.out; have h2 := HS6.out; simp; omega) (w6.alloc (.cells #[.slice (some ⟨q, 0, none⟩) cn qc, .int .i64 t] 88)).heap.size rfl ?_
          intro g8 c8 w8 o8 gr8 hl8 hlt8
          have hs8 : w6.heap.size + 1 ≤ w8.heap.size := by
            have h : (w6.alloc (.cells #[.slice (some ⟨q, 0, none⟩) cn qc, .int .i64 t] 88)).heap.size ≤ w8.heap.size := gr8.size
            simpa using h
          have hblk8 : ∀ b, b < w6.heap.size → (Value.slice go k gc).ownBlock ≠ some b → w8.heap[b]? = w6.heap[b]? := fun b hb hne => (gr8.block b (by show b < (w6.alloc _).heap.size; simp; omega) (fun e => hne e.symm)).trans (al_old _ _ hb)
          have hn5 : (Value.slice go k gc).ownBlock ≠ some p5 := fun e => by have := (HOE6.out.lt p5 e).1; omega
          have hn7 : (Value.slice go k gc).ownBlock ≠ some p7 := fun e => by have := HOG.out p7 e; omega
          have h56 : p5 < w6.heap.size := by have h1 := HS4.out; have h2 := HS6.out; omega
          have h76 : p7 < w6.heap.size := by have h1 := HS4.out; have h2 := HS6.out; omega
          have x8 : w8.cell? ⟨p5, 0, none⟩ = some (.slice go k gc) := (World.cell?_of_block (hblk8 p5 h56 hn5)).trans x6
          have y8 : w8.cell? ⟨p7, 0, none⟩ = some (.slice co cn cc) := (World.cell?_of_block (hblk8 p7 h76 hn7)).trans y6
          have z8 : w8.cell? ⟨p7, 1, none⟩ = some (.int .i64 t) := (World.cell?_of_block (hblk8 p7 h76 hn7)).trans z6
          have hp8 : w8.heap[p5]? = some (.cells #[.slice go k gc, .slice (some ⟨g, 0, none⟩) fn gcap] 86) := (hblk8 p5 h56 hn5).trans ((HBK6.out p5 (by have := HS4.out; omega)).trans HP4.out)
          have fz := frozen_of_row w8 p5 0 _ 86 hp8
          have hg8 : p5 + 1 ≤ g8 := (o8.lt g8 rfl).1
          have hq8 : g8 ≠ q := fun e => by
            rcases hl8 with h | h
            · have h1 := HOG.out g8 h; have h2 := HQ4.out; have h3 := HS4.out; omega
            · have h' : g8 = (w6.alloc (.cells #[.slice (some ⟨q, 0, none⟩) cn qc, .int .i64 t] 88)).heap.size := h
              have h1 := HLT6.out
              simp at h'
              omega
          have hset : ∀ b, b ≠ p5 → (w8.setCell ⟨p5, 0, none⟩ (.slice (some ⟨g8, 0, none⟩) (k + 1) c8)).heap[b]? = w8.heap[b]? := fun b hb => heap_setCell_other w8 ⟨p5, 0, none⟩ b _ (fun e => hb e)
          have hss : (w8.setCell ⟨p5, 0, none⟩ (.slice (some ⟨g8, 0, none⟩) (k + 1) c8)).heap.size = w8.heap.size := by simp
          have HP9 := hid (show (w8.setCell ⟨p5, 0, none⟩ (.slice (some ⟨g8, 0, none⟩) (k + 1) c8)).heap[p5]? = some (.cells #[.slice (some ⟨g8, 0, none⟩) (k + 1) c8, .slice (some ⟨g, 0, none⟩) fn gcap] 86) from (heap_setCell_same w8 p5 0 _ 86 _ hp8).trans rfl)
          have HOE9 := hid (show (w8.setCell ⟨p5, 0, none⟩ (.slice (some ⟨g8, 0, none⟩) (k + 1) c8)).ownsRow (p5 + 1) 88 2 (.slice (some ⟨g8, 0, none⟩) (k + 1) c8) (k + 1) (RE ++ [.slice (some ⟨q, 0, none⟩) cn qc, .int .i64 t]) from own_same o8 (fun b hb _ => hset b (by have e : g8 = b := Option.some.inj hb; omega)))
          have hall : ∀ b, b < w4.heap.size → b ≠ p5 → (Value.slice go k gc).ownBlock ≠ some b → (w8.setCell ⟨p5, 0, none⟩ (.slice (some ⟨g8, 0, none⟩) (k + 1) c8)).heap[b]? = w4.heap[b]? := fun b hb hne hno => (hset b hne).trans ((hblk8 b (by have := HS6.out; omega) hno).trans (HBK6.out b hb))
          have HBT9 := hid (show But1 p5 (p5 + 1) w3 (w8.setCell ⟨p5, 0, none⟩ (.slice (some ⟨g8, 0, none⟩) (k + 1) c8)) from ⟨(show w8.os = w6.os from gr8.os).trans (HT6.out.1.trans HBT4.out.os), (show w8.tape = w6.tape from gr8.tape).trans (HT6.out.2.1.trans HBT4.out.tape), (show w8.output = w6.output from gr8.output).trans (HT6.out.2.2.trans HBT4.out.output), by rw [hss]; have h1 := HBT4.out.size; have h2 := HS6.out; omega, fun b hb hne => (hall b (by have := HS4.out; omega) hne (fun e => by have := (HOE6.out.lt b e).1; omega)).trans (HBT4.out.block b hb hne)⟩)
          have HCP9 := hid (show CpE (w8.setCell ⟨p5, 0, none⟩ (.slice (some ⟨g8, 0, none⟩) (k + 1) c8)) (fun b => b < p5 + 1 ∨ (Value.slice (some ⟨g8, 0, none⟩) (k + 1) c8).ownBlock = some b) E (k + 1) (RE ++ [.slice (some ⟨q, 0, none⟩) cn qc, .int .i64 t]) from by
            have hk9 : CpE (w8.setCell ⟨p5, 0, none⟩ (.slice (some ⟨g8, 0, none⟩) (k + 1) c8)) (fun b => b < p5 + 1 ∨ (Value.slice (some ⟨g8, 0, none⟩) (k + 1) c8).ownBlock = some b) E k RE := HCP4.out.keep ⟨by rw [hss]; have := HS6.out; omega, fun b hb hx => hall b hb (fun e => hx (.inl (by omega))) (fun e => hx (.inr e)), fun b hb hx => by
              rcases hx with h | h
              · exact .inl h
              · have e : g8 = b := Option.some.inj h
                subst e
                rcases hl8 with h | h
                · exact .inr h
                · have h' : g8 = (w6.alloc (.cells #[.slice (some ⟨q, 0, none⟩) cn qc, .int .i64 t] 88)).heap.size := h
                  have := HS6.out
                  simp at h'
                  omega⟩
            have hlen : RE.length = k * 2 := HOE4.out.1
            have hcn : cn = C.length := HCN.out
            rw [hcn]
            refine hk9.next hlen HCT.out (fun j z hz => ?_)
            obtain ⟨q', e, _, hq', hc⟩ := own_at HO6.out hz
            cases e
            refine ⟨_, rfl, by show q < _; rw [hss]; omega, ?_, ?_⟩
            · rintro (h | h)
              · have h1 : q < p5 + 1 := h
                have h2 := HQ4.out; have h3 := HS4.out; omega
              · exact hq8 (Option.some.inj h)
            · have h1 := HQ4.out
              have h2 := HS4.out
              rw [Addr.add_lit, Nat.zero_add, World.cell?_of_block (w := w6) (a := ⟨q, j, none⟩) ((hset q (by omega)).trans (hblk8 q hq' (fun e => by have := HOG.out q e; omega)))]
              exact hc)
          refine hKK _ _ (fun _ => ⟨x8, y8, z8⟩) ?_
          clear hKK KK o8 gr8 hl8 hlt8 hblk8 hset hss hall hq8
          refine mix_free ?_ rfl (by kernel_rfl) (fun w' hS => ?_) ?_; (rotate_left; (obtain ⟨s1, s2, s3⟩ := hS; go_simp; with_reducible rfl); rotate_left)
          refine mix_go rfl (by kernel_rfl) fun KK hKK => ?_
          go_simp
          refine hKK _ _ (fun h => by cases h) ?_
          clear hKK KK
          refine mix_end (NoPanic.normal ?_)
          go_wp2
          go_roundw
          case rel => exact ⟨k + 1, some ⟨g8, 0, none⟩, c8, _, by go_num, by omega, HP9, HOE9, HCP9, HBT9⟩
          case measure => simp [intOf]; omega
        · have k3 : ¬ (k : Int) < (en : Int) := by omega
          have hke : en = k := by omega
          have HEK := hid hke
          have hsz : w.heap.size + 2 ≤ wr.heap.size := by have := HB.out.size; simpa using this
          have HOW := hid (own_same HO3.out (W' := wr) (fun b hb _ => HBT.out.block b (by have := HLP.out b hb; omega) (by have := HLP.out b hb; omega)))
          clear hke
          go_wp2_with (at_builtin; go_loud (refine wpList_append_lies _ rfl _ _ 26 rfl (w.heap.size + 2) 86 i86 (.agg #[.slice none 0 0, .slice none 0 0]) 2 48 Tryd.underlying26 hi86 hs0 hs1 hs2 rfl (by decide) (.slice lo i lc) i R rfl (HOW.out.alloc _) ⟨wr.heap.size, 0, none⟩ 1 1 [.slice go k gc, .slice (some ⟨g, 0, none⟩) fn gcap] rfl rfl (news_two wr _ _ 86) (fun u hu => by simp at hu; rcases hu with h | h <;> rw [h] <;> rfl) (by decide) (by unfold maxLen; omega) (by omega) (by simp; omega) (wr.heap.size + 1) (by simp) ?_); intro g9 c9 w9 o9 gr9 hl9 hlt9)
          have hs9 : wr.heap.size + 1 ≤ w9.heap.size := by have := gr9.size; simpa using this
          have hblk9 : ∀ b, b < wr.heap.size → (Value.slice lo i lc).ownBlock ≠ some b → w9.heap[b]? = wr.heap[b]? := fun b hb hne => (gr9.block b (by simp; omega) (fun e => hne e.symm)).trans (al_old _ _ hb)
          have hsub : ∀ b, b < wr.heap.size → (Value.slice (some ⟨g9, 0, none⟩) (i + 1) c9).ownBlock = some b → (Value.slice lo i lc).ownBlock = some b := fun b hb e => by
            have e' : g9 = b := Option.some.inj e
            subst e'
            exact hl9.elim id (fun h => by omega)
          have hKS : Kp w3 w9 (fun b => (b < w.heap.size + 2 ∨ (Value.slice lo i lc).ownBlock = some b) ∨ b = p5) (fun b => b < w.heap.size + 2 ∨ (Value.slice (some ⟨g9, 0, none⟩) (i + 1) c9).ownBlock = some b) := ⟨by have := HBT.out.size; omega, fun b hb hx => (hblk9 b (by have := HBT.out.size; omega) (fun e => hx (.inl (.inr e)))).trans (HBT.out.block b (by omega) (fun e => hx (.inr e))), fun b hb e => .inl (e.elim .inl (fun e => .inr (hsub b (by have := HBT.out.size; omega) e)))⟩
          have hRE : RdEx w9 (fun b => b < w.heap.size + 2 ∨ (Value.slice (some ⟨g9, 0, none⟩) (i + 1) c9).ownBlock = some b) go E := (rdex_of HOE.out HCP.out (by have h1 := HEK.out; have h2 := HEN.out; omega) (X' := fun b => b < p5 + 1) (fun b hb h => by omega) (fun b h => .inl h)).keep ⟨by omega, fun b hb hx => hblk9 b hb (fun e => hx (by have := HLP.out b e; omega)), fun b hb e => by (rcases e with e | e; (· omega); (· have := HLP.out b (hsub b hb e); omega))⟩
          have HCS9 := hid (show CpS w9 (fun b => b < w.heap.size + 2 ∨ (Value.slice (some ⟨g9, 0, none⟩) (i + 1) c9).ownBlock = some b) L (i + 1) (R ++ [.slice go k gc, .slice (some ⟨g, 0, none⟩) fn gcap]) from by
            have h1 := (HC3.out.keep hKS).next (ec := gc) (fc := gcap) HO3.out.1 HEF.out hRE (HF3.out.keep hKS)
            rw [← HEN.out, ← HFN.out, HEK.out] at h1
            exact h1)
          have HO9 := hid o9
          have HB9 := hid ((HB.out.alloc hsz (.cells #[.slice go k gc, .slice (some ⟨g, 0, none⟩) fn gcap] 86)).grown gr9 (by simp; omega) (fun b hb => (HOW.out.lt b hb).1))
          clear o9 gr9 hl9 hlt9 hblk9 hsub hKS hRE
          go_roundw
          case rel => exact ⟨i + 1, some ⟨g9, 0, none⟩, c9, _, rfl, by go_num, by omega, HO9, HCS9, HB9⟩
          case measure => simp [intOf]; omega
    · have i3 : ¬ (i : Int) < (n : Int) := by omega
      have c1 : wr.cell? ⟨w.heap.size, 1, none⟩ = some (.int .i64 s) := (two_box HB.out).1 1
      have c2 : wr.cell? ⟨w.heap.size, 2, none⟩ = some (.int .i64 f) := (two_box HB.out).1 2
      have hin : i = n := by omega
      subst hin
      have HBD := hid (show ∀ s ∈ L, s.1.length ≤ most ∧ s.2.length ≤ most ∧ ∀ e ∈ s.1, e.1.length ≤ most from fun x hx => by obtain ⟨h1, h2, h3⟩ := HE.out x hx; unfold most; exact ⟨by omega, by omega, fun e he => by have := h3 e he; omega⟩)
      have r0 : wr.cell? ⟨w.heap.size + 1, 0, none⟩ = some (.slice none 0 0) := (two_box HB.out).2 0
      have r1 : wr.cell? ⟨w.heap.size + 1, 1, none⟩ = some (.int .i64 0) := (two_box HB.out).2 1
      have r2 : wr.cell? ⟨w.heap.size + 1, 2, none⟩ = some (.int .i64 0) := (two_box HB.out).2 2
      have hr : wr.heap[w.heap.size + 1]? = some (.cells #[.slice none 0 0, .int .i64 0, .int .i64 0] 28) := by rw [HB.out.block (w.heap.size + 1) (by omega), al_new _ _ (by simp)]
      have z0 := frozen_of_row wr (w.heap.size + 1) 0 _ 28 hr
      have z1 := frozen_of_row wr (w.heap.size + 1) 1 _ 28 hr
      have z2 := frozen_of_row wr (w.heap.size + 1) 2 _ 28 hr
      have HR := hid hr
      clear hr
      go_wp2
      (try simp only [Exit.inBlock, Exit.then])
      have e1 := heap_setCell_same wr (w.heap.size + 1) 0 _ 28 (.slice lo i lc) HR.out
      have e2 := heap_setCell_same _ (w.heap.size + 1) 1 _ 28 (.int .i64 s) e1
      have e3 := heap_setCell_same _ (w.heap.size + 1) 2 _ 28 (.int .i64 f) e2
      refine bodyPost_ret (results_cell_row rfl _ _ (w.heap.size + 1) 28 #[.slice lo i lc, .int .i64 s, .int .i64 f] (0, 0) _ rfl e3 Tryd.underlying28 rfl (by kernel_rfl)) rfl ?_
      have hoth : ∀ b, b ≠ w.heap.size + 1 → (((wr.setCell ⟨w.heap.size + 1, 0, none⟩ (.slice lo i lc)).setCell ⟨w.heap.size + 1, 1, none⟩ (.int .i64 s)).setCell ⟨w.heap.size + 1, 2, none⟩ (.int .i64 f)).heap[b]? = wr.heap[b]? := fun b hb => by
        rw [heap_setCell_other _ ⟨w.heap.size + 1, 2, none⟩ b _ (fun e => hb e), heap_setCell_other _ ⟨w.heap.size + 1, 1, none⟩ b _ (fun e => hb e), heap_setCell_other _ ⟨w.heap.size + 1, 0, none⟩ b _ (fun e => hb e)]
      have hfin : Below w.heap.size w (((wr.setCell ⟨w.heap.size + 1, 0, none⟩ (.slice lo i lc)).setCell ⟨w.heap.size + 1, 1, none⟩ (.int .i64 s)).setCell ⟨w.heap.size + 1, 2, none⟩ (.int .i64 f)) := (two_low HB.out).trans ⟨rfl, rfl, rfl, by simp, fun b hb => hoth b (by omega)⟩
      refine ⟨lo, lc, rfl, ?_, hfin⟩
      exact rds_of (own_same HO.out (fun b hb _ => hoth b (by have := (HO.out.lt b hb).1; omega))) (HC.out.keep (X' := fun b => b < w.heap.size + 2 ∨ (Value.slice lo i lc).ownBlock = some b) ⟨by simp, fun b hb hx => hoth b (fun e => hx (.inl (by omega))), fun _ _ h => h⟩) HN.out HBD.out
end Go.Proofs.YteacehfihogmpaaDoor
