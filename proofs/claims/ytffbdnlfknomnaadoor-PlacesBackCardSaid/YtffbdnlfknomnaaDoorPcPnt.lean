/- The contracts of Point and At (package places) at short texts, at what PlacesBack asks. -/
import Derived.Test.YtffbdnlfknomnaaDoorPcLin
namespace Go.Proofs.YtffbdnlfknomnaaDoor.Wt
open Go.RowKit Go.Shelf

theorem cntL_le (l : List UInt8) (hl : l.length ≤ 100) (z : Int) : cntB (lettersL l) z ≤ 100 := by
  have := List.length_filter_le (fun (q : Nat) => decide ((q : Int) < z)) (lettersL l)
  have h2 := rise_len (letters_scl.rise l) (letters_scl.lt l)
  unfold cntB; omega
set_option maxHeartbeats 2000000 in
theorem point_any (X : Nat) (l : List UInt8) (ku kr kl ke : Value) (w : World) (h : IxAt w X l ku kr kl ke) (z r : Nat) (hr : cntB (endsL l) (z : Nat) = r) (hrl : r ≤ (endsL l).length) (hF : lnF l r ≤ z) (hT : z ≤ lnT l r) (ht : TbW w) (hl : l.length ≤ 100) :
    Calls Tryd.prog 21 #[.pointer (some ⟨X, 0, none⟩), .int .i64 z] w fun e w' => e = .returned (.agg #[.int .i64 r, .int .i64 ((cntB (lettersL l) z : Int) - cntB (lettersL l) (lnF l r : Nat))]) ∧ Below w.heap.size w w' := by
  have HT := hid ht
  have hB0 : Below w.heap.size w (w.alloc (.cells #[.int .i64 0, .int .i64 0] 52)) := (Below.refl _ _).alloc (Nat.le_refl _) _
  have HI := hid (h.below hB0)
  have HT0 := hid (ht.below hB0)
  have HC0 := hid (Cb.new w #[.int .i64 0, .int .i64 0] 52)
  have HR := hid hr
  have HRL := hid hrl
  obtain ⟨sg, sl, sc, rfl⟩ := h.je.slice
  obtain ⟨f, hf⟩ : ∃ f, f = lnF l r := ⟨_, rfl⟩
  obtain ⟨t, htt⟩ : ∃ t, t = lnT l r := ⟨_, rfl⟩
  have HFF := hid hf
  have HTT := hid htt
  rw [← hf] at hF ⊢
  rw [← htt] at hT
  have hmin : min (z : Int) (t : Int) = (z : Int) := by omega
  have hzf : ¬ (z : Int) < (f : Int) := by omega
  obtain ⟨n, hn⟩ : ∃ n, n = (endsL l).length := ⟨_, rfl⟩
  have HN := hid hn
  obtain ⟨k, hk⟩ : ∃ k : Int, k = (cntB (lettersL l) z : Int) - cntB (lettersL l) (f : Nat) := ⟨_, rfl⟩
  have HK := hid hk
  rw [← hk]
  obtain ⟨w0, hw0⟩ : ∃ w0, w0 = w.alloc (.cells #[.int .i64 0, .int .i64 0] 52) := ⟨_, rfl⟩
  have HBW := hid hB0
  have hs0 : w0.heap.size = w.heap.size + 1 := by rw [hw0]; simp
  rw [← hw0] at HI HT0 HC0 HBW
  obtain ⟨c0, c1, c2, c3⟩ := HI.out.ce
  rw [← hn] at c2
  have hr0 : (0 : Int) < (r : Int) ∨ ¬ (0 : Int) < (r : Int) := by omega
  clear h ht hr hrl hf htt hn hB0 hk
  go_enter Tryd.func21, Tryd.ntmps21
  rw [hw0] at c0 c1 c2 c3
  go_wp2_with fail
  rw [← hw0]
  rw [HN.out]
  refine (below_any _ _ _ ends_cnt l 0 (.slice sg sl sc) (z : Nat) w0 HT0.out hl HI.out.je).mono ?_
  rintro e w1 ⟨rfl, be1⟩
  rw [HR.out]
  have HB1 := hid (HBW.out.trans (be1.mono (by omega)))
  have HI1 := hid (HI.out.below be1)
  have HC1 := hid (HC0.out.below be1)
  have HT1 := hid (HT0.out.below be1)
  clear be1 c0 c1 c2 c3 hw0
  go_wp2_with fail
  refine (line_any X l ku kr kl (.slice sg sl sc) w1 HI1.out r HRL.out HT1.out hl).mono ?_
  rintro e w2 ⟨rfl, be2⟩
  rw [← HFF.out, ← HTT.out]
  have HB2 := hid (HB1.out.trans (be2.mono HB1.out.size))
  have HI2 := hid (HI1.out.below be2)
  have HC2 := hid (HC1.out.below be2)
  have HT2 := hid (HT1.out.below be2)
  clear be2
  obtain ⟨nx, hnx⟩ : ∃ nx : Nat, nx = nxl l t := ⟨_, rfl⟩
  rw [← hnx]
  clear hnx
  rcases hr0 with hr0 | hr0
  all_goals
    go_wp2_with fail
    refine (lettersIn_any X l ku kr kl (.slice sg sl sc) w2 HI2.out (f : Nat) (z : Nat) HT2.out hl).mono ?_
    rintro e w3 ⟨rfl, be3⟩
    rw [← HK.out]
    have HB3 := hid (HB2.out.trans (be3.mono HB2.out.size))
    have HC3 := hid (HC2.out.below be3)
    have d0 := HC3.out.cell 0
    have d1 := HC3.out.cell 1
    have e0 := HC3.out.frozen 0
    have e1 := HC3.out.frozen 1
    simp only [List.getElem?_toArray, List.getElem?_cons_zero, List.getElem?_cons_succ] at d0 d1
    clear be3
    go_wp2
    refine bodyPost_ret (results_cell_row rfl _ _ w.heap.size 52 #[.int .i64 (r : Nat), .int .i64 k] (0, 0) _ rfl ((HC3.out.set 0 (.int .i64 (r : Nat))).set 1 (.int .i64 k)) Tryd.underlying52 rfl (by kernel_rfl)) rfl ?_
    exact ⟨rfl, (HB3.out.setCell (p := ⟨w.heap.size, 0, none⟩) (Nat.le_refl _) _).setCell (p := ⟨w.heap.size, 1, none⟩) (Nat.le_refl _) _⟩
/-- What At answers. -/
def atV (k c : Int) (t p : Nat) : Nat := if k ≤ c then t else p
set_option maxHeartbeats 4000000 in
theorem at_any (X : Nat) (l : List UInt8) (ku kr kl ke : Value) (w : World) (h : IxAt w X l ku kr kl ke) (r : Nat) (c : Int) (hrl : r ≤ (endsL l).length) (hc : 0 ≤ c) (hc2 : c ≤ 1000) (ht : TbW w) (hl : l.length ≤ 100) :
    Calls Tryd.prog 20 #[.pointer (some ⟨X, 0, none⟩), .agg #[.int .i64 r, .int .i64 c]] w fun e w' => e = .returned (.int .i64 (atV ((cntB (lettersL l) (lnT l r : Nat) : Int) - cntB (lettersL l) (lnF l r : Nat)) c (lnT l r) (plcB (lettersL l) ((cntB (lettersL l) (lnF l r : Nat) : Int) + c) l.length) : Nat)) ∧ Below w.heap.size w w' := by
  have HT := hid ht
  have hB0 : Below w.heap.size w (w.alloc (.cells #[.int .i64 r, .int .i64 c] 52)) := (Below.refl _ _).alloc (Nat.le_refl _) _
  have HI := hid (h.below hB0)
  have HT0 := hid (ht.below hB0)
  have HC0 := hid (Cb.new w #[.int .i64 r, .int .i64 c] 52)
  have HRL := hid hrl
  have hE := ends_len l
  have hF1 := cntL_le l hl (lnF l r : Nat)
  obtain ⟨sg, sl, sc, rfl⟩ := h.jl.slice
  obtain ⟨f, hf⟩ : ∃ f, f = lnF l r := ⟨_, rfl⟩
  obtain ⟨t, htt⟩ : ∃ t, t = lnT l r := ⟨_, rfl⟩
  have HFF := hid hf
  have HTT := hid htt
  rw [← hf] at hF1 ⊢
  rw [← htt]
  obtain ⟨n, hn⟩ : ∃ n, n = (endsL l).length := ⟨_, rfl⟩
  have HN := hid hn
  rw [← hn] at hrl hE
  have hrn : ¬ ((n : Int) + 1) ≤ (r : Int) := by omega
  have hr0 : ¬ (r : Int) < 0 := by omega
  have HEE := hid hE
  have hc0 : ¬ c < 0 := by omega
  obtain ⟨k, hk⟩ : ∃ k : Int, k = (cntB (lettersL l) (t : Nat) : Int) - cntB (lettersL l) (f : Nat) := ⟨_, rfl⟩
  have HK := hid hk
  rw [← hk]
  obtain ⟨a, ha⟩ : ∃ a, a = cntB (lettersL l) (f : Nat) := ⟨_, rfl⟩
  have HA := hid ha
  rw [← ha] at hF1 ⊢
  obtain ⟨nl, hnl⟩ : ∃ nl, nl = (lettersL l).length := ⟨_, rfl⟩
  have HNL := hid hnl
  obtain ⟨w0, hw0⟩ : ∃ w0, w0 = w.alloc (.cells #[.int .i64 r, .int .i64 c] 52) := ⟨_, rfl⟩
  have HBW := hid hB0
  have hs0 : w0.heap.size = w.heap.size + 1 := by rw [hw0]; simp
  have HW0 := hid hw0
  rw [← hw0] at HI HT0 HC0 HBW
  clear h ht hrl hf htt hn hB0 hk ha hnl hE hw0
  go_enter Tryd.func20, Tryd.ntmps20
  go_wp2_with fail
  rw [← HW0.out]
  refine wp_region_mix [(0, true), (1, true), (2, true), (3, false), (4, true), (5, true)] (fun w' => Cb w' w.heap.size #[.int .i64 r, .int .i64 c] 52) (fun _ => false) (by kernel_rfl) (by kernel_rfl) (fun j hj => by cases hj) rfl (by kernel_rfl) HC0.out.dr ?_
  iterate 3 (refine mix_free ?_ rfl (by kernel_rfl) (fun w' hS => ?_) ?_; (rotate_left; (have z0 := hS.cell 0; have z1 := hS.cell 1; simp only [List.getElem?_toArray, List.getElem?_cons_zero, List.getElem?_cons_succ] at z0 z1; go_simp; with_reducible rfl); rotate_left))
  refine mix_go rfl (by kernel_rfl) fun KK hKK => ?_
  go_simp
  refine (lines_any X l ku kr (.slice sg sl sc) ke w0.drew HI.out.dr (by rw [← HN.out]; have := HEE.out; omega)).mono ?_
  rintro e w1 ⟨rfl, hw1⟩
  subst hw1
  rw [← HN.out]
  refine hKK _ _ (fun _ => HC0.out.dr) ?_
  clear hKK KK
  iterate 2 (refine mix_free ?_ rfl (by kernel_rfl) (fun w' hS => ?_) ?_; (rotate_left; (go_simp; with_reducible rfl); rotate_left))
  refine mix_end (NoPanic.normal ?_)
  go_simp
  have HI1 := hid HI.out.dr
  have HT1 := hid HT0.out.dr
  have HC1 := hid HC0.out.dr
  have HB1 := hid (show Below w.heap.size w w0.drew from HBW.out.trans ((Below.refl _ _).drew))
  have hs1 : w0.drew.heap.size = w.heap.size + 1 := hs0
  obtain ⟨w1, hw1⟩ : ∃ w1, w1 = w0.drew := ⟨_, rfl⟩
  rw [← hw1] at HI1 HT1 HC1 HB1 hs1 ⊢
  clear hw1 HI HT0 HC0 HBW hs0
  have d0 := HC1.out.cell 0
  have d1 := HC1.out.cell 1
  simp only [List.getElem?_toArray, List.getElem?_cons_zero, List.getElem?_cons_succ] at d0 d1
  go_wp2_with fail
  refine (line_any X l ku kr (.slice sg sl sc) ke w1 HI1.out r HRL.out HT1.out hl).mono ?_
  rintro e w2 ⟨rfl, be2⟩
  rw [← HFF.out, ← HTT.out]
  have HB2 := hid (HB1.out.trans (be2.mono HB1.out.size))
  have HI2 := hid (HI1.out.below be2)
  have HC2 := hid (HC1.out.below be2)
  have HT2 := hid (HT1.out.below be2)
  clear be2 d0 d1
  obtain ⟨nx, hnx⟩ : ∃ nx : Nat, nx = nxl l t := ⟨_, rfl⟩
  rw [← hnx]
  clear hnx
  have d0 := HC2.out.cell 0
  have d1 := HC2.out.cell 1
  simp only [List.getElem?_toArray, List.getElem?_cons_zero, List.getElem?_cons_succ] at d0 d1
  go_wp2_with fail
  refine wp_region_mix [(0, true), (1, true), (2, true), (3, true), (4, true), (5, false), (6, true), (7, true)] (fun w' => Cb w' w.heap.size #[.int .i64 r, .int .i64 c] 52) (fun _ => false) (by kernel_rfl) (by kernel_rfl) (fun j hj => by cases hj) rfl (by kernel_rfl) HC2.out.dr ?_
  iterate 5 (refine mix_free ?_ rfl (by kernel_rfl) (fun w' hS => ?_) ?_; (rotate_left; (have z0 := hS.cell 0; have z1 := hS.cell 1; simp only [List.getElem?_toArray, List.getElem?_cons_zero, List.getElem?_cons_succ] at z0 z1; go_simp; with_reducible rfl); rotate_left))
  refine mix_go rfl (by kernel_rfl) fun KK hKK => ?_
  go_simp
  refine (lettersIn_any X l ku kr (.slice sg sl sc) ke w2.drew HI2.out.dr (f : Nat) (t : Nat) HT2.out.dr hl).mono ?_
  rintro e w3 ⟨rfl, be3⟩
  rw [← HA.out] at HK ⊢
  rw [← HK.out]
  have HB3 := hid (HB2.out.trans (show Below w.heap.size w2 w3 from ((Below.refl _ _).drew).trans (be3.mono HB2.out.size)))
  have HI3 := hid (HI2.out.dr.below be3)
  have HC3 := hid (HC2.out.dr.below be3)
  have HT3 := hid (HT2.out.dr.below be3)
  refine hKK _ _ (fun _ => HC3.out) ?_
  clear hKK KK be3 d0 d1
  iterate 2 (refine mix_free ?_ rfl (by kernel_rfl) (fun w' hS => ?_) ?_; (rotate_left; (go_simp; with_reducible rfl); rotate_left))
  refine mix_end (NoPanic.normal ?_)
  go_simp
  by_cases hkc : k ≤ c
  · have HV := hid (show atV k c t (plcB (lettersL l) ((a : Int) + c) l.length) = t from if_pos hkc)
    go_wp2
    go_ret
    exact ⟨by rw [HV.out]; rfl, HB3.out⟩
  · have HV := hid (show atV k c t (plcB (lettersL l) ((a : Int) + c) l.length) = plcB (lettersL l) ((a : Int) + c) l.length from if_neg hkc)
    have hwa : IntKind.i64.wrap ((a : Int) + c) = (a : Int) + c := by rw [IntKind.wrap_i64]; omega
    go_wp2_with fail
    refine wp_region_mix [(0, true), (1, true), (2, true), (3, true), (4, true), (5, true), (6, true), (7, true), (8, true), (10, true), (11, true), (9, false), (12, true), (13, false), (14, true)] (fun w' => Cb w' w.heap.size #[.int .i64 r, .int .i64 c] 52 ∧ IxAt w' X l ku kr (.slice sg sl sc) ke) (fun _ => false) (by kernel_rfl) (by kernel_rfl) (fun j hj => by cases hj) rfl (by kernel_rfl) ⟨HC3.out.dr, HI3.out.dr⟩ ?_
    iterate 11 (refine mix_free ?_ rfl (by kernel_rfl) (fun w' hS => ?_) ?_; (rotate_left; (have z0 := hS.1.cell 0; have z1 := hS.1.cell 1; obtain ⟨y0, y1, y2, y3⟩ := hS.2.cl; simp only [List.getElem?_toArray, List.getElem?_cons_zero, List.getElem?_cons_succ] at z0 z1; go_simp; with_reducible rfl); rotate_left))
    refine mix_go rfl (by kernel_rfl) fun KK hKK => ?_
    go_simp
    refine (below_any _ _ _ letters_cnt l 0 (.slice sg sl sc) (f : Nat) w3.drew HT3.out.dr hl HI3.out.dr.jl).mono ?_
    rintro e w4 ⟨rfl, be4⟩
    rw [← HA.out]
    have HB4 := hid (HB3.out.trans (show Below w.heap.size w3 w4 from ((Below.refl _ _).drew).trans (be4.mono HB3.out.size)))
    have HI4 := hid (HI3.out.dr.below be4)
    have HC4 := hid (HC3.out.dr.below be4)
    have HT4 := hid (HT3.out.dr.below be4)
    refine hKK _ _ (fun _ => ⟨HC4.out, HI4.out⟩) ?_
    clear hKK KK be4
    iterate 1 (refine mix_free ?_ rfl (by kernel_rfl) (fun w' hS => ?_) ?_; (rotate_left; (go_simp; with_reducible rfl); rotate_left))
    refine mix_go rfl (by kernel_rfl) fun KK hKK => ?_
    go_simp
    refine (place_any _ _ _ letters_cnt l 0 (.slice sg sl sc) ((a : Int) + c) w4 HT4.out hl HI4.out.jl).mono ?_
    rintro e w5 ⟨rfl, be5⟩
    have HB5 := hid (HB4.out.trans (be5.mono HB4.out.size))
    refine hKK _ _ (fun _ => ⟨HC4.out.below be5, HI4.out.below be5⟩) ?_
    clear hKK KK be5
    iterate 1 (refine mix_free ?_ rfl (by kernel_rfl) (fun w' hS => ?_) ?_; (rotate_left; (go_simp; with_reducible rfl); rotate_left))
    refine mix_end (NoPanic.normal ?_)
    go_simp
    go_wp2
    go_ret
    exact ⟨by rw [HV.out]; rfl, HB5.out⟩
end Go.Proofs.YtffbdnlfknomnaaDoor.Wt
