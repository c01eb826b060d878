/- The contracts of Next (package grapheme) and of behind, Line, Point and At (package places) at short texts. -/
import Derived.Test.YtffbdnlfknomnaaDoorPcIdx1
import Derived.Test.YtffbdnlfknomnaaDoorPcLin0
namespace Go.Proofs.YtffbdnlfknomnaaDoor.Wt
open Go.RowKit Go.Shelf

theorem next_any (l : List UInt8) (p : Nat) (w : World) (ht : TbW w) (hl : l.length ≤ 100) :
    Calls Tryd.prog 65 #[.string ⟨l.toArray⟩, .int .i64 p] w fun e w' => e = .returned (.int .i64 (nxl l p : Nat)) ∧ Below w.heap.size w w' := by
  have HT := hid ht
  clear ht
  by_cases hp : p < l.length
  · have hpi : ¬ (l.length : Int) ≤ (p : Int) := by omega
    go_enter Tryd.func65, Tryd.ntmps65
    go_wp2_with fail
    refine (garound_any l p w HT.out (by omega) hp).mono ?_
    rintro e w1 ⟨f, t, rfl, ⟨h1, h2, h3⟩, be⟩
    have HN := hid (nxl_of l p f t h1 h2 h3)
    have HB := hid be
    clear h1 h2 h3 be
    go_wp2
    go_ret
    exact ⟨by rw [HN.out]; rfl, HB.out⟩
  · have hpi : (l.length : Int) ≤ (p : Int) := by omega
    have HN := hid (nxl_end l p (by omega))
    go_enter Tryd.func65, Tryd.ntmps65
    go_wp2
    go_ret
    exact ⟨by rw [HN.out]; rfl, Below.refl _ _⟩
theorem behind_any (l : List UInt8) (p : Nat) (w : World) (ht : TbW w) (hl : l.length ≤ 100) :
    Calls Tryd.prog 39 #[.string ⟨l.toArray⟩, .int .i64 p] w fun e w' => e = .returned (.int .i64 (nxl l p : Nat)) ∧ Below w.heap.size w w' := by
  have HT := hid ht
  clear ht
  go_enter Tryd.func39, Tryd.ntmps39
  go_wp2_with fail
  refine (next_any l p w HT.out hl).mono ?_
  rintro e w1 ⟨rfl, be⟩
  have HB := hid be
  clear be
  go_wp2
  go_ret
  exact ⟨rfl, HB.out⟩
theorem ends_len (l : List UInt8) : (endsL l).length ≤ l.length := rise_len (ends_scl.rise l) (ends_scl.lt l)
set_option maxHeartbeats 2000000 in
theorem line_any (X : Nat) (l : List UInt8) (ku kr kl ke : Value) (w : World) (h : IxAt w X l ku kr kl ke) (i : Nat) (hi : i ≤ (endsL l).length) (ht : TbW w) (hl : l.length ≤ 100) :
    Calls Tryd.prog 19 #[.pointer (some ⟨X, 0, none⟩), .int .i64 i] w fun e w' => e = .returned (.tuple #[.int .i64 (lnF l i : Nat), .int .i64 (lnT l i : Nat), .int .i64 (nxl l (lnT l i) : Nat)]) ∧ Below w.heap.size w w' := by
  have HI := hid h
  have HT := hid ht
  have hE := ends_len l
  obtain ⟨n, hn⟩ : ∃ n, n = (endsL l).length := ⟨_, rfl⟩
  have HN := hid hn
  rw [← hn] at hi hE
  have hin : ¬ ((n : Int) + 1) ≤ (i : Int) := by omega
  have hi0 : ¬ (i : Int) < 0 := by omega
  obtain ⟨sg, sl, sc, rfl⟩ := h.je.slice
  clear h ht hn
  have HPL := hid (fun (j : Nat) (W : World) (hb : Below w.heap.size w W) => (place_any _ _ _ ends_cnt l 0 (.slice sg sl sc) (j : Nat) W (HT.out.below hb) hl (HI.out.below hb).je))
  rw [← HN.out] at HPL
  go_enter Tryd.func19, Tryd.ntmps19
  go_wp2_with fail
  refine (lines_any X l ku kr kl (.slice sg sl sc) w HI.out (by rw [← HN.out]; omega)).mono ?_
  rintro e w1 ⟨rfl, hw1⟩
  obtain rfl := hw1.symm
  clear hw1
  rw [← HN.out]
  cases i with
  | zero =>
    obtain ⟨c0, c1, c2, c3⟩ := HI.out.ce
    rw [← HN.out] at c2
    go_wp2_with fail
    refine (HPL.out 0 w (Below.refl _ _)).mono ?_
    rintro e w2 ⟨rfl, be⟩
    rw [plc_T]
    have HB := hid be
    have ct := (HI.out.below be).ct
    clear be c0 c1 c2 c3
    go_wp2_with fail
    refine (behind_any l (lnT l 0) w2 (HT.out.below HB.out) hl).mono ?_
    rintro e w3 ⟨rfl, be⟩
    have HB3 := hid (HB.out.trans (be.mono HB.out.size))
    clear be
    go_wp2
    go_ret3
    exact ⟨rfl, HB3.out⟩
  | succ j =>
    have hj0 : (0 : Int) < (j : Int) + 1 := by omega
    have hwj : IntKind.i64.wrap ((j : Int) + 1 - 1) = (j : Int) := by rw [IntKind.wrap_i64]; omega
    have hwj2 : IntKind.i64.wrap (j : Int) = (j : Int) := by rw [IntKind.wrap_i64]; omega
    have hjc : ((j + 1 : Nat) : Int) = (j : Int) + 1 := by omega
    go_wp2_with fail
    refine wp_region_mix [(0, true), (1, true), (2, true), (3, true), (4, true), (5, true), (6, true), (7, true), (8, true), (9, true), (10, false), (11, false), (12, true)] (fun w' => IxAt w' X l ku kr kl (.slice sg sl sc)) (fun _ => false) (by kernel_rfl) (by kernel_rfl) (fun j hj => by cases hj) rfl (by kernel_rfl) HI.out.dr ?_
    iterate 10 (refine mix_free ?_ rfl (by kernel_rfl) (fun w' hS => ?_) ?_; (rotate_left; (obtain ⟨z0, z1, z2, z3⟩ := hS.ce; have zt := hS.ct; rw [← HN.out] at z2; go_simp; with_reducible rfl); rotate_left))
    refine mix_go rfl (by kernel_rfl) fun KK hKK => ?_
    go_simp
    refine (HPL.out j w.drew ((Below.refl _ _).drew)).mono ?_
    rintro e w2 ⟨rfl, be⟩
    rw [plc_T]
    have HB := hid (show Below w.heap.size w w2 from ((Below.refl _ _).drew).trans be)
    refine hKK _ _ (fun _ => HI.out.below HB.out) ?_
    clear hKK KK be
    refine mix_go rfl (by kernel_rfl) fun KK hKK => ?_
    go_simp
    refine (behind_any l (lnT l j) w2 (HT.out.below HB.out) hl).mono ?_
    rintro e w3 ⟨rfl, be⟩
    have HB3 := hid (HB.out.trans (be.mono HB.out.size))
    refine hKK _ _ (fun _ => HI.out.below HB3.out) ?_
    clear hKK KK be
    iterate 1 (refine mix_free ?_ rfl (by kernel_rfl) (fun w' hS => ?_) ?_; (rotate_left; (go_simp; with_reducible rfl); rotate_left))
    refine mix_end (NoPanic.normal ?_)
    go_simp
    obtain ⟨c0, c1, c2, c3⟩ := (HI.out.below HB3.out).ce
    rw [← HN.out] at c2
    have HPJ := hid (HPL.out (j + 1) w3 HB3.out)
    rw [plc_T, hjc] at HPJ
    go_wp2_with fail
    refine HPJ.out.mono ?_
    rintro e w4 ⟨rfl, be⟩
    have HB4 := hid (HB3.out.trans (be.mono HB3.out.size))
    have ct := (HI.out.below HB4.out).ct
    clear be c0 c1 c2 c3
    go_wp2_with fail
    refine (behind_any l (lnT l (j + 1)) w4 (HT.out.below HB4.out) hl).mono ?_
    rintro e w5 ⟨rfl, be⟩
    have HB5 := hid (HB4.out.trans (be.mono HB4.out.size))
    clear be
    go_wp2
    go_ret3
    exact ⟨rfl, HB5.out⟩
end Go.Proofs.YtffbdnlfknomnaaDoor.Wt
