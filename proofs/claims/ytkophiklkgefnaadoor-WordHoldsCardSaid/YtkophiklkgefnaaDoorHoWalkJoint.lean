/- Words: the runes beside a place; what holds together. -/
import Derived.Test.YtkophiklkgefnaaDoorTxMath
import Derived.Test.YtkophiklkgefnaaDoorWdFun2Joint
import Derived.Test.YtkophiklkgefnaaDoorWdAny
import Derived.Test.YtkophiklkgefnaaDoorREdgeJoint
import Derived.Test.YtkophiklkgefnaaDoorLiveRun
import Derived.Test.YtkophiklkgefnaaDoorMix
namespace Go.Proofs.YtkophiklkgefnaaDoor.Wd
open Go.RowKit

theorem wlast_at (s : List UInt8) (k : Nat) (x : Nat × Nat) (h : (rl s)[k]? = some x) : wlast (s.take (plc s (k + 1))) = wdcls x.1 := by
  obtain ⟨_, h2, _⟩ := take_last s k x h
  unfold wlast
  rw [h2]
theorem wfirst_at (s : List UInt8) (k : Nat) (x : Nat × Nat) (h : (rl s)[k]? = some x) : wfirst (s.drop (plc s k)) = wdcls x.1 := by
  obtain ⟨hk, hx⟩ := List.getElem?_eq_some_iff.1 h
  have h1 := rl_drop s k (by omega)
  have hne : s.drop (plc s k) ≠ [] := fun e => by
    rw [e, rl_nil, List.drop_eq_getElem_cons hk] at h1
    cases h1
  rw [rl_cons _ hne, List.drop_eq_getElem_cons hk, hx] at h1
  have h2 : dec (s.drop (plc s k)) = x := (List.cons.inj h1).1
  unfold wfirst
  rw [h2]
theorem wdcls_nat (r : Nat) : ∃ c : Nat, wdcls (r : Int) = (c : Int) ∧ c < 20 := by
  obtain ⟨n, h1, h2⟩ := (wdcls_bd (r : Int)).nat
  exact ⟨n, h2, h1⟩
theorem wdN_eq (c : Nat) (h : c < 20) (k : Nat) (hk : k < 20) : (Dc.wdN (c : Int) == Dc.wdN (k : Int)) = decide (c = k) := by
  have H : ∀ a : Fin 20, ∀ b : Fin 20, (Dc.wdN ((a : Nat) : Int) == Dc.wdN ((b : Nat) : Int)) = decide ((a : Nat) = (b : Nat)) := by decide +kernel
  exact H ⟨c, h⟩ ⟨k, hk⟩
theorem wdN_ne (c : Nat) (h : c < 20) (k : Nat) (hk : k < 20) (hne : c ≠ k) (b : List UInt8) (hb : Dc.wdN (k : Int) = b) : (Dc.wdN (c : Int) == b) = false := by
  rw [← hb, wdN_eq c h k hk]
  exact decide_eq_false hne
/-- What the law calls glued. -/
def wgl (a b : Nat) : Bool :=
  ((a == 10 || a == 9) && (b == 10 || b == 9)) || (a == 16 && b == 16) || ((a == 10 || a == 9) && b == 16) || (a == 16 && (b == 10 || b == 9)) || (a == 8 && b == 8) || ((b == 4 || b == 6 || b == 5) && !(a == 3) && !(a == 1) && !(a == 2))
theorem wgl_cases (a b : Nat) (ha : a < 20) (hb : b < 20) (h : wgl a b = true) : wends (a : Int) = false ∧ wends (b : Int) = false ∧ (wclings (b : Int) = true ∨ (wclings (a : Int) = false ∧ wtog (a : Int) (b : Int) = true)) := by
  have H : ∀ a : Fin 20, ∀ b : Fin 20, wgl (a : Nat) (b : Nat) = true → wends ((a : Nat) : Int) = false ∧ wends ((b : Nat) : Int) = false ∧ (wclings ((b : Nat) : Int) = true ∨ (wclings ((a : Nat) : Int) = false ∧ wtog ((a : Nat) : Int) ((b : Nat) : Int) = true)) := by decide +kernel
  exact H ⟨a, ha⟩ ⟨b, hb⟩ h
section
variable (s : List UInt8) (p : Nat) (a b : Nat) (ha : wlast (s.take p) = (a : Int)) (hb : wfirst (s.drop p) = (b : Int))
include ha hb
theorem wh_glued (h0 : s.take p ≠ []) (h1 : a < 20) (h2 : b < 20) (h : wgl a b = true) : wcut s p = false := by
  obtain ⟨e1, e2, e3⟩ := wgl_cases a b h1 h2 h
  unfold wcut
  rw [ha, hb, e1, e2]
  rcases e3 with e3 | ⟨e3, e4⟩
  · rw [e3]
    simp
  · have e5 : wjoin s p = true := by
      unfold wjoin
      rw [wbs_no _ h0 (by rw [ha]; exact e3), ha, hb]
      show (if wtog (a : Int) (b : Int) = true then true else _) = true
      rw [if_pos e4]
    rw [e5]
    simp
theorem wh_crlf (h1 : a = 1) (h2 : b = 2) : wcut s p = false := by
  subst h1 h2
  unfold wcut
  rw [ha, hb]
  rfl
theorem wh_ends (h1 : wends (a : Int) = true ∨ wends (b : Int) = true) (h2 : ¬ (a = 1 ∧ b = 2)) : wcut s p = true := by
  have e1 : ((a : Int) == 1 && (b : Int) == 2) = false := by
    rw [Bool.and_eq_false_iff]
    by_cases c1 : a = 1
    · exact .inr (beq_eq_false_iff_ne.2 (fun e => h2 ⟨c1, by omega⟩))
    · exact .inl (beq_eq_false_iff_ne.2 (fun e => c1 (by omega)))
  unfold wcut
  rw [ha, hb, e1]
  rcases h1 with h1 | h1
  · rw [h1]; simp
  · rw [h1]; simp
end
end Go.Proofs.YtkophiklkgefnaaDoor.Wd
/- The contracts of Is (package word) at an edge within a text, and of glued (the law's own). -/
namespace Go.Proofs.YtkophiklkgefnaaDoor.Wd
open Go.RowKit

set_option maxRecDepth 100000 in
theorem glued_run : ((List.range 20).all fun a => (List.range 20).all fun b => Ev.runA Tryd.prog none7 1000000 60 tabs 18 [.string ⟨(Dc.wdN (a : Int)).toArray⟩, .string ⟨(Dc.wdN (b : Int)).toArray⟩] (.bool (wgl a b))) = true := by kernel_rfl
theorem glued_any (a b : Nat) (ha : a < 20) (hb : b < 20) (w : World) (hw : Ev.Tbs tabs w) :
    Calls Tryd.prog 18 #[.string ⟨(Dc.wdN (a : Int)).toArray⟩, .string ⟨(Dc.wdN (b : Int)).toArray⟩] w fun e w' => e = .returned (.bool (wgl a b)) ∧ Below w.heap.size w w' := by
  have h1 := List.all_eq_true.1 (List.all_eq_true.1 glued_run a (List.mem_range.2 ha)) b (List.mem_range.2 hb)
  exact Ev.closed_args mixed none7_ok tabs_ok rfl h1 w hw
set_option maxHeartbeats 1000000 in
theorem is_edge (s : List UInt8) (p : Nat) (w : World) (ht : TbW w) (hl : s.length ≤ 1000000000) (h0 : 0 < p) (h1 : p < s.length) (he : isE s (p : Int) = true) :
    Calls Tryd.prog 17 #[.string ⟨s.toArray⟩, .int .i64 (p : Int)] w fun e w' => e = .returned (.bool (wcut s p)) ∧ Below w.heap.size w w' := by
  have HT := hid ht
  have HE := hid he
  clear ht he
  have h0' : ¬ (p : Int) ≤ 0 := by omega
  have h1' : ¬ (s.length : Int) ≤ (p : Int) := by omega
  go_enter Tryd.func17, Tryd.ntmps17
  go_wp2_with fail
  refine (is_any s p w (by omega) HT.out.tabs HT.out.two).mono ?_
  rintro e w1 ⟨rfl, be⟩
  rw [HE.out]
  have HB1 := hid be
  clear be
  go_wp2_with fail
  refine (wcut_any s p w1 (HT.out.below HB1.out) hl (by omega)).mono ?_
  rintro e w2 ⟨rfl, be⟩
  have HB2 := hid (HB1.out.trans (be.mono HB1.out.size))
  clear be
  go_wp2
  go_ret
  exact ⟨rfl, HB2.out⟩
theorem isE_plc (s : List UInt8) (k : Nat) (h : k ≤ (rl s).length) : isE s (plc s k) = true := Wt.isE_pos s k h
theorem plc_lt (s : List UInt8) (k : Nat) (h : k < (rl s).length) : plc s k < s.length := Wt.pos_end s k h
theorem plc_pos (s : List UInt8) (k : Nat) (h0 : 0 < k) (h : k ≤ (rl s).length) : 0 < plc s k := by
  have h1 := Wt.pos_mono s k 0 (by omega)
  rw [Nat.zero_add] at h1
  have h2 : plc s k = Wt.pos s k := rfl
  have h3 : Wt.pos s 0 = 0 := rfl
  omega
theorem wis_any (s : List UInt8) (k : Nat) (w : World) (ht : TbW w) (hl : s.length ≤ 1000000000) (h0 : 0 < k) (h1 : k < (rl s).length) :
    Calls Tryd.prog 17 #[.string ⟨s.toArray⟩, .int .i64 (plc s k : Int)] w fun e w' => e = .returned (.bool (wcut s (plc s k))) ∧ Below w.heap.size w w' :=
  is_edge s _ w ht hl (plc_pos s k h0 (by omega)) (plc_lt s k h1) (isE_plc s k (by omega))
end Go.Proofs.YtkophiklkgefnaaDoor.Wd
/- WordHolds. -/
namespace Go.Proofs.YtkophiklkgefnaaDoor.Wd
open Go.RowKit

theorem tbs_below {w w' : World} (h : Ev.Tbs tabs w) (hb : Below w.heap.size w w') : Ev.Tbs tabs w' := fun x hx => by
  obtain ⟨c, h1, h2⟩ := h x hx
  exact ⟨c, (hb.block _ (Array.getElem?_eq_some_iff.1 h1).1).trans h1, h2⟩
theorem txt_le (l : List UInt8) : (Dc.txt l).length ≤ l.length := by
  have h2 := Dc.plr_len l l.length 0 (by omega)
  have h3 := Dc.cls_len l.length (Dc.plr l 0)
  have h4 : (Dc.txt l).length = (Dc.plr l 0).length := h3
  omega
theorem bdr (w : World) : Below w.heap.size w w.drew := Dc.bdrew w
set_option maxHeartbeats 8000000 in
set_option maxRecDepth 100000 in
theorem holds_main (l : List UInt8) (w : World) (ht : TbW w) (hv : Ev.Tbs tabs w) : Calls Tryd.prog 4 #[.string ⟨l.toArray⟩] w fun e w' => e = .returned (.bool true) ∧ Below w.heap.size w w' := by
  have HT := hid ht
  have HV := hid hv
  clear ht hv
  by_cases hl : 70 < l.length
  · have hl' : (70 : Int) < (l.length : Int) := by omega
    go_enter Tryd.func4, Tryd.ntmps4
    go_wp2_with fail
    refine (lives12 w HV.out).mono ?_
    rintro e w1 ⟨rfl, be⟩
    have HB := hid be
    clear be
    go_wp2
    go_ret
    exact ⟨rfl, HB.out⟩
  · have hl' : ¬ (70 : Int) < (l.length : Int) := by omega
    go_enter Tryd.func4, Tryd.ntmps4
    go_wp2_with fail
    refine (Dc.db12 w).mono ?_
    rintro e w1 ⟨b1, Q, rfl, k1⟩
    have HB1 := hid b1
    have HK1 := hid k1
    clear b1 k1
    go_wp2_with fail
    refine (Dc.rrunes_rd l w1 (by omega)).mono ?_
    rintro e w2 ⟨xo, xc, rfl, hr, b2⟩
    have HR := hid hr
    have HB2 := hid (HB1.out.trans (b2.mono HB1.out.size))
    have HK2 := hid (HK1.out.below b2)
    have HN := hid (txt_len l)
    obtain ⟨n, hn⟩ : ∃ n, n = (Dc.txt l).length := ⟨_, rfl⟩
    have n9 : n ≤ 70 := by have := txt_le l; omega
    rw [← hn] at HN ⊢
    clear hr b2 HB1 HK1 hn
    go_wp2
    go_loopw [5] (fun x wr => ∃ i : Nat, (n = 0 ∧ i = 1 ∨ 1 ≤ i ∧ i ≤ max n 1) ∧ x = .int .i64 (i : Int) ∧ Hid (Below w.heap.size w wr) ∧ Hid (Dc.Bk Dc.wdU Dc.wdW Q wr) ∧ Hid (Dc.RdT wr xo (Dc.txt l))) (fun x _ => n - (intOf x).toNat)
    case atStart => exact ⟨1, by omega, rfl, HB2.out, HK2.out, HR.out⟩
    case round =>
      obtain ⟨i, hi, rfl, HB, HK, HX⟩ := hrel
      clear HB2 HK2 HR
      by_cases h0 : ¬ i < n
      · have h0' : ¬ (i : Int) < (n : Int) := by omega
        go_wp2_with fail
        refine (lives12 _ (tbs_below HV.out HB.out)).mono ?_
        rintro e w3 ⟨rfl, be⟩
        have HB3 := hid (HB.out.trans (be.mono HB.out.size))
        clear be
        go_wp2
        go_ret
        exact ⟨rfl, HB3.out⟩
      · have h0 : i < n := by omega
        obtain ⟨j, hj⟩ : ∃ j, i = j + 1 := ⟨i - 1, by omega⟩
        have hji : i - 1 = j := by omega
        have hir : i < (rl l).length := by have := HN.out; omega
        have hjr : j < (rl l).length := by omega
        have HEx := hid (List.getElem?_eq_getElem hjr)
        have HEy := hid (List.getElem?_eq_getElem hir)
        obtain ⟨x, hx⟩ : ∃ x, x = (rl l)[j] := ⟨_, rfl⟩
        obtain ⟨y, hy⟩ : ∃ y, y = (rl l)[i] := ⟨_, rfl⟩
        rw [← hx] at HEx
        rw [← hy] at HEy
        obtain ⟨g, rfl, hg, z0, z1, z2⟩ := HX.out j _ (txt_at l j x HEx.out)
        obtain ⟨g', hg', _, y0, y1, y2⟩ := HX.out i _ (txt_at l i y HEy.out)
        cases hg'
        have HRx := hid (rl_rune l x (by rw [hx]; exact List.getElem_mem hjr))
        have HRy := hid (rl_rune l y (by rw [hy]; exact List.getElem_mem hir))
        have HIR := hid hir
        clear hx hy hji hjr hir z1 z2 y2
        have i0 : (0 : Int) ≤ (j : Int) := by omega
        have i1 : (j : Int) < (n : Int) := by omega
        have i2 : (0 : Int) ≤ (i : Int) := by omega
        have i3 : (i : Int) < (n : Int) := by omega
        have i4 : IntKind.i64.wrap ((i : Int) - 1) = (j : Int) := by rw [show (i : Int) - 1 = (j : Int) by omega]; rw [IntKind.wrap_i64]; omega
        obtain ⟨ca, hca, hca2⟩ := wdcls_nat x.1
        obtain ⟨cb, hcb, hcb2⟩ := wdcls_nat y.1
        have HCa := hid hca
        have HCb := hid hcb
        have HCa2 := hid hca2
        have HCb2 := hid hcb2
        obtain ⟨ua, hua⟩ : ∃ u, u = Dc.wdN (ca : Int) := ⟨_, rfl⟩
        obtain ⟨ub, hub⟩ : ∃ u, u = Dc.wdN (cb : Int) := ⟨_, rfl⟩
        have HUa := hid hua
        have HUb := hid hub
        have HNMa := hid (fun ww (hh : Dc.Bk Dc.wdU Dc.wdW Q ww) => (show Calls Tryd.prog 16 #[.pointer (some ⟨Q, 0, none⟩), .int .i32 (x.1 : Int)] ww fun e w' => e = .returned (.string ⟨ua.toArray⟩) ∧ Below ww.heap.size ww w' by
          have h5 := Dc.named_wd Q x.1 ww hh HRx.out
          rw [HCa.out, ← HUa.out] at h5
          exact h5))
        have HNMb := hid (fun ww (hh : Dc.Bk Dc.wdU Dc.wdW Q ww) => (show Calls Tryd.prog 16 #[.pointer (some ⟨Q, 0, none⟩), .int .i32 (y.1 : Int)] ww fun e w' => e = .returned (.string ⟨ub.toArray⟩) ∧ Below ww.heap.size ww w' by
          have h5 := Dc.named_wd Q y.1 ww hh HRy.out
          rw [HCb.out, ← HUb.out] at h5
          exact h5))
        obtain ⟨X0, hX0⟩ : ∃ X0, X0 = (x.1 : Int) := ⟨_, rfl⟩
        obtain ⟨Y0, hY0⟩ : ∃ Y0, Y0 = (y.1 : Int) := ⟨_, rfl⟩
        rw [← hX0] at z0 HNMa
        rw [← hY0] at y0 HNMb
        have HLA := hid (show wlast (l.take (plc l i)) = (ca : Int) by rw [hj, wlast_at l j x HEx.out, HCa.out])
        have HLB := hid (show wfirst (l.drop (plc l i)) = (cb : Int) by rw [wfirst_at l i y HEy.out, HCb.out])
        have HNE := hid (show l.take (plc l i) ≠ [] by rw [hj]; exact (take_last l j x HEx.out).1)
        have hi1 : 0 < i := by omega
        have HJ := hid hj
        clear hca hca2 hcb hcb2 hua hub hX0 hY0 hj hi
        go_wp2_with fail
        refine wp_region_mix [(0, true), (1, true), (2, true), (3, true), (4, true), (5, true), (6, true), (8, true), (9, true), (10, true), (11, true), (12, true), (13, true), (7, false), (14, false), (15, true), (16, true)] (fun w' => w'.cell? ⟨g, j * 3, none⟩ = some (.int .i32 X0) ∧ w'.cell? ⟨g, i * 3, none⟩ = some (.int .i32 Y0)) (fun _ => false) (by kernel_rfl) (by kernel_rfl) (fun j hj => by cases hj) rfl (by kernel_rfl) ⟨z0, y0⟩ ?_
        iterate 13 (refine mix_free ?_ rfl (by kernel_rfl) (fun w' hS => ?_) ?_; (rotate_left; (obtain ⟨y8, y9⟩ := hS; go_simp; with_reducible rfl); rotate_left))
        refine mix_go rfl (by kernel_rfl) fun KK hKK => ?_
        go_simp
        refine (HNMa.out _ (HK.out.below (bdr _))).mono ?_
        rintro e w3 ⟨rfl, be⟩
        have HB3 := hid ((bdr wr).trans be)
        refine hKK _ _ (fun _ => ⟨(HB3.out.cell (p := ⟨g, j * 3, none⟩) hg).trans z0, (HB3.out.cell (p := ⟨g, i * 3, none⟩) hg).trans y0⟩) ?_
        clear hKK KK be
        refine mix_go rfl (by kernel_rfl) fun KK hKK => ?_
        go_simp
        refine (HNMb.out _ (HK.out.below HB3.out)).mono ?_
        rintro e w4 ⟨rfl, be⟩
        have HB4 := hid (HB3.out.trans (be.mono HB3.out.size))
        refine hKK _ _ (fun _ => ⟨(HB4.out.cell (p := ⟨g, j * 3, none⟩) hg).trans z0, (HB4.out.cell (p := ⟨g, i * 3, none⟩) hg).trans y0⟩) ?_
        clear hKK KK be HB3 HNMa HNMb
        iterate 2 (refine mix_free ?_ rfl (by kernel_rfl) (fun w' hS => ?_) ?_; (rotate_left; (go_simp; with_reducible rfl); rotate_left))
        refine mix_end (NoPanic.normal ?_)
        go_simp
        have y4 := (HB4.out.cell (p := ⟨g, i * 3 + 1, none⟩) hg).trans y1
        have HK4 := hid (HK.out.below HB4.out)
        have HX4 := hid (HX.out.below HB4.out)
        have HBB := hid (HB.out.trans (HB4.out.mono HB.out.size))
        clear HB HK HX HB4 z0 y0 y1
        obtain ⟨P, hP⟩ : ∃ P, P = plc l i := ⟨_, rfl⟩
        have HKD := hid (fun ww (h : TbW ww) => hP ▸ wis_any l i ww h (by omega) hi1 HIR.out)
        have HGL := hid (fun ww (h : Ev.Tbs tabs ww) => glued_any ca cb HCa2.out HCb2.out ww h)
        rw [← HUa.out, ← HUb.out] at HGL
        rw [← hP] at y4 HLA HLB HNE
        obtain ⟨K, hK⟩ : ∃ K, K = wcut l P := ⟨_, rfl⟩
        rw [← hK] at HKD
        have HKK := hid hK
        clear hP hK
        go_wp2_with fail
        refine (HKD.out _ (HT.out.below HBB.out)).mono ?_
        rintro e w5 ⟨rfl, be⟩
        have HB5 := hid (HBB.out.trans (be.mono HBB.out.size))
        have HK5 := hid (HK4.out.below be)
        have HX5 := hid (HX4.out.below be)
        clear be HBB HK4 HX4 HKD y4
        go_wp2_with fail
        refine (HGL.out _ (tbs_below HV.out HB5.out)).mono ?_
        rintro e w6 ⟨rfl, be⟩
        have HB6 := hid (HB5.out.trans (be.mono HB5.out.size))
        have HK6 := hid (HK5.out.below be)
        have HX6 := hid (HX5.out.below be)
        clear be HB5 HK5 HX5 HGL
        obtain ⟨G, hG⟩ : ∃ G, G = wgl ca cb := ⟨_, rfl⟩
        rw [← hG]
        have HG := hid hG
        clear hG
        by_cases c1 : ca = 1
        · have HCA := hid c1
          obtain rfl : ua = [67, 114] := HUa.out.trans (by rw [c1]; decide +kernel)
          obtain rfl : G = false := by
            cases G with
            | false => rfl
            | true => exact absurd (wgl_cases ca cb HCa2.out HCb2.out HG.out.symm) (fun e => by have h5 := e.1; have h6 := e.2.1; first | (rw [HCA.out] at h5; cases h5) | (rw [HCA.out] at h6; cases h6))
          by_cases d2 : cb = 2
          · obtain rfl : ub = [76, 102] := HUb.out.trans (by rw [d2]; decide +kernel)
            obtain rfl : K = false := HKK.out.trans (wh_crlf l P ca cb HLA.out HLB.out c1 d2)
            clear c1 d2
            go_wp2
            go_roundw
            case rel => exact ⟨i + 1, by omega, by go_num, HB6.out, HK6.out, HX6.out⟩
            case measure => simp [intOf]; omega
          · have u9 : (ub == [76, 102]) = false := by rw [HUb.out]; exact wdN_ne cb HCb2.out 2 (by omega) d2 _ (by decide +kernel)
            obtain rfl : K = true := HKK.out.trans (wh_ends l P ca cb HLA.out HLB.out (.inl (by rw [c1]; decide)) (fun e => d2 e.2))
            clear c1 d2
            go_wp2
            go_roundw
            case rel => exact ⟨i + 1, by omega, by go_num, HB6.out, HK6.out, HX6.out⟩
            case measure => simp [intOf]; omega
        by_cases c2 : ca = 2
        · have HCA := hid c2
          obtain rfl : ua = [76, 102] := HUa.out.trans (by rw [c2]; decide +kernel)
          obtain rfl : G = false := by
            cases G with
            | false => rfl
            | true => exact absurd (wgl_cases ca cb HCa2.out HCb2.out HG.out.symm) (fun e => by have h5 := e.1; have h6 := e.2.1; first | (rw [HCA.out] at h5; cases h5) | (rw [HCA.out] at h6; cases h6))
          obtain rfl : K = true := HKK.out.trans (wh_ends l P ca cb HLA.out HLB.out (.inl (by rw [c2]; decide)) (fun e => by omega))
          clear c2
          go_wp2
          go_roundw
          case rel => exact ⟨i + 1, by omega, by go_num, HB6.out, HK6.out, HX6.out⟩
          case measure => simp [intOf]; omega
        by_cases c3 : ca = 3
        · have HCA := hid c3
          obtain rfl : ua = [78, 101, 119, 108, 105, 110, 101] := HUa.out.trans (by rw [c3]; decide +kernel)
          obtain rfl : G = false := by
            cases G with
            | false => rfl
            | true => exact absurd (wgl_cases ca cb HCa2.out HCb2.out HG.out.symm) (fun e => by have h5 := e.1; have h6 := e.2.1; first | (rw [HCA.out] at h5; cases h5) | (rw [HCA.out] at h6; cases h6))
          obtain rfl : K = true := HKK.out.trans (wh_ends l P ca cb HLA.out HLB.out (.inl (by rw [c3]; decide)) (fun e => by omega))
          clear c3
          go_wp2
          go_roundw
          case rel => exact ⟨i + 1, by omega, by go_num, HB6.out, HK6.out, HX6.out⟩
          case measure => simp [intOf]; omega
        have u1 : (ua == [67, 114]) = false := by rw [HUa.out]; exact wdN_ne ca HCa2.out 1 (by omega) c1 _ (by decide +kernel)
        have u2 : (ua == [76, 102]) = false := by rw [HUa.out]; exact wdN_ne ca HCa2.out 2 (by omega) c2 _ (by decide +kernel)
        have u3 : (ua == [78, 101, 119, 108, 105, 110, 101]) = false := by rw [HUa.out]; exact wdN_ne ca HCa2.out 3 (by omega) c3 _ (by decide +kernel)
        by_cases d1 : cb = 1
        · have HCA := hid d1
          obtain rfl : ub = [67, 114] := HUb.out.trans (by rw [d1]; decide +kernel)
          obtain rfl : G = false := by
            cases G with
            | false => rfl
            | true => exact absurd (wgl_cases ca cb HCa2.out HCb2.out HG.out.symm) (fun e => by have h5 := e.1; have h6 := e.2.1; first | (rw [HCA.out] at h5; cases h5) | (rw [HCA.out] at h6; cases h6))
          obtain rfl : K = true := HKK.out.trans (wh_ends l P ca cb HLA.out HLB.out (.inr (by rw [d1]; decide)) (fun e => c1 e.1))
          clear d1 c1 c2 c3
          go_wp2
          go_roundw
          case rel => exact ⟨i + 1, by omega, by go_num, HB6.out, HK6.out, HX6.out⟩
          case measure => simp [intOf]; omega
        by_cases d2 : cb = 2
        · have HCA := hid d2
          obtain rfl : ub = [76, 102] := HUb.out.trans (by rw [d2]; decide +kernel)
          obtain rfl : G = false := by
            cases G with
            | false => rfl
            | true => exact absurd (wgl_cases ca cb HCa2.out HCb2.out HG.out.symm) (fun e => by have h5 := e.1; have h6 := e.2.1; first | (rw [HCA.out] at h5; cases h5) | (rw [HCA.out] at h6; cases h6))
          obtain rfl : K = true := HKK.out.trans (wh_ends l P ca cb HLA.out HLB.out (.inr (by rw [d2]; decide)) (fun e => c1 e.1))
          clear d2 c1 c2 c3
          go_wp2
          go_roundw
          case rel => exact ⟨i + 1, by omega, by go_num, HB6.out, HK6.out, HX6.out⟩
          case measure => simp [intOf]; omega
        by_cases d3 : cb = 3
        · have HCA := hid d3
          obtain rfl : ub = [78, 101, 119, 108, 105, 110, 101] := HUb.out.trans (by rw [d3]; decide +kernel)
          obtain rfl : G = false := by
            cases G with
            | false => rfl
            | true => exact absurd (wgl_cases ca cb HCa2.out HCb2.out HG.out.symm) (fun e => by have h5 := e.1; have h6 := e.2.1; first | (rw [HCA.out] at h5; cases h5) | (rw [HCA.out] at h6; cases h6))
          obtain rfl : K = true := HKK.out.trans (wh_ends l P ca cb HLA.out HLB.out (.inr (by rw [d3]; decide)) (fun e => c1 e.1))
          clear d3 c1 c2 c3
          go_wp2
          go_roundw
          case rel => exact ⟨i + 1, by omega, by go_num, HB6.out, HK6.out, HX6.out⟩
          case measure => simp [intOf]; omega
        have v1 : (ub == [67, 114]) = false := by rw [HUb.out]; exact wdN_ne cb HCb2.out 1 (by omega) d1 _ (by decide +kernel)
        have v2 : (ub == [76, 102]) = false := by rw [HUb.out]; exact wdN_ne cb HCb2.out 2 (by omega) d2 _ (by decide +kernel)
        have v3 : (ub == [78, 101, 119, 108, 105, 110, 101]) = false := by rw [HUb.out]; exact wdN_ne cb HCb2.out 3 (by omega) d3 _ (by decide +kernel)
        clear c1 c2 c3 d1 d2 d3
        cases G with
        | true =>
          obtain rfl : K = false := HKK.out.trans (wh_glued l P ca cb HLA.out HLB.out HNE.out HCa2.out HCb2.out HG.out.symm)
          go_wp2
          go_roundw
          case rel => exact ⟨i + 1, by omega, by go_num, HB6.out, HK6.out, HX6.out⟩
          case measure => simp [intOf]; omega
        | false =>
          go_wp2
          go_roundw
          case rel => exact ⟨i + 1, by omega, by go_num, HB6.out, HK6.out, HX6.out⟩
          case measure => simp [intOf]; omega
end Go.Proofs.YtkophiklkgefnaaDoor.Wd
