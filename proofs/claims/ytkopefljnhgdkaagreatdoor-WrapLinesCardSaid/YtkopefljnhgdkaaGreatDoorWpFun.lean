/- The contracts of begins, indent, room, hyphen and cost (package wrap). -/
import Derived.Test.YtkopefljnhgdkaaGreatDoorWpRow
namespace Go.Proofs.YtkopefljnhgdkaaGreatDoor
open Go.RowKit

set_option maxHeartbeats 1000000 in
theorem begins_any (lo : Option Addr) (n c : Nat) (wd fi re ho : Int) (L : List Bx) (i : Nat) (w : World) (hn : n = L.length) (hr : RdB w lo L) (hi : i ≤ n) (hl : n ≤ 4096) :
    Calls Tryz.prog 42 #[.agg #[.slice lo n c, .int .i64 wd, .int .i64 fi, .int .i64 re, .int .i64 ho], .int .i64 i] w fun e w' => e = .returned (.bool (bg L i)) ∧ Below w.heap.size w w' := by
  by_cases h0 : i = 0
  · subst h0
    have HB := hid (below_box (w := w) (o := .cells #[.slice lo n c, .int .i64 wd, .int .i64 fi, .int .i64 re, .int .i64 ho] 56))
    have HV := hid (show bg L 0 = true by simp [bg])
    clear hr hn
    go_enter Tryz.func42, Tryz.ntmps42
    go_wp2
    go_ret
    exact ⟨by rw [HV.out]; rfl, HB.out⟩
  · obtain ⟨j, rfl⟩ : ∃ j, i = j + 1 := ⟨i - 1, by omega⟩
    obtain ⟨a, rfl, ha, a0, a1, a2, a3⟩ := (hr.below (below_box (o := .cells #[.slice lo n c, .int .i64 wd, .int .i64 fi, .int .i64 re, .int .i64 ho] 56))).at (i := j) (by omega)
    have HB := hid (below_box (w := w) (o := .cells #[.slice (some a) n c, .int .i64 wd, .int .i64 fi, .int .i64 re, .int .i64 ho] 56))
    have i0 : (0 : Int) ≤ (j : Int) := by omega
    have i1 : (j : Int) < (n : Int) := by omega
    have b1 : (((j + 1 : Nat) : Int) == 0) = false := by rw [beq_eq_false_iff_ne]; omega
    have e1 : ((j + 1 : Nat) : Int) - 1 = (j : Int) := by omega
    have HV := hid (show bg L (j + 1) = (bx L j).m by simp [bg])
    obtain ⟨m, hm⟩ : ∃ m, m = (bx L j).m := ⟨_, rfl⟩
    rw [← hm] at a3 HV
    obtain ⟨x, hx⟩ : ∃ x : Int, x = ((j + 1 : Nat) : Int) := ⟨_, rfl⟩
    rw [← hx] at b1 e1
    rw [← hx]
    have hx1 : IntKind.i64.wrap (x - 1) = (j : Int) := by rw [e1, IntKind.wrap_i64]; omega
    clear hm hr hn a0 a1 a2 h0 hx hi
    go_enter Tryz.func42, Tryz.ntmps42
    go_wp2
    go_ret
    exact ⟨by rw [HV.out]; rfl, HB.out⟩
set_option maxHeartbeats 1000000 in
theorem indent_any (lo : Option Addr) (n c : Nat) (wd fi re ho : Int) (L : List Bx) (i : Nat) (w : World) (hn : n = L.length) (hr : RdB w lo L) (hi : i ≤ n) (hl : n ≤ 4096) :
    Calls Tryz.prog 30 #[.agg #[.slice lo n c, .int .i64 wd, .int .i64 fi, .int .i64 re, .int .i64 ho], .int .i64 i] w fun e w' => e = .returned (.int .i64 (ind ⟨wd, fi, re, ho⟩ L i)) ∧ Below w.heap.size w w' := by
  have HS := hid (Sht.new w lo n c wd fi re ho)
  have HB := hid (below_box (w := w) (o := .cells #[.slice lo n c, .int .i64 wd, .int .i64 fi, .int .i64 re, .int .i64 ho] 56))
  have HR := hid (hr.below HB.out)
  have HN := hid hn
  clear hr hn
  cases hb : bg L i with
  | true =>
    have HV := hid (show ind ⟨wd, fi, re, ho⟩ L i = fi by unfold ind; rw [if_pos hb])
    go_enter Tryz.func30, Tryz.ntmps30
    go_wp2_with fail
    refine (begins_any lo n c wd fi re ho L i _ HN.out HR.out hi hl).mono ?_
    rintro e w1 ⟨rfl, be1⟩
    obtain ⟨_, _, c2, c3, _⟩ := (HS.out.kept be1).cell
    have HB1 := hid (HB.out.trans (be1.mono HB.out.size))
    rw [hb]
    clear hb be1
    go_wp2
    go_ret
    exact ⟨by rw [HV.out]; rfl, HB1.out⟩
  | false =>
    have HV := hid (show ind ⟨wd, fi, re, ho⟩ L i = re by unfold ind; rw [if_neg (by rw [hb]; simp)])
    go_enter Tryz.func30, Tryz.ntmps30
    go_wp2_with fail
    refine (begins_any lo n c wd fi re ho L i _ HN.out HR.out hi hl).mono ?_
    rintro e w1 ⟨rfl, be1⟩
    obtain ⟨_, _, c2, c3, _⟩ := (HS.out.kept be1).cell
    have HB1 := hid (HB.out.trans (be1.mono HB.out.size))
    rw [hb]
    clear hb be1
    go_wp2
    go_ret
    exact ⟨by rw [HV.out]; rfl, HB1.out⟩
set_option maxHeartbeats 1000000 in
theorem hyphen_any (lo : Option Addr) (n c : Nat) (wd fi re ho : Int) (L : List Bx) (i : Nat) (w : World) (hn : n = L.length) (hr : RdB w lo L) (hi : i < n) (hl : n ≤ 4096) :
    Calls Tryz.prog 31 #[.agg #[.slice lo n c, .int .i64 wd, .int .i64 fi, .int .i64 re, .int .i64 ho], .int .i64 i] w fun e w' => e = .returned (.int .i64 (hy L i)) ∧ Below w.heap.size w w' := by
  have HS := hid (Sht.new w lo n c wd fi re ho)
  have HB := hid (below_box (w := w) (o := .cells #[.slice lo n c, .int .i64 wd, .int .i64 fi, .int .i64 re, .int .i64 ho] 56))
  have HR := hid (hr.below HB.out)
  have HN := hid hn
  clear hr hn
  cases hb : en L i with
  | true =>
    have HV := hid (show hy L i = 0 by unfold hy; rw [if_pos hb])
    go_enter Tryz.func31, Tryz.ntmps31
    go_wp2_with fail
    refine (ends_any lo n c wd fi re ho L i _ HN.out HR.out hi hl).mono ?_
    rintro e w1 ⟨rfl, be1⟩
    have HB1 := hid (HB.out.trans (be1.mono HB.out.size))
    rw [hb]
    clear hb be1
    go_wp2
    go_ret
    exact ⟨by rw [HV.out]; rfl, HB1.out⟩
  | false =>
    have HV := hid (show hy L i = (bx L i).h by unfold hy; rw [if_neg (by rw [hb]; simp)])
    go_enter Tryz.func31, Tryz.ntmps31
    go_wp2_with fail
    refine (ends_any lo n c wd fi re ho L i _ HN.out HR.out hi hl).mono ?_
    rintro e w1 ⟨rfl, be1⟩
    obtain ⟨c0, _, _, _, _⟩ := (HS.out.kept be1).cell
    have HB1 := hid (HB.out.trans (be1.mono HB.out.size))
    obtain ⟨a, rfl, ha, a0, a1, a2, a3⟩ := (HR.out.below be1).at (HN.out ▸ hi)
    have i0 : (0 : Int) ≤ (i : Int) := by omega
    have i1 : (i : Int) < (n : Int) := by omega
    rw [hb]
    clear hb be1 a0 a1 a3
    go_wp2
    go_ret
    exact ⟨by rw [HV.out]; rfl, HB1.out⟩
set_option maxHeartbeats 1000000 in
theorem room_any (lo : Option Addr) (n c : Nat) (wd fi re ho : Int) (L : List Bx) (i : Nat) (w : World) (hn : n = L.length) (hr : RdB w lo L) (hi : i ≤ n) (ho' : Okb ⟨wd, fi, re, ho⟩ L) :
    Calls Tryz.prog 34 #[.agg #[.slice lo n c, .int .i64 wd, .int .i64 fi, .int .i64 re, .int .i64 ho], .int .i64 i] w fun e w' => e = .returned (.int .i64 (rm ⟨wd, fi, re, ho⟩ L i)) ∧ Below w.heap.size w w' := by
  have HS := hid (Sht.new w lo n c wd fi re ho)
  have HB := hid (below_box (w := w) (o := .cells #[.slice lo n c, .int .i64 wd, .int .i64 fi, .int .i64 re, .int .i64 ho] 56))
  have HR := hid (hr.below HB.out)
  have HN := hid hn
  have HO := hid ho'
  have hw := ho'.room i
  have HRM := hid (show wd - ind ⟨wd, fi, re, ho⟩ L i = rm ⟨wd, fi, re, ho⟩ L i from rfl)
  obtain ⟨d, hd⟩ : ∃ d, d = ind ⟨wd, fi, re, ho⟩ L i := ⟨_, rfl⟩
  rw [← HRM.out, ← hd] at hw
  have hx : IntKind.i64.wrap (wd - d) = wd - d := by rw [IntKind.wrap_i64]; omega
  rw [← hd] at HRM
  have HD := hid hd
  have hl : n ≤ 4096 := hn ▸ ho'.len
  clear hr hn ho' hd
  go_enter Tryz.func34, Tryz.ntmps34
  go_wp2_with fail
  refine wp_region_mix [(0, true), (1, true), (2, true), (3, true), (4, true), (5, false), (6, true), (7, true)] (fun w' => Sht w' w.heap.size lo n c wd fi re ho ∧ RdB w' lo L ∧ Below w.heap.size w w') (fun _ => false) (by kernel_rfl) (by kernel_rfl) (fun j hj => by cases hj) rfl (by kernel_rfl) ⟨HS.out, HR.out, HB.out.drew⟩ ?_
  iterate 5 (refine mix_free ?_ rfl (by kernel_rfl) (fun w' hS => ?_) ?_; (rotate_left; (obtain ⟨s0, s1, s2, s3, s4⟩ := hS.1.cell; go_simp; with_reducible rfl); rotate_left))
  refine mix_go rfl (by kernel_rfl) fun KK hKK => ?_
  go_simp
  refine (indent_any lo n c wd fi re ho L i _ HN.out HR.out.dr hi hl).mono ?_
  rintro e w1 ⟨rfl, be1⟩
  have HB1 := hid (HB.out.drew.trans (be1.mono HB.out.size))
  rw [← HD.out]
  refine hKK _ _ (fun _ => ⟨HS.out.dr.kept be1, HR.out.dr.below be1, HB1.out⟩) ?_
  clear hKK KK
  iterate 2 (refine mix_free ?_ rfl (by kernel_rfl) (fun w' hS => ?_) ?_; (rotate_left; (go_simp; with_reducible rfl); rotate_left))
  refine mix_end (NoPanic.normal ?_)
  go_simp
  go_wp2
  go_ret
  exact ⟨by rw [← HRM.out]; rfl, HB1.out⟩
/-- What a line costs, said of its room and its size. -/
def lcr (L : List Bx) (r s : Int) (j : Nat) : Int := if r - s < 0 then 10 * (r - s) * (r - s) else if en L j = true then 0 else (r - s) * (r - s)
theorem lcr_lc (W : Wr) (L : List Bx) (i j : Nat) : lcr L (rm W L i) (sz L i j) j = lc W L i j := rfl
set_option maxHeartbeats 1000000 in
theorem cost_any (lo : Option Addr) (n c : Nat) (wd fi re ho : Int) (L : List Bx) (i j : Nat) (w : World) (hn : n = L.length) (hr : RdB w lo L) (hl : Lin ⟨wd, fi, re, ho⟩ L i j) (ho' : Okb ⟨wd, fi, re, ho⟩ L) :
    Calls Tryz.prog 24 #[.agg #[.slice lo n c, .int .i64 wd, .int .i64 fi, .int .i64 re, .int .i64 ho], .int .i64 i, .int .i64 j, .int .i64 (sz L i j)] w fun e w' => e = .returned (.int .i64 (lc ⟨wd, fi, re, ho⟩ L i j)) ∧ Below w.heap.size w w' := by
  have HS := hid (Sht.new w lo n c wd fi re ho)
  have HB := hid (below_box (w := w) (o := .cells #[.slice lo n c, .int .i64 wd, .int .i64 fi, .int .i64 re, .int .i64 ho] 56))
  have HR := hid (hr.below HB.out)
  have HN := hid hn
  have HO := hid ho'
  have hc := ho'.line hl
  have hrm := ho'.room i
  have hsz := ho'.size (i := i) hl.1.2.1
  have hlen : n ≤ 4096 := hn ▸ ho'.len
  have hij : i ≤ n := by have := hl.1.1; have := hl.1.2.1; omega
  have hj : j < n := by have := hl.1.2.1; omega
  have HRM := hid (room_any lo n c wd fi re ho L i _ hn HR.out hij ho')
  have HEN := hid (fun W (h : RdB W lo L) => ends_any lo n c wd fi re ho L j W hn h hj hlen)
  have hlow : -300000 ≤ rm ⟨wd, fi, re, ho⟩ L i - sz L i j := by
    rcases hl.2 with e | e
    · subst e
      have := ho'.w i; have := ho'.hyp i
      have : sz L i i = (bx L i).w + hy L i := by unfold sz; simp [sm]
      omega
    · omega
  rw [← lcr_lc] at hc
  rw [← lcr_lc]
  obtain ⟨r, hr'⟩ : ∃ r, r = rm ⟨wd, fi, re, ho⟩ L i := ⟨_, rfl⟩
  obtain ⟨s, hs⟩ : ∃ s, s = sz L i j := ⟨_, rfl⟩
  rw [← hr'] at hc hrm hlow HRM
  rw [← hs] at hc hsz hlow
  rw [← hr', ← hs]
  have e0 : IntKind.i64.wrap (r - s) = r - s := by rw [IntKind.wrap_i64]; omega
  have hq := sq_le (r - s) 300000 (by omega) (by omega)
  have e : (300000 : Int) * 300000 = 90000000000 := by decide
  rw [e] at hq
  have HQ := hid (IntWalk.wrap64_in (10 * (r - s) * (r - s)) (by rw [Int.mul_assoc]; omega))
  have HQ2 := hid (IntWalk.wrap64_in ((r - s) * (r - s)) (by omega))
  clear hr hn ho' hl hr' hs hij hj e hq e0
  by_cases hneg : r - s < 0
  · have HV := hid (show lcr L r s j = 10 * (r - s) * (r - s) by unfold lcr; rw [if_pos hneg])
    go_enter Tryz.func24, Tryz.ntmps24
    go_wp2_with fail
    refine HRM.out.mono ?_
    rintro e w1 ⟨rfl, be1⟩
    have HB1 := hid (HB.out.trans (be1.mono HB.out.size))
    go_wp2
    go_ret
    exact ⟨by rw [HV.out, HQ.out]; rfl, HB1.out⟩
  · cases hb : en L j with
    | true =>
      have HV := hid (show lcr L r s j = 0 by unfold lcr; rw [if_neg hneg, if_pos hb])
      go_enter Tryz.func24, Tryz.ntmps24
      go_wp2_with fail
      refine HRM.out.mono ?_
      rintro e w1 ⟨rfl, be1⟩
      obtain ⟨c0, c1, c2, c3, c4⟩ := (HS.out.kept be1).cell
      have HB1 := hid (HB.out.trans (be1.mono HB.out.size))
      have HR1 := hid (HR.out.below be1)
      clear be1
      go_wp2_with fail
      refine (HEN.out _ HR1.out).mono ?_
      rintro e w2 ⟨rfl, be2⟩
      have HB2 := hid (HB1.out.trans (be2.mono HB1.out.size))
      rw [hb]
      clear be2
      go_wp2
      go_ret
      exact ⟨by rw [HV.out]; rfl, HB2.out⟩
    | false =>
      have HV := hid (show lcr L r s j = (r - s) * (r - s) by unfold lcr; rw [if_neg hneg, if_neg (by rw [hb]; simp)])
      go_enter Tryz.func24, Tryz.ntmps24
      go_wp2_with fail
      refine HRM.out.mono ?_
      rintro e w1 ⟨rfl, be1⟩
      obtain ⟨c0, c1, c2, c3, c4⟩ := (HS.out.kept be1).cell
      have HB1 := hid (HB.out.trans (be1.mono HB.out.size))
      have HR1 := hid (HR.out.below be1)
      clear be1
      go_wp2_with fail
      refine (HEN.out _ HR1.out).mono ?_
      rintro e w2 ⟨rfl, be2⟩
      have HB2 := hid (HB1.out.trans (be2.mono HB1.out.size))
      rw [hb]
      clear be2
      go_wp2
      go_ret
      exact ⟨by rw [HV.out, HQ2.out]; rfl, HB2.out⟩
end Go.Proofs.YtkopefljnhgdkaaGreatDoor
