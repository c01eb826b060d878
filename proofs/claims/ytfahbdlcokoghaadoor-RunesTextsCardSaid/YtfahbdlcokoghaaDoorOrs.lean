/- The contracts of Or (package runes) and of the document's Or, And and Minus. -/
import Derived.Test.YtfahbdlcokoghaaDoorConcat
import Derived.Test.YtfahbdlcokoghaaDoorRNot
namespace Go.Proofs.YtfahbdlcokoghaaDoor
open Go.RowKit

theorem rdr_row3 {w : World} {B : Nat} {v : Value} {l : List Rg} (h : w.ownsRow B 30 2 v l.length (rgcs l)) : ∃ ao cap, v = .slice ao l.length cap ∧ RdR w ao l ∧ (ao = none → cap = 0) := by
  obtain ⟨ao, cap, e, hr⟩ := rdr_row h
  refine ⟨ao, cap, e, hr, fun hn => ?_⟩
  rcases h.2 with ⟨h1, _⟩ | ⟨gg, cc, cur, h1, _⟩
  · rw [e] at h1; injection h1
  · rw [e, hn] at h1; cases h1

set_option maxHeartbeats 1000000 in
theorem or_any (ao bo : Option Addr) (ac bc : Nat) (a b : List Rg) (w : World) (ha : RdR w ao a) (hb : RdR w bo b) (hac : ao = none → ac = 0) (hbc : bo = none → bc = 0) (h1 : a.length ≤ 40000) (h2 : b.length ≤ 40000) :
    Calls Tryd.prog 19 #[.slice ao a.length ac, .slice bo b.length bc] w fun e w' => ∃ v, e = .returned v ∧ w'.ownsRow w.heap.size 30 2 v (orN a b).length (rgcs (orN a b)) ∧ Below w.heap.size w w' := by
  have hb1 : Below w.heap.size w (w.alloc (.cells #[.slice ao a.length ac, .slice bo b.length bc] 22)) := (Below.refl _ _).alloc (Nat.le_refl _) _
  have hk := World.alloc_heap_new w (.cells #[.slice ao a.length ac, .slice bo b.length bc] 22)
  obtain ⟨w1, hw1⟩ : ∃ w1, w1 = w.alloc (.cells #[.slice ao a.length ac, .slice bo b.length bc] 22) := ⟨_, rfl⟩
  have hs1 : w1.heap.size = w.heap.size + 1 := by rw [hw1]; simp
  rw [← hw1] at hb1 hk
  have HC := hid (concat_any w.heap.size ao bo ac bc a b w1 (by rw [cell_of_row w1 w.heap.size 0 _ 22 (0, 0) hk]; rfl) (by rw [cell_of_row w1 w.heap.size 1 _ 22 (0, 0) hk]; rfl) (ha.below hb1) (hb.below hb1) hac hbc (by omega) (by omega) (by omega))
  have HB1 := hid hb1
  clear ha hb hac hbc hb1 hk
  go_enter Tryd.func19, Tryd.ntmps19
  go_wp2_with fail
  rw [← hw1]
  refine HC.out.mono ?_
  rintro e w2 ⟨v, rfl, o2, hb2⟩
  have HOR := hid (show orN a b = nrm (a ++ b) from rfl)
  have hcl : (a ++ b).length ≤ 80000 := by rw [List.length_append]; omega
  obtain ⟨c, hc⟩ : ∃ c, c = a ++ b := ⟨_, rfl⟩
  rw [← hc] at o2 HOR hcl
  clear hc
  obtain ⟨co, cc, rfl, hr2, _⟩ := rdr_row3 o2
  have HN := hid (norm_any co cc c w2 hr2 (by omega))
  rw [← HOR.out] at HN
  have HB2 := hid (HB1.out.trans (hb2.mono HB1.out.size))
  clear o2 hr2 hb2 HC
  go_wp2_with fail
  refine HN.out.mono ?_
  rintro e w3 ⟨v3, rfl, o3, hb3⟩
  have HO := hid (ownsRow_base2 o3 HB2.out.size)
  have HB3 := hid (HB2.out.trans (hb3.mono HB2.out.size))
  clear o3 hb3 HN
  go_wp2
  go_ret
  exact ⟨_, rfl, HO.out, HB3.out⟩

set_option maxHeartbeats 1000000 in
theorem ror_any (ao bo : Option Addr) (ac bc : Nat) (a b : List Rg) (w : World) (ha : RdR w ao a) (hb : RdR w bo b) (hac : ao = none → ac = 0) (hbc : bo = none → bc = 0) (h1 : a.length ≤ 40000) (h2 : b.length ≤ 40000) :
    Calls Tryd.prog 20 #[.slice ao a.length ac, .slice bo b.length bc] w fun e w' => ∃ v, e = .returned v ∧ w'.ownsRow w.heap.size 30 2 v (orN a b).length (rgcs (orN a b)) ∧ Below w.heap.size w w' := by
  obtain ⟨i0, hi, hz0, hz1, hz2⟩ := info_parts Tryd.info30
  have o0 := row_empty w 30 2
  have hB0 := (Below.refl w.heap.size w).alloc (Nat.le_refl _) (.cells #[] 30)
  have HE0 := hid (ha.below hB0)
  have HF := hid hb
  have HAC := hid hac
  have HBC := hid hbc
  clear ha hb hac hbc
  go_enter Tryd.func20, Tryd.ntmps20
  go_wp2_with (at_builtin; refine wpList_append_rg rfl _ _ 22 rfl w.heap.size 30 i0 (.agg #[.int .i32 0, .int .i32 0]) 8 Tryd.underlying22 hi hz0 hz1 hz2 (by rfl) (.slice (some ⟨w.heap.size, 0, none⟩) 0 0) 0 [] (by rfl) o0 ao ac a rfl HAC.out HE0.out (by unfold maxLen; omega) (by omega) (by simp) ?_)
  intro v1 w1 o1 gr1
  have hB1 : Below w.heap.size w w1 := hB0.grown gr1 (by simp) (fun k hk => (o0.lt k hk).1)
  have hs1 := hB1.size
  have o1' : w1.ownsRow w.heap.size 30 2 v1 a.length (rgcs a) := by simpa using o1
  have HF1 := hid (HF.out.below hB1)
  clear gr1 o0 HE0 o1 hB0
  go_wp2_with (at_builtin; refine wpList_append_rg rfl _ _ 22 rfl w.heap.size 30 i0 (.agg #[.int .i32 0, .int .i32 0]) 8 Tryd.underlying22 hi hz0 hz1 hz2 (by rfl) _ a.length (rgcs a) rfl o1' bo bc b rfl HBC.out HF1.out (by unfold maxLen; omega) (by omega) (by omega) ?_)
  intro v2 w2 o2 gr2
  have hB2 : Below w.heap.size w w2 := hB1.grown gr2 hs1 (fun k hk => (o1'.lt k hk).1)
  have HB2 := hid hB2
  have o2' : w2.ownsRow w.heap.size 30 2 v2 (a ++ b).length (rgcs (a ++ b)) := by rw [rgcs_app, List.length_append]; exact o2
  have HOR := hid (show orN a b = nrm (a ++ b) from rfl)
  have hcl : (a ++ b).length ≤ 80000 := by rw [List.length_append]; omega
  obtain ⟨c, hc⟩ : ∃ c, c = a ++ b := ⟨_, rfl⟩
  rw [← hc] at o2' HOR hcl
  clear hc
  obtain ⟨co, cc, rfl, hr2, _⟩ := rdr_row3 o2'
  have HN := hid (rnorm_any co cc c w2 hr2 (by omega))
  rw [← HOR.out] at HN
  clear o2 o2' o1' gr2 hB1 hB2 hr2
  go_wp2_with fail
  refine HN.out.mono ?_
  rintro e w3 ⟨v3, rfl, o3, hb3⟩
  have HO := hid (ownsRow_base2 o3 HB2.out.size)
  have HB3 := hid (HB2.out.trans (hb3.mono HB2.out.size))
  clear o3 hb3 HN
  go_wp2
  go_ret
  exact ⟨_, rfl, HO.out, HB3.out⟩
theorem nt_len (l : List Rg) : (nt l).length ≤ l.length + 1 := by
  have h1 := nrm_len l
  have h2 : ∀ (s : List Rg) (b : Int), (ntF b s).length ≤ s.length + 1 := fun s => by
    induction s with
    | nil => intro b; unfold ntF; split <;> simp
    | cons g t ih =>
      intro b
      unfold ntF
      have := ih (g.2 + 1)
      split <;> simp <;> omega
  have := h2 (nrm l) 0
  unfold nt
  omega
theorem orN_len (a b : List Rg) : (orN a b).length ≤ a.length + b.length := by
  have := nrm_len (a ++ b)
  rw [List.length_append] at this
  exact this

set_option maxHeartbeats 1000000 in
theorem rand_any (ao bo : Option Addr) (ac bc : Nat) (a b : List Rg) (w : World) (ha : RdR w ao a) (hb : RdR w bo b) (h1 : a.length ≤ 10000) (h2 : b.length ≤ 10000) :
    Calls Tryd.prog 22 #[.slice ao a.length ac, .slice bo b.length bc] w fun e w' => ∃ v, e = .returned v ∧ w'.ownsRow w.heap.size 30 2 v (andN a b).length (rgcs (andN a b)) ∧ Below w.heap.size w w' := by
  have HA := hid (rnot_any ao ac a w ha (by omega))
  have HBR := hid hb
  have la := nt_len a
  have lb := nt_len b
  have lo := orN_len (nt a) (nt b)
  rw [← rand_eq]
  clear ha hb
  go_enter Tryd.func22, Tryd.ntmps22
  go_wp2_with fail
  refine HA.out.mono ?_
  rintro e w1 ⟨v1, rfl, o1, hb1⟩
  obtain ⟨xo, xc, rfl, hr1, hc1⟩ := rdr_row3 o1
  have HN := hid (rnot_any bo bc b w1 (HBR.out.below hb1) (by omega))
  have HB1 := hid hb1
  have HR1 := hid hr1
  have HC1 := hid hc1
  clear o1 hr1 hb1 hc1 HA
  go_wp2_with fail
  refine HN.out.mono ?_
  rintro e w2 ⟨v2, rfl, o2, hb2⟩
  obtain ⟨yo, yc, rfl, hr2, hc2⟩ := rdr_row3 o2
  have HB2 := hid (HB1.out.trans (hb2.mono HB1.out.size))
  have HOR := hid (ror_any xo yo xc yc (nt a) (nt b) w2 (HR1.out.below hb2) hr2 HC1.out hc2 (by omega) (by omega))
  clear o2 hr2 hb2 hc2 HN HR1
  go_wp2_with fail
  refine HOR.out.mono ?_
  rintro e w3 ⟨v3, rfl, o3, hb3⟩
  obtain ⟨zo, zc, rfl, hr3, hc3⟩ := rdr_row3 o3
  have HB3 := hid (HB2.out.trans (hb3.mono HB2.out.size))
  have HN3 := hid (rnot_any zo zc (orN (nt a) (nt b)) w3 hr3 (by omega))
  clear o3 hr3 hb3 hc3 HOR
  go_wp2_with fail
  refine HN3.out.mono ?_
  rintro e w4 ⟨v4, rfl, o4, hb4⟩
  have HO := hid (ownsRow_base2 o4 HB3.out.size)
  have HB4 := hid (HB3.out.trans (hb4.mono HB3.out.size))
  clear o4 hb4 HN3
  go_wp2
  go_ret
  exact ⟨_, rfl, HO.out, HB4.out⟩

set_option maxHeartbeats 1000000 in
theorem rminus_any (ao bo : Option Addr) (ac bc : Nat) (a b : List Rg) (w : World) (ha : RdR w ao a) (hb : RdR w bo b) (h1 : a.length ≤ 5000) (h2 : b.length ≤ 5000) :
    Calls Tryd.prog 24 #[.slice ao a.length ac, .slice bo b.length bc] w fun e w' => ∃ v, e = .returned v ∧ w'.ownsRow w.heap.size 30 2 v (minN a b).length (rgcs (minN a b)) ∧ Below w.heap.size w w' := by
  have HA := hid (rnot_any bo bc b w hb (by omega))
  have HAR := hid ha
  have lb := nt_len b
  clear ha hb
  go_enter Tryd.func24, Tryd.ntmps24
  go_wp2_with fail
  refine HA.out.mono ?_
  rintro e w1 ⟨v1, rfl, o1, hb1⟩
  obtain ⟨xo, xc, rfl, hr1, hc1⟩ := rdr_row3 o1
  have HN := hid (rand_any ao xo ac xc a (nt b) w1 (HAR.out.below hb1) hr1 (by omega) (by omega))
  have HB1 := hid hb1
  clear o1 hr1 hb1 hc1 HA
  go_wp2_with fail
  refine HN.out.mono ?_
  rintro e w2 ⟨v2, rfl, o2, hb2⟩
  have HO := hid (ownsRow_base2 o2 HB1.out.size)
  have HB2 := hid (HB1.out.trans (hb2.mono HB1.out.size))
  clear o2 hb2 HN
  go_wp2
  go_ret
  exact ⟨_, rfl, HO.out, HB2.out⟩
end Go.Proofs.YtfahbdlcokoghaaDoor
