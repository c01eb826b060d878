/- The contract of sorted (package runes), by what the library's sort does. -/
import Derived.Test.YtfahbdlcokoghabGreatDoorSortNil
namespace Go.Proofs.YtfahbdlcokoghabGreatDoor
open Go.RowKit

/-- What the library's sort does with a row of the call's own. -/
def SortSays : Prop := ∀ (B g cap : Nat) (l : List Rg) (w : World), w.ownsRow B 33 2 (.slice (some ⟨g, 0, none⟩) l.length cap) l.length (rgcs l) → B ≤ w.heap.size → B ≤ g → g < w.heap.size → l.length ≤ 1000000 → (∀ x, x ∈ l → 0 ≤ x.1 ∧ x.1 ≤ x.2 ∧ x.2 ≤ top) →
    Calls Tryz.prog 32 #[.slice (some ⟨g, 0, none⟩) l.length cap, .func (.func 33) #[] #[]] w fun e w' => e = .returned (.tuple #[]) ∧ ∃ s : List Rg, s.length = l.length ∧ srt 0 s ∧ (∀ r, isin r s ↔ isin r l) ∧ RdR w' (some ⟨g, 0, none⟩) s ∧ Below B w w'

theorem step_snoc {l s : List Rg} {k : Nat} {c0 c1 : Int} (hk : k < l.length) (h : ∀ r, isin r s ↔ means r (l.take k)) (hc : ∀ r, (c0 ≤ r ∧ r ≤ c1) ↔ (0 ≤ r ∧ r ≤ top ∧ l[k].1 ≤ r ∧ r ≤ l[k].2)) :
    ∀ r, isin r (s ++ [(c0, c1)]) ↔ means r (l.take (k + 1)) := fun r => by
  rw [isin_app, means_take l k hk, h r]
  show _ ∨ ((c0 ≤ r ∧ r ≤ c1) ∨ False) ↔ _
  rw [or_false, hc r]
def vld (s : List Rg) : Prop := ∀ x, x ∈ s → 0 ≤ x.1 ∧ x.1 ≤ x.2 ∧ x.2 ≤ top
theorem vld_snoc {s : List Rg} {c0 c1 : Int} (h : vld s) (h0 : 0 ≤ c0) (h1 : c0 ≤ c1) (h2 : c1 ≤ top) : vld (s ++ [(c0, c1)]) := fun x hx => by
  rcases List.mem_append.1 hx with h' | h'
  · exact h x h'
  · simp at h'; subst h'; exact ⟨h0, h1, h2⟩

set_option maxRecDepth 100000 in
set_option maxHeartbeats 3000000 in
theorem sorted_of (hsort : SortSays) (ao : Option Addr) (ac : Nat) (l : List Rg) (w : World) (ha : RdR w ao l) (hl : l.length ≤ 100000) :
    Calls Tryz.prog 23 #[.slice ao l.length ac] w fun e w' => ∃ (so : Option Addr) (sc : Nat) (s : List Rg), e = .returned (.slice so s.length sc) ∧ srt 0 s ∧ (∀ r, isin r s ↔ means r l) ∧ s.length ≤ l.length ∧ RdR w' so s ∧ Below w.heap.size w w' := by
  obtain ⟨i0, hi, hz0, hz1, hz2⟩ := info_parts Tryz.info33
  have HA := hid ha
  have HSO := hid hsort
  clear ha hsort
  go_enter Tryz.func23, Tryz.ntmps23
  go_wp2
  go_loopw [3, 8] (fun v i wr => ∃ (k : Nat) (s : List Rg), k ≤ l.length ∧ i = .int .i64 k ∧ Hid (wr.ownsRow w.heap.size 33 2 v s.length (rgcs s)) ∧ Hid (vld s) ∧ Hid (∀ r, isin r s ↔ means r (l.take k)) ∧ s.length ≤ k ∧ Below w.heap.size w wr) (fun _ i _ => l.length - (intOf i).toNat)
  case atStart => exact ⟨0, [], by omega, rfl, World.ownsRow_nil _ _ _ _, fun x hx => (by cases hx), fun r => by simp [isin, means], by simp, Below.refl _ _⟩
  case round =>
    obtain ⟨k, s, hk, rfl, HO, HV, HM, hsk, hB⟩ := hrel
    have hws := hB.size
    by_cases hlt : k < l.length
    · obtain ⟨a, rfl, ha, a0, a1⟩ := HA.out.below hB k l[k] (List.getElem?_eq_getElem hlt)
      have HY := hid (fun (c0 c1 : Int) => step_snoc (c0 := c0) (c1 := c1) hlt HM.out)
      have HN := hid (step_no hlt HM.out)
      generalize l[k].1 = z0 at *
      generalize l[k].2 = z1 at *
      obtain ⟨c0, q0⟩ : ∃ c0 : Int, (if z0 < 0 then 0 else z0) = c0 := ⟨_, rfl⟩
      obtain ⟨c1, q1⟩ : ∃ c1 : Int, (if 1114111 < z1 then 1114111 else z1) = c1 := ⟨_, rfl⟩
      have HC0 := hid (show c0 = max z0 0 by rw [← q0]; split <;> omega)
      have HC1 := hid (show c1 = min z1 1114111 by rw [← q1]; split <;> omega)
      by_cases hc : c0 ≤ c1
      · have HY2 := hid (HY.out c0 c1 (fun r => by have := HC0.out; have := HC1.out; unfold top; omega))
        have HV2 := hid (vld_snoc HV.out (by have := HC0.out; omega) hc (by have := HC1.out; unfold top; omega))
        go_wp2_with (at_builtin; refine wpList_append_own _ rfl _ _ 22 rfl w.heap.size 33 i0 (.agg #[.int .i32 0, .int .i32 0]) 2 8 Tryz.underlying22 hi hz0 hz1 hz2 rfl (by decide) _ s.length (rgcs s) rfl ((HO.out.alloc _).alloc _) ⟨wr.heap.size + 1, 0, none⟩ 1 1 (rgc (c0, c1)) rfl rfl ?c1 ?c2 ?c3 ?c4 ?c5 ?_)
        case c1 =>
          have hn := news_r (wr.alloc (.cells #[.int .i32 c0, .int .i32 c1] 33)) (c0, c1) 33
          rw [World.size_alloc] at hn
          exact hn
        case c2 => exact rgc_one _
        case c3 => unfold maxLen; omega
        case c4 => omega
        case c5 => simp; omega
        intro v2 w2 o2 gr2 _
        have HO2 := hid (show w2.ownsRow w.heap.size 33 2 v2 (s ++ [(c0, c1)]).length (rgcs (s ++ [(c0, c1)])) by rw [rgcs_snoc, len_snoc]; exact o2)
        have HB2 := hid (((hB.alloc hB.size (.cells #[.int .i32 c0, .int .i32 c1] 33)).alloc (by simp; omega) (.cells #[.int .i32 c0, .int .i32 c1] 33)).grown gr2 (by simp; omega) (fun j hj => (HO.out.lt j hj).1))
        clear o2 gr2
        go_wp2
        go_roundw
        case rel => exact ⟨k + 1, s ++ [(c0, c1)], by omega, by go_num, HO2, HV2, HY2, by rw [len_snoc]; omega, HB2⟩
        case measure => simp [intOf]; omega
      · have HN2 := hid (HN.out (fun r => by have := HC0.out; have := HC1.out; unfold top; omega))
        go_wp2
        go_roundw
        case rel => exact ⟨k + 1, s, by omega, by go_num, HO.out.alloc _, HV, HN2, by omega, hB.alloc hB.size _⟩
        case measure => simp [intOf]; omega
    · have HM2 := hid (show ∀ r, isin r s ↔ means r l by have h := HM.out; rw [List.take_of_length_le (by omega)] at h; exact h)
      rcases HO.out.2 with ⟨h1, h2⟩ | ⟨g, cap, cur, h1, h2, h3, h4⟩
      · subst h1
        have h0 : s = [] := List.length_eq_zero_iff.1 h2
        go_wp2_with fail
        refine (sort_nil _ wr).mono ?_
        rintro e w2 ⟨rfl, hw⟩
        obtain rfl := hw.symm
        go_wp2
        go_ret
        exact ⟨none, 0, [], rfl, trivial, fun r => by rw [← HM2.out r, h0], by simp, fun k g hk => (by cases hk), hB⟩
      · subst h1
        have hg := (Array.getElem?_eq_some_iff.1 h3).1
        have HS1 := hid (HSO.out w.heap.size g cap s wr HO.out hws h2 hg (by omega) HV.out)
        clear h3 h4
        go_wp2_with fail
        refine HS1.out.mono ?_
        rintro e w2 ⟨rfl, s2, e2, h2s, h2i, h2r, h2b⟩
        have HB2 := hid (hB.trans h2b)
        have HR2 := hid h2r
        have HI2 := hid (show ∀ r, isin r s2 ↔ means r l from fun r => (h2i r).trans (HM2.out r))
        have HS2 := hid h2s
        have HL2 := hid e2
        clear h2s h2i h2r h2b e2
        go_wp2
        go_ret
        exact ⟨some ⟨g, 0, none⟩, cap, s2, by rw [HL2.out]; rfl, HS2.out, HI2.out, by have := HL2.out; omega, HR2.out, HB2.out⟩
end Go.Proofs.YtfahbdlcokoghabGreatDoor

