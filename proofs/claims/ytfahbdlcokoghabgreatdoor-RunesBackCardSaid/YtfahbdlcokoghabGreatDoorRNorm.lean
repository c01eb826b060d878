/- The contract of the document's Norm: the normal form of what a list means. -/
import Derived.Test.YtfahbdlcokoghabGreatDoorNormMath
namespace Go.Proofs.YtfahbdlcokoghabGreatDoor
open Go.RowKit

theorem isin_app (a b : List Rg) (r : Int) : isin r (a ++ b) ↔ isin r a ∨ isin r b := by
  rw [isin_iff, isin_iff, isin_iff]
  constructor
  · rintro ⟨g, hg, h⟩
    rcases List.mem_append.1 hg with h1 | h1
    · exact Or.inl ⟨g, h1, h⟩
    · exact Or.inr ⟨g, h1, h⟩
  · rintro (⟨g, hg, h⟩ | ⟨g, hg, h⟩)
    · exact ⟨g, List.mem_append.2 (Or.inl hg), h⟩
    · exact ⟨g, List.mem_append.2 (Or.inr hg), h⟩
theorem means_take (l : List Rg) (k : Nat) (hk : k < l.length) (r : Int) : means r (l.take (k + 1)) ↔ means r (l.take k) ∨ (0 ≤ r ∧ r ≤ top ∧ l[k].1 ≤ r ∧ r ≤ l[k].2) := by
  unfold means
  rw [List.take_succ_eq_append_getElem hk, isin_app]
  show (0 ≤ r ∧ r ≤ top ∧ (isin r (l.take k) ∨ ((l[k].1 ≤ r ∧ r ≤ l[k].2) ∨ False))) ↔ _
  rw [or_false]
  constructor
  · rintro ⟨a, b, c | c⟩
    · exact Or.inl ⟨a, b, c⟩
    · exact Or.inr ⟨a, b, c⟩
  · rintro (⟨a, b, c⟩ | ⟨a, b, c⟩)
    · exact ⟨a, b, Or.inl c⟩
    · exact ⟨a, b, Or.inr c⟩
/-- A range more: what is meant. -/
theorem step_yes {l s : List Rg} {k : Nat} {c0 c1 : Int} {p : Nat} (hk : k < l.length) (h : ∀ r, isin r s ↔ means r (l.take k)) (hc : ∀ r, (c0 ≤ r ∧ r ≤ c1) ↔ (0 ≤ r ∧ r ≤ top ∧ l[k].1 ≤ r ∧ r ≤ l[k].2)) :
    ∀ r, isin r (hole s p (c0, c1)) ↔ means r (l.take (k + 1)) := fun r => by
  rw [isin_hole, means_take l k hk, h r]
  show (c0 ≤ r ∧ r ≤ c1) ∨ _ ↔ _
  rw [hc r]
  exact Or.comm
theorem step_no {l s : List Rg} {k : Nat} (hk : k < l.length) (h : ∀ r, isin r s ↔ means r (l.take k)) (hc : ∀ r, ¬ (0 ≤ r ∧ r ≤ top ∧ l[k].1 ≤ r ∧ r ≤ l[k].2)) :
    ∀ r, isin r s ↔ means r (l.take (k + 1)) := fun r => by
  rw [means_take l k hk, h r]
  exact ⟨Or.inl, fun x => x.elim id (fun y => (hc r y).elim)⟩

theorem rgcs_set2 : ∀ (l : List Rg) (i : Nat) (a b c : Int), l[i]? = some (a, c) → (rgcs l).set (i * 2 + 1) (.int .i32 b) = rgcs (l.set i (a, b))
  | [], _, _, _, _, h => by cases h
  | x :: l, 0, a, b, c, h => by cases h; rfl
  | x :: l, i + 1, a, b, c, h => by
    have ih := rgcs_set2 l i a b c h
    have e1 : (i + 1) * 2 = i * 2 + 2 := by omega
    show (rgc x ++ rgcs l).set ((i + 1) * 2 + 1) _ = rgc x ++ rgcs (l.set i (a, b))
    rw [← ih, e1]
    rfl
theorem row_set2 {w : World} {B g n cap : Nat} {l : List Rg} (h : w.ownsRow B 33 2 (.slice (some ⟨g, 0, none⟩) n cap) l.length (rgcs l)) (i : Nat) (a b c : Int) (hi : l[i]? = some (a, c)) :
    (w.setCell ⟨g, i * 2 + 1, none⟩ (.int .i32 b)).ownsRow B 33 2 (.slice (some ⟨g, 0, none⟩) n cap) (l.set i (a, b)).length (rgcs (l.set i (a, b))) := by
  rcases h.2 with ⟨h1, _⟩ | ⟨g', cap', cur, h1, h2, h3, h4, h5, h6, h7⟩
  · cases h1
  · cases h1
    have s1 := Lib.heap_setCell_same (i := i * 2 + 1) h3 (.int .i32 b)
    rw [List.length_set]
    refine ⟨?_, Or.inr ⟨g, cap, _, rfl, h2, s1, h4, h5, by simp [h6], ?_⟩⟩
    · rw [rgcs_len, List.length_set]
    · rw [← rgcs_set2 l i a b c hi, ← h7]
      simp [List.take_set]
theorem ownsRow_base2 {w : World} {B B' : Nat} {e : TypeId} {size : Nat} {v : Value} {n : Nat} {xs : List Value} (h : w.ownsRow B e size v n xs) (hB : B' ≤ B) : w.ownsRow B' e size v n xs := by
  refine ⟨h.1, ?_⟩
  rcases h.2 with h0 | ⟨g, cap, cur, hv, hb, hg, hr⟩
  · exact Or.inl h0
  · exact Or.inr ⟨g, cap, cur, hv, Nat.le_trans hB hb, hg, hr⟩
theorem srt_at : ∀ {l : List Rg} {b : Int} {j : Nat} {g : Rg}, srt b l → l[j]? = some g → b ≤ g.1 ∧ g.1 ≤ g.2 ∧ g.2 ≤ top
  | [], _, _, _, _, h => by cases h
  | x :: l, b, 0, g, hs, h => by cases h; exact ⟨hs.1, hs.2.1, hs.2.2.1⟩
  | x :: l, b, j + 1, g, hs, h => by
    have h1 := srt_at hs.2.2.2 (show l[j]? = some g from h)
    have := hs.1
    exact ⟨by omega, h1.2⟩
theorem len_snoc (l : List Rg) (x : Rg) : (l ++ [x]).length = l.length + 1 := by simp
theorem set_last (P : List Rg) (x y : Rg) : (P ++ [x]).set P.length y = P ++ [y] := by
  rw [List.set_append_right _ _ (Nat.le_refl _), Nat.sub_self]; rfl

set_option maxRecDepth 100000 in
set_option maxHeartbeats 3000000 in
theorem rnorm_any (ao : Option Addr) (ac : Nat) (l : List Rg) (w : World) (ha : RdR w ao l) (hl : l.length ≤ 100000) :
    Calls Tryz.prog 21 #[.slice ao l.length ac] w fun e w' => ∃ v, e = .returned v ∧ w'.ownsRow w.heap.size 33 2 v (nrm l).length (rgcs (nrm l)) ∧ Below w.heap.size w w' := by
  obtain ⟨i0, hi, hz0, hz1, hz2⟩ := info_parts Tryz.info33
  have HA := hid ha
  clear ha
  go_enter Tryz.func21, Tryz.ntmps21
  go_wp2
  go_loopw [3, 4] (fun v i wr => ∃ (k : Nat) (s : List Rg), k ≤ l.length ∧ i = .int .i64 k ∧ Hid (wr.ownsRow w.heap.size 33 2 v s.length (rgcs s)) ∧ Hid (srt 0 s) ∧ Hid (∀ r, isin r s ↔ means r (l.take k)) ∧ s.length ≤ k ∧ Below w.heap.size w wr) (fun _ i _ => l.length - (intOf i).toNat)
  case atStart => exact ⟨0, [], by omega, rfl, World.ownsRow_nil _ _ _ _, trivial, fun r => by simp [isin, means], by simp, Below.refl _ _⟩
  case round =>
    obtain ⟨k, s, hk, rfl, HO, HS, HM, hsk, hB⟩ := hrel
    have hws := hB.size
    by_cases hlt : k < l.length
    · obtain ⟨a, rfl, ha, a0, a1⟩ := HA.out.below hB k l[k] (List.getElem?_eq_getElem hlt)
      have HY := hid (fun (c0 c1 : Int) (p : Nat) => step_yes (c0 := c0) (c1 := c1) (p := p) hlt HM.out)
      have HN := hid (step_no hlt HM.out)
      generalize l[k].1 = z0 at *
      generalize l[k].2 = z1 at *
      by_cases h0 : z0 < 0
      · by_cases h1 : 1114111 < z1
        · by_cases hc : (0 : Int) ≤ 1114111
          · go_wp2_with (go_at_call 31; refine (put_any w.heap.size u3 s (0, 1114111) (wr.alloc (.cells #[.int .i32 0, .int .i32 1114111] 33)) (HO.out.alloc _) (by simp; omega) (by omega)).mono ?_; rintro e w2 ⟨v2, p, rfl, hp, g1, g2, o2, b2⟩; have HO2 := hid o2; have HS2 := hid (srt_hole s p 0 (0, 1114111) HS.out hp (by dsimp only; omega) (by dsimp only; omega) (by unfold top; dsimp only; omega) g1 g2); have hlen := hole_len s p (0, 1114111) hp; clear o2 g1 g2)
            go_roundw
            case rel => exact ⟨k + 1, hole s p (0, 1114111), by omega, by go_num, HO2, HS2, HY.out 0 1114111 p (fun r => by unfold top; omega), by omega, (hB.alloc hB.size _).trans b2⟩
            case measure => simp [intOf]; omega
          · exact absurd (show (0 : Int) ≤ 1114111 by omega) hc
        · by_cases hc : (0 : Int) ≤ z1
          · go_wp2_with (go_at_call 31; refine (put_any w.heap.size u3 s (0, z1) (wr.alloc (.cells #[.int .i32 0, .int .i32 z1] 33)) (HO.out.alloc _) (by simp; omega) (by omega)).mono ?_; rintro e w2 ⟨v2, p, rfl, hp, g1, g2, o2, b2⟩; have HO2 := hid o2; have HS2 := hid (srt_hole s p 0 (0, z1) HS.out hp (by dsimp only; omega) (by dsimp only; omega) (by unfold top; dsimp only; omega) g1 g2); have hlen := hole_len s p (0, z1) hp; clear o2 g1 g2)
            go_roundw
            case rel => exact ⟨k + 1, hole s p (0, z1), by omega, by go_num, HO2, HS2, HY.out 0 z1 p (fun r => by unfold top; omega), by omega, (hB.alloc hB.size _).trans b2⟩
            case measure => simp [intOf]; omega
          · have HN2 := hid (HN.out (fun r => by unfold top; omega))
            go_wp2
            go_roundw
            case rel => exact ⟨k + 1, s, by omega, by go_num, HO.out.alloc _, HS, HN2, by omega, hB.alloc hB.size _⟩
            case measure => simp [intOf]; omega
      · by_cases h1 : 1114111 < z1
        · by_cases hc : (z0 : Int) ≤ 1114111
          · go_wp2_with (go_at_call 31; refine (put_any w.heap.size u3 s (z0, 1114111) (wr.alloc (.cells #[.int .i32 z0, .int .i32 1114111] 33)) (HO.out.alloc _) (by simp; omega) (by omega)).mono ?_; rintro e w2 ⟨v2, p, rfl, hp, g1, g2, o2, b2⟩; have HO2 := hid o2; have HS2 := hid (srt_hole s p 0 (z0, 1114111) HS.out hp (by dsimp only; omega) (by dsimp only; omega) (by unfold top; dsimp only; omega) g1 g2); have hlen := hole_len s p (z0, 1114111) hp; clear o2 g1 g2)
            go_roundw
            case rel => exact ⟨k + 1, hole s p (z0, 1114111), by omega, by go_num, HO2, HS2, HY.out z0 1114111 p (fun r => by unfold top; omega), by omega, (hB.alloc hB.size _).trans b2⟩
            case measure => simp [intOf]; omega
          · have HN2 := hid (HN.out (fun r => by unfold top; omega))
            go_wp2
            go_roundw
            case rel => exact ⟨k + 1, s, by omega, by go_num, HO.out.alloc _, HS, HN2, by omega, hB.alloc hB.size _⟩
            case measure => simp [intOf]; omega
        · by_cases hc : (z0 : Int) ≤ z1
          · go_wp2_with (go_at_call 31; refine (put_any w.heap.size u3 s (z0, z1) (wr.alloc (.cells #[.int .i32 z0, .int .i32 z1] 33)) (HO.out.alloc _) (by simp; omega) (by omega)).mono ?_; rintro e w2 ⟨v2, p, rfl, hp, g1, g2, o2, b2⟩; have HO2 := hid o2; have HS2 := hid (srt_hole s p 0 (z0, z1) HS.out hp (by dsimp only; omega) (by dsimp only; omega) (by unfold top; dsimp only; omega) g1 g2); have hlen := hole_len s p (z0, z1) hp; clear o2 g1 g2)
            go_roundw
            case rel => exact ⟨k + 1, hole s p (z0, z1), by omega, by go_num, HO2, HS2, HY.out z0 z1 p (fun r => by unfold top; omega), by omega, (hB.alloc hB.size _).trans b2⟩
            case measure => simp [intOf]; omega
          · have HN2 := hid (HN.out (fun r => by unfold top; omega))
            go_wp2
            go_roundw
            case rel => exact ⟨k + 1, s, by omega, by go_num, HO.out.alloc _, HS, HN2, by omega, hB.alloc hB.size _⟩
            case measure => simp [intOf]; omega
    · have HM2 := hid (show ∀ r, isin r s ↔ means r l by have h := HM.out; rw [List.take_of_length_le (by omega)] at h; exact h)
      have HNR := hid (mrg_nrm HS.out HM2.out)
      obtain ⟨so, sc, hu3, _, hrd⟩ := row_reads HO.out
      subst hu3
      have HRD := hid hrd
      obtain ⟨nr, hnr⟩ : ∃ nr, nr = wr.heap.size := ⟨_, rfl⟩
      obtain ⟨Wr, hWr⟩ : ∃ Wr, Wr = wr := ⟨_, rfl⟩
      rw [← hWr] at HRD hB hws
      have HB0 := hid hB
      have hs5 : s.length ≤ 100000 := by omega
      clear hrd HM HM2 HO hB
      rw [← hWr]
      clear hWr hnr
      go_wp2
      clear hlt hk hsk
      go_loopw [6, 7] (fun v i wq => ∃ (k : Nat) (O : List Rg), k ≤ s.length ∧ i = .int .i64 k ∧ Hid (wq.ownsRow Wr.heap.size 33 2 v O.length (rgcs O)) ∧ Hid (Mid s O k) ∧ O.length ≤ k ∧ Hid (∀ g, g ∈ O → 0 ≤ g.2 ∧ g.2 ≤ 1114111) ∧ Hid (Below Wr.heap.size Wr wq)) (fun _ i _ => s.length - (intOf i).toNat)
      case atStart => exact ⟨0, [], by omega, rfl, World.ownsRow_nil _ _ _ _, Mid.start s, by simp, fun g hg => (by cases hg), Below.refl _ _⟩
      case round =>
        obtain ⟨k, O, hk, rfl, HO, HMi, hok, HBD, HB⟩ := hrel
        have hbs := HB.out.size
        by_cases hlt : k < s.length
        · obtain ⟨gs, rfl, hgs, y0, y1⟩ := HRD.out k s[k] (List.getElem?_eq_getElem hlt)
          obtain ⟨b1, b2, b3⟩ := srt_at HS.out (List.getElem?_eq_getElem hlt)
          unfold top at b3
          replace y0 := (HB.out.cell (p := ⟨gs, k * 2, none⟩) hgs).trans y0
          replace y1 := (HB.out.cell (p := ⟨gs, k * 2 + 1, none⟩) hgs).trans y1
          rcases HMi.out with ⟨hk0, hO⟩ | ⟨Q, lo, hi', hO, hQ⟩
          · subst hO
            have HFI := hid (show Mid s [s[k]] (k + 1) by subst hk0; exact Mid.first hlt)
            obtain ⟨oo, oc, hu6, _, _⟩ := row_reads HO.out
            subst hu6
            obtain ⟨f0, hf0⟩ : ∃ f0, f0 = s[k].1 := ⟨_, rfl⟩
            obtain ⟨f1, hf1⟩ : ∃ f1, f1 = s[k].2 := ⟨_, rfl⟩
            have HF1 := hid (show Mid s [(f0, f1)] (k + 1) by have e : s[k] = (f0, f1) := Prod.ext hf0.symm hf1.symm; have h := HFI.out; rw [e] at h; exact h)
            rw [← hf0] at y0 b1 b2
            rw [← hf1] at y1 b2 b3
            clear hf0 hf1 HFI hk0 HMi hok HBD
            go_wp2_with fail
            go_quiet (fail)
            go_wp2_with (at_builtin; refine wpList_append_own _ rfl _ _ 22 rfl Wr.heap.size 33 i0 (.agg #[.int .i32 0, .int .i32 0]) 2 8 Tryz.underlying22 hi hz0 hz1 hz2 rfl (by decide) (.slice oo 0 oc) 0 [] rfl ((show (wr.drewN nq).ownsRow Wr.heap.size 33 2 (.slice oo 0 oc) 0 [] from HO.out).alloc _) ⟨wr.heap.size, 0, none⟩ 1 1 (rgc (f0, f1)) rfl rfl ?c1 ?c2 ?c3 ?c4 ?c5 ?_)
            case c1 => exact news_r (wr.drewN nq) (f0, f1) 33
            case c2 => exact rgc_one _
            case c3 => unfold maxLen; omega
            case c4 => omega
            case c5 => simp; omega
            intro v2 w2 o2 gr2 _
            have HO2 := hid (show w2.ownsRow Wr.heap.size 33 2 v2 [(f0, f1)].length (rgcs [(f0, f1)]) from o2)
            have HB2 := hid (((below_drewN HB.out nq).alloc (by simp; omega) (.cells #[.int .i32 f0, .int .i32 f1] 33)).grown gr2 (by simp; omega) (fun j hj => (HO.out.lt j hj).1))
            clear o2 gr2
            go_wp2
            go_roundw
            case rel => exact ⟨k + 1, [(f0, f1)], by omega, by go_num, HO2, HF1, by simp, fun g hg => (by simp at hg; subst hg; exact ⟨by dsimp only; omega, b3⟩), HB2⟩
            case measure => simp [intOf]; omega
          · subst hO
            obtain ⟨oo, oc, hu6, hog, _⟩ := row_reads HO.out
            obtain ⟨g, hoo, hgB, hgl⟩ := hog (by simp)
            subst hoo
            subst hu6
            obtain ⟨p0, p1⟩ := row_cell HO.out Q.length (lo, hi') (by simp)
            have q1 := row_frozen HO.out (Q.length * 2 + 1)
            have hbd := HBD.out (lo, hi') (by simp)
            obtain ⟨n, hn⟩ : ∃ n, n = Q.length := ⟨_, rfl⟩
            have hOl : (Q ++ [(lo, hi')]).length = n + 1 := by rw [hn]; simp
            have HJ := hid (fun hc => Mid.join hlt hQ hc)
            have HMo := hid (fun hc => Mid.more hlt hQ hc)
            obtain ⟨f0, hf0⟩ : ∃ f0, f0 = s[k].1 := ⟨_, rfl⟩
            obtain ⟨f1, hf1⟩ : ∃ f1, f1 = s[k].2 := ⟨_, rfl⟩
            rw [← hf0] at y0 b1 b2
            rw [← hf1] at y1 b2 b3
            rw [← hn] at p0 p1 q1
            dsimp only at hbd p0 p1
            have es : s[k] = (f0, f1) := Prod.ext hf0.symm hf1.symm
            rw [← hf0, ← hf1] at HJ
            rw [← hf0, es] at HMo
            have HQL := hid hn
            have HOL := hid hOl
            clear hf0 hf1 es hn HMi hQ
            have HO1 := hid (show wr.ownsRow Wr.heap.size 33 2 (.slice (some ⟨g, 0, none⟩) (n + 1) oc) (Q ++ [(lo, hi')]).length (rgcs (Q ++ [(lo, hi')])) by have h := HO.out; rw [hOl] at h ⊢; exact h)
            rw [hOl] at hok ⊢
            clear hOl HO
            have t0 : decide ((0 : Int) < (n : Int) + 1) = true := decide_eq_true (by omega)
            have esub : ((n : Int) + 1) - 1 = (n : Int) := by omega
            have ewr : IntKind.i64.wrap (n : Int) = (n : Int) := by rw [IntKind.wrap_i64]; omega
            have ew32 : IntKind.i32.wrap (hi' + 1) = hi' + 1 := by rw [IntKind.wrap_i32]; omega
            have i1 : (0 : Int) ≤ (n : Int) := by omega
            have i2 : (n : Int) < (n : Int) + 1 := by omega
            have i3 : (k : Int) < (s.length : Int) := by omega
            by_cases hc : hi' + 1 < f0
            · have HF2 := hid (HMo.out hc)
              clear HJ HMo
              go_wp2_with fail
              go_quiet (fail)
              go_wp2_with (at_builtin; refine wpList_append_own _ rfl _ _ 22 rfl Wr.heap.size 33 i0 (.agg #[.int .i32 0, .int .i32 0]) 2 8 Tryz.underlying22 hi hz0 hz1 hz2 rfl (by decide) (.slice (some ⟨g, 0, none⟩) (n + 1) oc) (Q ++ [(lo, hi')]).length (rgcs (Q ++ [(lo, hi')])) rfl ((show (wr.drewN nq).ownsRow Wr.heap.size 33 2 (.slice (some ⟨g, 0, none⟩) (n + 1) oc) (Q ++ [(lo, hi')]).length (rgcs (Q ++ [(lo, hi')])) from HO1.out).alloc _) ⟨wr.heap.size, 0, none⟩ 1 1 (rgc (f0, f1)) rfl rfl ?c1 ?c2 ?c3 ?c4 ?c5 ?_)
              case c1 => exact news_r (wr.drewN nq) (f0, f1) 33
              case c2 => exact rgc_one _
              case c3 => rw [HOL.out]; unfold maxLen; omega
              case c4 => rw [HOL.out]; omega
              case c5 => simp; omega
              intro v2 w2 o2 gr2 _
              have HO2 := hid (show w2.ownsRow Wr.heap.size 33 2 v2 (Q ++ [(lo, hi')] ++ [(f0, f1)]).length (rgcs (Q ++ [(lo, hi')] ++ [(f0, f1)])) by rw [rgcs_snoc, len_snoc, len_snoc]; exact o2)
              have HB2 := hid (((below_drewN HB.out nq).alloc (by simp; omega) (.cells #[.int .i32 f0, .int .i32 f1] 33)).grown gr2 (by simp; omega) (fun j hj => (HO1.out.lt j hj).1))
              have hl2 : (Q ++ [(lo, hi')] ++ [(f0, f1)]).length ≤ k + 1 := by rw [len_snoc (Q ++ [(lo, hi')]), HOL.out]; omega
              have HBD2 := hid (show ∀ x, x ∈ Q ++ [(lo, hi')] ++ [(f0, f1)] → 0 ≤ x.2 ∧ x.2 ≤ 1114111 from fun x hx => by
                rcases List.mem_append.1 hx with h | h
                · exact HBD.out x h
                · simp at h; subst h; exact ⟨by dsimp only; omega, b3⟩)
              clear o2 gr2
              go_wp2
              go_roundw
              case rel => exact ⟨k + 1, Q ++ [(lo, hi')] ++ [(f0, f1)], by omega, by go_num, HO2, HF2, hl2, HBD2, HB2⟩
              case measure => simp [intOf]; omega
            · have HF2 := hid (HJ.out hc)
              clear HJ HMo
              by_cases hm : hi' < f1
              · have HST := hid (show (wr.setCell ⟨g, n * 2 + 1, none⟩ (.int .i32 f1)).ownsRow Wr.heap.size 33 2 (.slice (some ⟨g, 0, none⟩) (n + 1) oc) (Q ++ [(lo, f1)]).length (rgcs (Q ++ [(lo, f1)])) by
                  have h := row_set2 HO1.out n lo f1 hi' (by rw [HQL.out]; simp)
                  rw [HQL.out, set_last, ← HQL.out] at h
                  exact h)
                have HF3 := hid (show Mid s (Q ++ [(lo, f1)]) (k + 1) by have h := HF2.out; rw [show max hi' f1 = f1 by omega] at h; exact h)
                have hl2 : (Q ++ [(lo, f1)]).length ≤ k + 1 := by have := HQL.out; simp; omega
                have HBD2 := hid (show ∀ x, x ∈ Q ++ [(lo, f1)] → 0 ≤ x.2 ∧ x.2 ≤ 1114111 from fun x hx => by
                  rcases List.mem_append.1 hx with h | h
                  · exact HBD.out x (List.mem_append.2 (Or.inl h))
                  · simp at h; subst h; exact ⟨by dsimp only; omega, b3⟩)
                go_wp2_with fail
                go_quiet (fail)
                go_wp2_with fail
                go_quiet (fail)
                go_wp2
                go_roundw
                case rel => exact ⟨k + 1, Q ++ [(lo, f1)], by omega, by go_num, HST.out, HF3, hl2, HBD2, (below_drewN HB.out _).setCell (p := ⟨g, n * 2 + 1, none⟩) hgB _⟩
                case measure => simp [intOf]; omega
              · have HF3 := hid (show Mid s (Q ++ [(lo, hi')]) (k + 1) by have h := HF2.out; rw [show max hi' f1 = hi' by omega] at h; exact h)
                go_wp2_with fail
                go_quiet (fail)
                go_wp2_with fail
                go_quiet (fail)
                go_wp2
                go_roundw
                case rel => exact ⟨k + 1, Q ++ [(lo, hi')], by omega, by go_num, HO1.out, HF3, by rw [HOL.out]; omega, HBD, below_drewN HB.out _⟩
                case measure => simp [intOf]; omega
        · have HD := hid (HMi.out.done hlt)
          go_wp2
          go_ret
          exact ⟨_, rfl, by rw [← HNR.out, ← HD.out]; exact ownsRow_base2 HO.out HB0.out.size, HB0.out.trans (HB.out.mono HB0.out.size)⟩
end Go.Proofs.YtfahbdlcokoghabGreatDoor

