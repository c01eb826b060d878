/- The contract of the document's Norm: the normal form of what a list means. -/
import Derived.Test.YtohhokjlgihbgaaGreatDoorGc
import Derived.Shelf.SlSortCmp.WholeK
import Derived.Ground.SlsfProg
import Derived.Test.YtohhokjlgihbgaaGreatDoorProg
import Derived.Test.YtohhokjlgihbgaaGreatDoorGb
namespace Go.Proofs.YtohhokjlgihbgaaGreatDoor
open Go.RowKit

theorem isin_app (a b : List Rg) (r : Int) : isin r (a ++ b) ↔ isin r a ∨ isin r b := by
  rw [isin_iff, isin_iff, isin_iff]
  constructor
  · rintro ⟨g, hg, h⟩
    rcases List.mem_append.1 hg with h1 | h1
    · exact Or.inl ⟨g, h1, h⟩
    · exact Or.inr ⟨g, h1, h⟩
  · rintro (⟨g, hg, h⟩ | ⟨g, hg, h⟩)
    · exact ⟨g, List.mem_append.2 (Or.inl hg), h⟩
    · exact ⟨g, List.mem_append.2 (Or.inr hg), h⟩
theorem means_take (l : List Rg) (k : Nat) (hk : k < l.length) (r : Int) : means r (l.take (k + 1)) ↔ means r (l.take k) ∨ (0 ≤ r ∧ r ≤ top ∧ l[k].1 ≤ r ∧ r ≤ l[k].2) := by
  unfold means
  rw [List.take_succ_eq_append_getElem hk, isin_app]
  show (0 ≤ r ∧ r ≤ top ∧ (isin r (l.take k) ∨ ((l[k].1 ≤ r ∧ r ≤ l[k].2) ∨ False))) ↔ _
  rw [or_false]
  constructor
  · rintro ⟨a, b, c | c⟩
    · exact Or.inl ⟨a, b, c⟩
    · exact Or.inr ⟨a, b, c⟩
  · rintro (⟨a, b, c⟩ | ⟨a, b, c⟩)
    · exact ⟨a, b, Or.inl c⟩
    · exact ⟨a, b, Or.inr c⟩
/-- A range more: what is meant. -/
theorem step_yes {l s : List Rg} {k : Nat} {c0 c1 : Int} {p : Nat} (hk : k < l.length) (h : ∀ r, isin r s ↔ means r (l.take k)) (hc : ∀ r, (c0 ≤ r ∧ r ≤ c1) ↔ (0 ≤ r ∧ r ≤ top ∧ l[k].1 ≤ r ∧ r ≤ l[k].2)) :
    ∀ r, isin r (hole s p (c0, c1)) ↔ means r (l.take (k + 1)) := fun r => by
  rw [isin_hole, means_take l k hk, h r]
  show (c0 ≤ r ∧ r ≤ c1) ∨ _ ↔ _
  rw [hc r]
  exact Or.comm
theorem step_no {l s : List Rg} {k : Nat} (hk : k < l.length) (h : ∀ r, isin r s ↔ means r (l.take k)) (hc : ∀ r, ¬ (0 ≤ r ∧ r ≤ top ∧ l[k].1 ≤ r ∧ r ≤ l[k].2)) :
    ∀ r, isin r s ↔ means r (l.take (k + 1)) := fun r => by
  rw [means_take l k hk, h r]
  exact ⟨Or.inl, fun x => x.elim id (fun y => (hc r y).elim)⟩

theorem rgcs_set2 : ∀ (l : List Rg) (i : Nat) (a b c : Int), l[i]? = some (a, c) → (rgcs l).set (i * 2 + 1) (.int .i32 b) = rgcs (l.set i (a, b))
  | [], _, _, _, _, h => by cases h
  | x :: l, 0, a, b, c, h => by cases h; rfl
  | x :: l, i + 1, a, b, c, h => by
    have ih := rgcs_set2 l i a b c h
    have e1 : (i + 1) * 2 = i * 2 + 2 := by omega
    show (rgc x ++ rgcs l).set ((i + 1) * 2 + 1) _ = rgc x ++ rgcs (l.set i (a, b))
    rw [← ih, e1]
    rfl
theorem row_set2 {w : World} {B g n cap : Nat} {l : List Rg} (h : w.ownsRow B 84 2 (.slice (some ⟨g, 0, none⟩) n cap) l.length (rgcs l)) (i : Nat) (a b c : Int) (hi : l[i]? = some (a, c)) :
    (w.setCell ⟨g, i * 2 + 1, none⟩ (.int .i32 b)).ownsRow B 84 2 (.slice (some ⟨g, 0, none⟩) n cap) (l.set i (a, b)).length (rgcs (l.set i (a, b))) := by
  rcases h.2 with ⟨h1, _⟩ | ⟨g', cap', cur, h1, h2, h3, h4, h5, h6, h7⟩
  · cases h1
  · cases h1
    have s1 := Lib.heap_setCell_same (i := i * 2 + 1) h3 (.int .i32 b)
    rw [List.length_set]
    refine ⟨?_, Or.inr ⟨g, cap, _, rfl, h2, s1, h4, h5, by simp [h6], ?_⟩⟩
    · rw [rgcs_len, List.length_set]
    · rw [← rgcs_set2 l i a b c hi, ← h7]
      simp [List.take_set]
theorem ownsRow_base2 {w : World} {B B' : Nat} {e : TypeId} {size : Nat} {v : Value} {n : Nat} {xs : List Value} (h : w.ownsRow B e size v n xs) (hB : B' ≤ B) : w.ownsRow B' e size v n xs := by
  refine ⟨h.1, ?_⟩
  rcases h.2 with h0 | ⟨g, cap, cur, hv, hb, hg, hr⟩
  · exact Or.inl h0
  · exact Or.inr ⟨g, cap, cur, hv, Nat.le_trans hB hb, hg, hr⟩
theorem srt_at : ∀ {l : List Rg} {b : Int} {j : Nat} {g : Rg}, srt b l → l[j]? = some g → b ≤ g.1 ∧ g.1 ≤ g.2 ∧ g.2 ≤ top
  | [], _, _, _, _, h => by cases h
  | x :: l, b, 0, g, hs, h => by cases h; exact ⟨hs.1, hs.2.1, hs.2.2.1⟩
  | x :: l, b, j + 1, g, hs, h => by
    have h1 := srt_at hs.2.2.2 (show l[j]? = some g from h)
    have := hs.1
    exact ⟨by omega, h1.2⟩
theorem len_snoc (l : List Rg) (x : Rg) : (l ++ [x]).length = l.length + 1 := by simp
theorem set_last (P : List Rg) (x y : Rg) : (P ++ [x]).set P.length y = P ++ [y] := by
  rw [List.set_append_right _ _ (Nat.le_refl _), Nat.sub_self]; rfl

set_option maxRecDepth 100000 in
set_option maxHeartbeats 3000000 in
theorem rnorm_any (ao : Option Addr) (ac : Nat) (l : List Rg) (w : World) (ha : RdR w ao l) (hl : l.length ≤ 100000) :
    Calls Tryz.prog 49 #[.slice ao l.length ac] w fun e w' => ∃ v, e = .returned v ∧ w'.ownsRow w.heap.size 84 2 v (nrm l).length (rgcs (nrm l)) ∧ Below w.heap.size w w' := by
  obtain ⟨i0, hi, hz0, hz1, hz2⟩ := info_parts Tryz.info84
  have HA := hid ha
  clear ha
  go_enter Tryz.func49, Tryz.ntmps49
  go_wp2
  go_loopw [3, 4] (fun v i wr => ∃ (k : Nat) (s : List Rg), k ≤ l.length ∧ i = .int .i64 k ∧ Hid (wr.ownsRow w.heap.size 84 2 v s.length (rgcs s)) ∧ Hid (srt 0 s) ∧ Hid (∀ r, isin r s ↔ means r (l.take k)) ∧ s.length ≤ k ∧ Below w.heap.size w wr) (fun _ i _ => l.length - (intOf i).toNat)
  case atStart => exact ⟨0, [], by omega, rfl, World.ownsRow_nil _ _ _ _, trivial, fun r => by simp [isin, means], by simp, Below.refl _ _⟩
  case round =>
    obtain ⟨k, s, hk, rfl, HO, HS, HM, hsk, hB⟩ := hrel
    have hws := hB.size
    by_cases hlt : k < l.length
    · obtain ⟨a, rfl, ha, a0, a1⟩ := HA.out.below hB k l[k] (List.getElem?_eq_getElem hlt)
      have HY := hid (fun (c0 c1 : Int) (p : Nat) => step_yes (c0 := c0) (c1 := c1) (p := p) hlt HM.out)
      have HN := hid (step_no hlt HM.out)
      generalize l[k].1 = z0 at *
      generalize l[k].2 = z1 at *
      by_cases h0 : z0 < 0
      · by_cases h1 : 1114111 < z1
        · by_cases hc : (0 : Int) ≤ 1114111
          · go_wp2_with (go_at_call 80; refine (put_any w.heap.size u3 s (0, 1114111) (wr.alloc (.cells #[.int .i32 0, .int .i32 1114111] 84)) (HO.out.alloc _) (by simp; omega) (by omega)).mono ?_; rintro e w2 ⟨v2, p, rfl, hp, g1, g2, o2, b2⟩; have HO2 := hid o2; have HS2 := hid (srt_hole s p 0 (0, 1114111) HS.out hp (by dsimp only; omega) (by dsimp only; omega) (by unfold top; dsimp only; omega) g1 g2); have hlen := hole_len s p (0, 1114111) hp; clear o2 g1 g2)
            go_roundw
            case rel => exact ⟨k + 1, hole s p (0, 1114111), by omega, by go_num, HO2, HS2, HY.out 0 1114111 p (fun r => by unfold top; omega), by omega, (hB.alloc hB.size _).trans b2⟩
            case measure => simp [intOf]; omega
          · exact absurd (show (0 : Int) ≤ 1114111 by omega) hc
        · by_cases hc : (0 : Int) ≤ z1
          · go_wp2_with (go_at_call 80; refine (put_any w.heap.size u3 s (0, z1) (wr.alloc (.cells #[.int .i32 0, .int .i32 z1] 84)) (HO.out.alloc _) (by simp; omega) (by omega)).mono ?_; rintro e w2 ⟨v2, p, rfl, hp, g1, g2, o2, b2⟩; have HO2 := hid o2; have HS2 := hid (srt_hole s p 0 (0, z1) HS.out hp (by dsimp only; omega) (by dsimp only; omega) (by unfold top; dsimp only; omega) g1 g2); have hlen := hole_len s p (0, z1) hp; clear o2 g1 g2)
            go_roundw
            case rel => exact ⟨k + 1, hole s p (0, z1), by omega, by go_num, HO2, HS2, HY.out 0 z1 p (fun r => by unfold top; omega), by omega, (hB.alloc hB.size _).trans b2⟩
            case measure => simp [intOf]; omega
          · have HN2 := hid (HN.out (fun r => by unfold top; omega))
            go_wp2
            go_roundw
            case rel => exact ⟨k + 1, s, by omega, by go_num, HO.out.alloc _, HS, HN2, by omega, hB.alloc hB.size _⟩
            case measure => simp [intOf]; omega
      · by_cases h1 : 1114111 < z1
        · by_cases hc : (z0 : Int) ≤ 1114111
          · go_wp2_with (go_at_call 80; refine (put_any w.heap.size u3 s (z0, 1114111) (wr.alloc (.cells #[.int .i32 z0, .int .i32 1114111] 84)) (HO.out.alloc _) (by simp; omega) (by omega)).mono ?_; rintro e w2 ⟨v2, p, rfl, hp, g1, g2, o2, b2⟩; have HO2 := hid o2; have HS2 := hid (srt_hole s p 0 (z0, 1114111) HS.out hp (by dsimp only; omega) (by dsimp only; omega) (by unfold top; dsimp only; omega) g1 g2); have hlen := hole_len s p (z0, 1114111) hp; clear o2 g1 g2)
            go_roundw
            case rel => exact ⟨k + 1, hole s p (z0, 1114111), by omega, by go_num, HO2, HS2, HY.out z0 1114111 p (fun r => by unfold top; omega), by omega, (hB.alloc hB.size _).trans b2⟩
            case measure => simp [intOf]; omega
          · have HN2 := hid (HN.out (fun r => by unfold top; omega))
            go_wp2
            go_roundw
            case rel => exact ⟨k + 1, s, by omega, by go_num, HO.out.alloc _, HS, HN2, by omega, hB.alloc hB.size _⟩
            case measure => simp [intOf]; omega
        · by_cases hc : (z0 : Int) ≤ z1
          · go_wp2_with (go_at_call 80; refine (put_any w.heap.size u3 s (z0, z1) (wr.alloc (.cells #[.int .i32 z0, .int .i32 z1] 84)) (HO.out.alloc _) (by simp; omega) (by omega)).mono ?_; rintro e w2 ⟨v2, p, rfl, hp, g1, g2, o2, b2⟩; have HO2 := hid o2; have HS2 := hid (srt_hole s p 0 (z0, z1) HS.out hp (by dsimp only; omega) (by dsimp only; omega) (by unfold top; dsimp only; omega) g1 g2); have hlen := hole_len s p (z0, z1) hp; clear o2 g1 g2)
            go_roundw
            case rel => exact ⟨k + 1, hole s p (z0, z1), by omega, by go_num, HO2, HS2, HY.out z0 z1 p (fun r => by unfold top; omega), by omega, (hB.alloc hB.size _).trans b2⟩
            case measure => simp [intOf]; omega
          · have HN2 := hid (HN.out (fun r => by unfold top; omega))
            go_wp2
            go_roundw
            case rel => exact ⟨k + 1, s, by omega, by go_num, HO.out.alloc _, HS, HN2, by omega, hB.alloc hB.size _⟩
            case measure => simp [intOf]; omega
    · have HM2 := hid (show ∀ r, isin r s ↔ means r l by have h := HM.out; rw [List.take_of_length_le (by omega)] at h; exact h)
      have HNR := hid (mrg_nrm HS.out HM2.out)
      obtain ⟨so, sc, hu3, _, hrd⟩ := row_reads HO.out
      subst hu3
      have HRD := hid hrd
      obtain ⟨nr, hnr⟩ : ∃ nr, nr = wr.heap.size := ⟨_, rfl⟩
      obtain ⟨Wr, hWr⟩ : ∃ Wr, Wr = wr := ⟨_, rfl⟩
      rw [← hWr] at HRD hB hws
      have HB0 := hid hB
      have hs5 : s.length ≤ 100000 := by omega
      clear hrd HM HM2 HO hB
      rw [← hWr]
      clear hWr hnr
      go_wp2
      clear hlt hk hsk
      go_loopw [6, 7] (fun v i wq => ∃ (k : Nat) (O : List Rg), k ≤ s.length ∧ i = .int .i64 k ∧ Hid (wq.ownsRow Wr.heap.size 84 2 v O.length (rgcs O)) ∧ Hid (Mid s O k) ∧ O.length ≤ k ∧ Hid (∀ g, g ∈ O → 0 ≤ g.2 ∧ g.2 ≤ 1114111) ∧ Hid (Below Wr.heap.size Wr wq)) (fun _ i _ => s.length - (intOf i).toNat)
      case atStart => exact ⟨0, [], by omega, rfl, World.ownsRow_nil _ _ _ _, Mid.start s, by simp, fun g hg => (by cases hg), Below.refl _ _⟩
      case round =>
        obtain ⟨k, O, hk, rfl, HO, HMi, hok, HBD, HB⟩ := hrel
        have hbs := HB.out.size
        by_cases hlt : k < s.length
        · obtain ⟨gs, rfl, hgs, y0, y1⟩ := HRD.out k s[k] (List.getElem?_eq_getElem hlt)
          obtain ⟨b1, b2, b3⟩ := srt_at HS.out (List.getElem?_eq_getElem hlt)
          unfold top at b3
          replace y0 := (HB.out.cell (p := ⟨gs, k * 2, none⟩) hgs).trans y0
          replace y1 := (HB.out.cell (p := ⟨gs, k * 2 + 1, none⟩) hgs).trans y1
          rcases HMi.out with ⟨hk0, hO⟩ | ⟨Q, lo, hi', hO, hQ⟩
          · subst hO
            have HFI := hid (show Mid s [s[k]] (k + 1) by subst hk0; exact Mid.first hlt)
            obtain ⟨oo, oc, hu6, _, _⟩ := row_reads HO.out
            subst hu6
            obtain ⟨f0, hf0⟩ : ∃ f0, f0 = s[k].1 := ⟨_, rfl⟩
            obtain ⟨f1, hf1⟩ : ∃ f1, f1 = s[k].2 := ⟨_, rfl⟩
            have HF1 := hid (show Mid s [(f0, f1)] (k + 1) by have e : s[k] = (f0, f1) := Prod.ext hf0.symm hf1.symm; have h := HFI.out; rw [e] at h; exact h)
            rw [← hf0] at y0 b1 b2
            rw [← hf1] at y1 b2 b3
            clear hf0 hf1 HFI hk0 HMi hok HBD
            go_wp2_with fail
            go_quiet (fail)
            go_wp2_with (at_builtin; refine wpList_append_own _ rfl _ _ 47 rfl Wr.heap.size 84 i0 (.agg #[.int .i32 0, .int .i32 0]) 2 8 Tryz.underlying47 hi hz0 hz1 hz2 rfl (by decide) (.slice oo 0 oc) 0 [] rfl ((show (wr.drewN nq).ownsRow Wr.heap.size 84 2 (.slice oo 0 oc) 0 [] from HO.out).alloc _) ⟨wr.heap.size, 0, none⟩ 1 1 (rgc (f0, f1)) rfl rfl ?c1 ?c2 ?c3 ?c4 ?c5 ?_)
            case c1 => exact news_r (wr.drewN nq) (f0, f1) 84
            case c2 => exact rgc_one _
            case c3 => unfold maxLen; omega
            case c4 => omega
            case c5 => simp; omega
            intro v2 w2 o2 gr2 _
            have HO2 := hid (show w2.ownsRow Wr.heap.size 84 2 v2 [(f0, f1)].length (rgcs [(f0, f1)]) from o2)
            have HB2 := hid (((below_drewN HB.out nq).alloc (by simp; omega) (.cells #[.int .i32 f0, .int .i32 f1] 84)).grown gr2 (by simp; omega) (fun j hj => (HO.out.lt j hj).1))
            clear o2 gr2
            go_wp2
            go_roundw
            case rel => exact ⟨k + 1, [(f0, f1)], by omega, by go_num, HO2, HF1, by simp, fun g hg => (by simp at hg; subst hg; exact ⟨by dsimp only; omega, b3⟩), HB2⟩
            case measure => simp [intOf]; omega
          · subst hO
            obtain ⟨oo, oc, hu6, hog, _⟩ := row_reads HO.out
            obtain ⟨g, hoo, hgB, hgl⟩ := hog (by simp)
            subst hoo
            subst hu6
            obtain ⟨p0, p1⟩ := row_cell HO.out Q.length (lo, hi') (by simp)
            have q1 := row_frozen HO.out (Q.length * 2 + 1)
            have hbd := HBD.out (lo, hi') (by simp)
            obtain ⟨n, hn⟩ : ∃ n, n = Q.length := ⟨_, rfl⟩
            have hOl : (Q ++ [(lo, hi')]).length = n + 1 := by rw [hn]; simp
            have HJ := hid (fun hc => Mid.join hlt hQ hc)
            have HMo := hid (fun hc => Mid.more hlt hQ hc)
            obtain ⟨f0, hf0⟩ : ∃ f0, f0 = s[k].1 := ⟨_, rfl⟩
            obtain ⟨f1, hf1⟩ : ∃ f1, f1 = s[k].2 := ⟨_, rfl⟩
            rw [← hf0] at y0 b1 b2
            rw [← hf1] at y1 b2 b3
            rw [← hn] at p0 p1 q1
            dsimp only at hbd p0 p1
            have es : s[k] = (f0, f1) := Prod.ext hf0.symm hf1.symm
            rw [← hf0, ← hf1] at HJ
            rw [← hf0, es] at HMo
            have HQL := hid hn
            have HOL := hid hOl
            clear hf0 hf1 es hn HMi hQ
            have HO1 := hid (show wr.ownsRow Wr.heap.size 84 2 (.slice (some ⟨g, 0, none⟩) (n + 1) oc) (Q ++ [(lo, hi')]).length (rgcs (Q ++ [(lo, hi')])) by have h := HO.out; rw [hOl] at h ⊢; exact h)
            rw [hOl] at hok ⊢
            clear hOl HO
            have t0 : decide ((0 : Int) < (n : Int) + 1) = true := decide_eq_true (by omega)
            have esub : ((n : Int) + 1) - 1 = (n : Int) := by omega
            have ewr : IntKind.i64.wrap (n : Int) = (n : Int) := by rw [IntKind.wrap_i64]; omega
            have ew32 : IntKind.i32.wrap (hi' + 1) = hi' + 1 := by rw [IntKind.wrap_i32]; omega
            have i1 : (0 : Int) ≤ (n : Int) := by omega
            have i2 : (n : Int) < (n : Int) + 1 := by omega
            have i3 : (k : Int) < (s.length : Int) := by omega
            by_cases hc : hi' + 1 < f0
            · have HF2 := hid (HMo.out hc)
              clear HJ HMo
              go_wp2_with fail
              go_quiet (fail)
              go_wp2_with (at_builtin; refine wpList_append_own _ rfl _ _ 47 rfl Wr.heap.size 84 i0 (.agg #[.int .i32 0, .int .i32 0]) 2 8 Tryz.underlying47 hi hz0 hz1 hz2 rfl (by decide) (.slice (some ⟨g, 0, none⟩) (n + 1) oc) (Q ++ [(lo, hi')]).length (rgcs (Q ++ [(lo, hi')])) rfl ((show (wr.drewN nq).ownsRow Wr.heap.size 84 2 (.slice (some ⟨g, 0, none⟩) (n + 1) oc) (Q ++ [(lo, hi')]).length (rgcs (Q ++ [(lo, hi')])) from HO1.out).alloc _) ⟨wr.heap.size, 0, none⟩ 1 1 (rgc (f0, f1)) rfl rfl ?c1 ?c2 ?c3 ?c4 ?c5 ?_)
              case c1 => exact news_r (wr.drewN nq) (f0, f1) 84
              case c2 => exact rgc_one _
              case c3 => rw [HOL.out]; unfold maxLen; omega
              case c4 => rw [HOL.out]; omega
              case c5 => simp; omega
              intro v2 w2 o2 gr2 _
              have HO2 := hid (show w2.ownsRow Wr.heap.size 84 2 v2 (Q ++ [(lo, hi')] ++ [(f0, f1)]).length (rgcs (Q ++ [(lo, hi')] ++ [(f0, f1)])) by rw [rgcs_snoc, len_snoc, len_snoc]; exact o2)
              have HB2 := hid (((below_drewN HB.out nq).alloc (by simp; omega) (.cells #[.int .i32 f0, .int .i32 f1] 84)).grown gr2 (by simp; omega) (fun j hj => (HO1.out.lt j hj).1))
              have hl2 : (Q ++ [(lo, hi')] ++ [(f0, f1)]).length ≤ k + 1 := by rw [len_snoc (Q ++ [(lo, hi')]), HOL.out]; omega
              have HBD2 := hid (show ∀ x, x ∈ Q ++ [(lo, hi')] ++ [(f0, f1)] → 0 ≤ x.2 ∧ x.2 ≤ 1114111 from fun x hx => by
                rcases List.mem_append.1 hx with h | h
                · exact HBD.out x h
                · simp at h; subst h; exact ⟨by dsimp only; omega, b3⟩)
              clear o2 gr2
              go_wp2
              go_roundw
              case rel => exact ⟨k + 1, Q ++ [(lo, hi')] ++ [(f0, f1)], by omega, by go_num, HO2, HF2, hl2, HBD2, HB2⟩
              case measure => simp [intOf]; omega
            · have HF2 := hid (HJ.out hc)
              clear HJ HMo
              by_cases hm : hi' < f1
              · have HST := hid (show (wr.setCell ⟨g, n * 2 + 1, none⟩ (.int .i32 f1)).ownsRow Wr.heap.size 84 2 (.slice (some ⟨g, 0, none⟩) (n + 1) oc) (Q ++ [(lo, f1)]).length (rgcs (Q ++ [(lo, f1)])) by
                  have h := row_set2 HO1.out n lo f1 hi' (by rw [HQL.out]; simp)
                  rw [HQL.out, set_last, ← HQL.out] at h
                  exact h)
                have HF3 := hid (show Mid s (Q ++ [(lo, f1)]) (k + 1) by have h := HF2.out; rw [show max hi' f1 = f1 by omega] at h; exact h)
                have hl2 : (Q ++ [(lo, f1)]).length ≤ k + 1 := by have := HQL.out; simp; omega
                have HBD2 := hid (show ∀ x, x ∈ Q ++ [(lo, f1)] → 0 ≤ x.2 ∧ x.2 ≤ 1114111 from fun x hx => by
                  rcases List.mem_append.1 hx with h | h
                  · exact HBD.out x (List.mem_append.2 (Or.inl h))
                  · simp at h; subst h; exact ⟨by dsimp only; omega, b3⟩)
                go_wp2_with fail
                go_quiet (fail)
                go_wp2_with fail
                go_quiet (fail)
                go_wp2
                go_roundw
                case rel => exact ⟨k + 1, Q ++ [(lo, f1)], by omega, by go_num, HST.out, HF3, hl2, HBD2, (below_drewN HB.out _).setCell (p := ⟨g, n * 2 + 1, none⟩) hgB _⟩
                case measure => simp [intOf]; omega
              · have HF3 := hid (show Mid s (Q ++ [(lo, hi')]) (k + 1) by have h := HF2.out; rw [show max hi' f1 = hi' by omega] at h; exact h)
                go_wp2_with fail
                go_quiet (fail)
                go_wp2_with fail
                go_quiet (fail)
                go_wp2
                go_roundw
                case rel => exact ⟨k + 1, Q ++ [(lo, hi')], by omega, by go_num, HO1.out, HF3, by rw [HOL.out]; omega, HBD, below_drewN HB.out _⟩
                case measure => simp [intOf]; omega
        · have HD := hid (HMi.out.done hlt)
          go_wp2
          go_ret
          exact ⟨_, rfl, by rw [← HNR.out, ← HD.out]; exact ownsRow_base2 HO.out HB0.out.size, HB0.out.trans (HB.out.mono HB0.out.size)⟩
end Go.Proofs.YtohhokjlgihbgaaGreatDoor
/- The contract of the document's Is. -/
namespace Go.Proofs.YtohhokjlgihbgaaGreatDoor
open Go.RowKit

/-- A row of the call's own, read as a slice that came in. -/
theorem rdr_row {w : World} {B : Nat} {v : Value} {l : List Rg} (h : w.ownsRow B 84 2 v l.length (rgcs l)) : ∃ ao cap, v = .slice ao l.length cap ∧ RdR w ao l := by
  obtain ⟨ao, cap, e, _, hc⟩ := row_reads h
  refine ⟨ao, cap, e, fun k g hk => ?_⟩
  obtain ⟨b, rfl, h1, h2, h3⟩ := hc k g hk
  have ea : (⟨b, 0, none⟩ : Addr).add (k * 2) = ⟨b, k * 2, none⟩ := by unfold Addr.add; split <;> simp_all
  exact ⟨_, rfl, h1, by rw [ea]; exact h2, by rw [ea]; exact h3⟩
theorem nrm_dec (l : List Rg) : decide (l = nrm l) = nfB 0 l := by
  cases h : nfB 0 l with
  | true => exact decide_eq_true ((nrm_same l).2 ((nfB_iff l 0).1 h))
  | false => exact decide_eq_false (fun e => by
      have := (nfB_iff l 0).2 ((nrm_same l).1 e)
      rw [h] at this; cases this)

set_option maxHeartbeats 1000000 in
theorem ris_any (ao : Option Addr) (ac : Nat) (l : List Rg) (w : World) (ha : RdR w ao l) (hl : l.length ≤ 100000) :
    Calls Tryz.prog 21 #[.slice ao l.length ac] w fun e w' => e = .returned (.bool (nfB 0 l)) ∧ Below w.heap.size w w' := by
  have HA := hid ha
  clear ha
  go_enter Tryz.func21, Tryz.ntmps21
  go_wp2_with fail
  refine (rnorm_any ao ac l _ HA.out hl).mono ?_
  rintro e w1 ⟨v, rfl, o1, b1⟩
  obtain ⟨bo, bc, rfl, hb⟩ := rdr_row o1
  have HB1 := hid b1
  have HR := hid hb
  clear o1 b1 hb
  go_wp2_with fail
  refine (same2_any ao bo ac bc l (nrm l) w1 (HA.out.below HB1.out) HR.out (by omega)).mono ?_
  rintro e w2 ⟨rfl, b2⟩
  have HB2 := hid (HB1.out.trans (b2.mono HB1.out.size))
  rw [nrm_dec]
  go_wp2
  go_ret
  exact ⟨rfl, HB2.out⟩
end Go.Proofs.YtohhokjlgihbgaaGreatDoor
/- The library's sort by a comparison, laid at this program. -/
namespace Go.Proofs
open Go.Shelf
def Tryz.sortR_ren : Go.Shelf.Ren := ⟨fun | 6 => 126 | 15 => 146 | 14 => 145 | 28 => 174 | 29 => 175 | 20 => 166 | 21 => 167 | 22 => 168 | 23 => 169 | 24 => 170 | 25 => 171 | 26 => 172 | 27 => 173 | 46 => 185 | 47 => 186 | 48 => 187 | 49 => 188 | 50 => 189 | 57 => 201 | n => n, fun | 22 => 47 | 24 => 84 | 25 => 166 | 3 => 3 | 39 => 128 | 0 => 0 | 53 => 191 | 55 => 186 | 4 => 4 | 46 => 203 | 45 => 202 | 50 => 62 | 5 => 5 | 9 => 9 | 66 => 218 | 70 => 222 | 76 => 234 | 77 => 235 | n => n, fun | n => n⟩
theorem Tryz.sortR : Go.Proofs.SlLaysF0.n6 Tryz.prog Tryz.sortR_ren := {
  mixed := by kernel_rfl
  f6 := ⟨Tryz.f126.name, by decide, Tryz.func126.trans (congrArg some (by kernel_rfl))⟩
  f14 := ⟨Tryz.f145.name, by decide, Tryz.func145.trans (congrArg some (by kernel_rfl))⟩
  f15 := Tryz.func146.trans (congrArg some (by kernel_rfl))
  f20 := ⟨Tryz.f166.name, by decide, Tryz.func166.trans (congrArg some (by kernel_rfl))⟩
  f21 := ⟨Tryz.f167.name, by decide, Tryz.func167.trans (congrArg some (by kernel_rfl))⟩
  f22 := ⟨Tryz.f168.name, by decide, Tryz.func168.trans (congrArg some (by kernel_rfl))⟩
  f23 := ⟨Tryz.f169.name, by decide, Tryz.func169.trans (congrArg some (by kernel_rfl))⟩
  f24 := ⟨Tryz.f170.name, by decide, Tryz.func170.trans (congrArg some (by kernel_rfl))⟩
  f25 := ⟨Tryz.f171.name, by decide, Tryz.func171.trans (congrArg some (by kernel_rfl))⟩
  f26 := ⟨Tryz.f172.name, by decide, Tryz.func172.trans (congrArg some (by kernel_rfl))⟩
  f27 := ⟨Tryz.f173.name, by decide, Tryz.func173.trans (congrArg some (by kernel_rfl))⟩
  f28 := Tryz.func174.trans (congrArg some (by kernel_rfl))
  f29 := Tryz.func175.trans (congrArg some (by kernel_rfl))
  f46 := ⟨Tryz.f185.name, by decide, Tryz.func185.trans (congrArg some (by kernel_rfl))⟩
  f47 := Tryz.func186.trans (congrArg some (by kernel_rfl))
  f48 := Tryz.func187.trans (congrArg some (by kernel_rfl))
  f49 := ⟨Tryz.f188.name, by decide, Tryz.func188.trans (congrArg some (by kernel_rfl))⟩
  f50 := ⟨Tryz.f189.name, by decide, Tryz.func189.trans (congrArg some (by kernel_rfl))⟩
  f57 := ⟨Tryz.f201.name, by decide, Tryz.func201.trans (congrArg some (by kernel_rfl))⟩
  t0 := Tryz.underlying0
  a0 := Tryz.isAgg0
  z0 := Tryz.sizeOf0
  v0 := Tryz.zeroValue0
  t3 := Tryz.underlying3
  a3 := Tryz.isAgg3
  z3 := Tryz.sizeOf3
  v3 := Tryz.zeroValue3
  t4 := Tryz.underlying4
  a4 := Tryz.isAgg4
  z4 := Tryz.sizeOf4
  v4 := Tryz.zeroValue4
  t5 := Tryz.underlying5
  a5 := Tryz.isAgg5
  z5 := Tryz.sizeOf5
  v5 := Tryz.zeroValue5
  t9 := Tryz.underlying9
  a9 := Tryz.isAgg9
  z9 := Tryz.sizeOf9
  v9 := Tryz.zeroValue9
  t22 := Tryz.underlying47
  a22 := Tryz.isAgg47
  z22 := Tryz.sizeOf47
  v22 := Tryz.zeroValue47
  t25 := Tryz.underlying166
  a25 := Tryz.isAgg166
  z25 := Tryz.sizeOf166
  v25 := Tryz.zeroValue166
  t39 := Tryz.underlying128
  a39 := Tryz.isAgg128
  z39 := Tryz.sizeOf128
  v39 := Tryz.zeroValue128
  t45 := Tryz.underlying202
  a45 := Tryz.isAgg202
  z45 := Tryz.sizeOf202
  v45 := Tryz.zeroValue202
  t46 := Tryz.underlying203
  a46 := Tryz.isAgg203
  z46 := Tryz.sizeOf203
  v46 := Tryz.zeroValue203
  t50 := Tryz.underlying62
  a50 := Tryz.isAgg62
  z50 := Tryz.sizeOf62
  v50 := Tryz.zeroValue62
  t53 := Tryz.underlying191
  a53 := Tryz.isAgg191
  z53 := Tryz.sizeOf191
  v53 := Tryz.zeroValue191
  t55 := Tryz.underlying186
  a55 := Tryz.isAgg186
  z55 := Tryz.sizeOf186
  v55 := Tryz.zeroValue186
  t66 := Tryz.underlying218
  a66 := Tryz.isAgg218
  z66 := Tryz.sizeOf218
  v66 := Tryz.zeroValue218
  t70 := Tryz.underlying222
  a70 := Tryz.isAgg222
  z70 := Tryz.sizeOf222
  v70 := Tryz.zeroValue222
  t76 := Tryz.underlying234
  a76 := Tryz.isAgg234
  z76 := Tryz.sizeOf234
  v76 := Tryz.zeroValue234
  t77 := Tryz.underlying235
  a77 := Tryz.isAgg235
  z77 := Tryz.sizeOf235
  v77 := Tryz.zeroValue235 }
end Go.Proofs
/- The contracts of cmp.Compare at runes and of the comparison by which sorted sorts. -/
namespace Go.Proofs.YtohhokjlgihbgaaGreatDoor
open Go.RowKit Go.Shelf Go.Lib Go.Sort

set_option maxHeartbeats 400000 in
theorem nan_any (a : Int) (w : World) : Calls Tryz.prog 81 #[.int .i32 a] w fun e w' => e = .returned (.bool false) ∧ w' = w := by
  go_enter Tryz.func81, Tryz.ntmps81
  go_wp2
  go_ret
  exact ⟨rfl, rfl⟩
set_option maxHeartbeats 400000 in
theorem compare_any (a b : Int) (w : World) : Calls Tryz.prog 52 #[.int .i32 a, .int .i32 b] w fun e w' => e = .returned (.int .i64 (Lib.compareInt a b)) ∧ w' = w := by
  by_cases h1 : a < b
  · have HR := hid (show Lib.compareInt a b = -1 by unfold Lib.compareInt; simp [h1])
    go_enter Tryz.func52, Tryz.ntmps52
    go_wp2_with (go_at_call 81; refine (nan_any _ _).mono ?_; rintro e w' ⟨rfl, hw⟩; obtain rfl := hw.symm; clear hw)
    go_ret
    exact ⟨by rw [HR.out]; rfl, rfl⟩
  by_cases h2 : b < a
  · have HR := hid (show Lib.compareInt a b = 1 by unfold Lib.compareInt; simp [h1, h2])
    go_enter Tryz.func52, Tryz.ntmps52
    go_wp2_with (go_at_call 81; refine (nan_any _ _).mono ?_; rintro e w' ⟨rfl, hw⟩; obtain rfl := hw.symm; clear hw)
    go_ret
    exact ⟨by rw [HR.out]; rfl, rfl⟩
  · have HR := hid (show Lib.compareInt a b = 0 by unfold Lib.compareInt; simp [h1, h2])
    go_enter Tryz.func52, Tryz.ntmps52
    go_wp2_with (go_at_call 81; refine (nan_any _ _).mono ?_; rintro e w' ⟨rfl, hw⟩; obtain rfl := hw.symm; clear hw)
    go_ret
    exact ⟨by rw [HR.out]; rfl, rfl⟩

set_option maxHeartbeats 1000000 in
/-- The comparison: two blocks are laid. -/
theorem closure_any (x y : Rg) (W : World) : Calls Tryz.prog 127 #[.agg #[.int .i32 x.1, .int .i32 x.2], .agg #[.int .i32 y.1, .int .i32 y.2]] W fun e w' => e = .returned (.int .i64 (Lib.compareInt x.1 y.1)) ∧ ∃ q os', w' = grow (W.drewN q) os' := by
  have hcon := fun W' => compare_any x.1 y.1 W'
  generalize Lib.compareInt x.1 y.1 = r at hcon ⊢
  go_enter Tryz.func127, Tryz.ntmps127
  go_wp2_with (go_at_call 52; refine (hcon _).mono ?_; rintro e w' ⟨rfl, rfl⟩)
  go_ret
  exact ⟨rfl, 0, _, by rw [alloc_eq_grow, alloc_eq_grow, grow_grow]; rfl⟩
theorem cmp_lays (blk off size : Nat) (w : World) : CmpLays Tryz.prog 127 #[] rgc 2 (fun x y => Lib.compareInt x.1 y.1) blk off size w :=
  fun _ _ _ _ x y => closure_any x y _
theorem lt_lo (x y : Rg) : ltOf (fun x y : Rg => Lib.compareInt x.1 y.1) x y = decide (x.1 < y.1) := by
  unfold ltOf Lib.compareInt
  by_cases h1 : x.1 < y.1
  · simp [h1]
  · by_cases h2 : y.1 < x.1 <;> simp [h1, h2]
theorem swo_lo : SWO (ltOf fun x y : Rg => Lib.compareInt x.1 y.1) where
  irrefl x := by rw [lt_lo]; simp
  trans x y z h1 h2 := by rw [lt_lo] at *; simp at *; omega
  ntrans x y z h1 h2 := by rw [lt_lo] at *; simp at *; omega
/-- The library's sort at a slice of ranges: a permutation, by rising first numbers. -/
theorem sort_any (blk off cap : Nat) (d : Array Rg) (w : World) (hH : HoldsK rgc 2 w blk off d) (hblk : blk < w.heap.size) (hsz : d.size < 4611686018427387904) :
    Calls Tryz.prog 126 #[.slice (some ⟨blk, off, none⟩) d.size cap, .func (.func 127) #[] #[]] w fun e w' => e = .returned (.tuple #[]) ∧ ∃ d' n os, PermIn 0 d.size d d' ∧ SortedIn (ltOf fun x y : Rg => Lib.compareInt x.1 y.1) 0 d.size d' ∧ w' = sortWorldK rgc 2 w blk off n d' os := by
  have eg : ∀ args w, (callFunc 127 args).run Tryz.prog w = .ok (.enter 127 args) w := enters_of Tryz.func127 (by kernel_rfl) rfl
  have hcon := AnyQ.slices_SortFunc Tryz.sortR 2 Tryz.isAgg84 Tryz.sizeOf84 rgc (fun _ => rfl) (fun x v hv => rgc_one x v hv) (fun x y => Lib.compareInt x.1 y.1) swo_lo 127 #[] blk off cap d w eg (cmp_lays blk off d.size w) hH hblk hsz
  exact hcon
end Go.Proofs.YtohhokjlgihbgaaGreatDoor
/- The contract of slices.BinarySearchFunc at ranges and a number: the first range that does not end ahead of it. -/
namespace Go.Proofs.YtohhokjlgihbgaaGreatDoor
open Go.RowKit

set_option maxRecDepth 100000 in
theorem say1_any (g : Tr) (r : Int) (w : World) : Calls Tryz.prog 100 #[rkv (rkT g), .int .i32 r] w fun e w' => e = .returned (.int .i64 (Lib.compareInt (g.2.1 : Int) r)) ∧ Below w.heap.size w w' := by
  obtain ⟨lo, hh, cl⟩ := g
  unfold rkv rkT
  have HB := hid ((Below.refl w.heap.size w).alloc (Nat.le_refl _) (.cells #[.int .i32 (lo : Int), .int .i32 (hh : Int), .int .i64 (cl : Int)] 86))
  go_enter Tryz.func100, Tryz.ntmps100
  go_wp2_with (go_at_call 52; refine (compare_any _ _ _).mono ?_; rintro e w1 ⟨rfl, hw⟩; obtain rfl := hw.symm)
  go_ret
  exact ⟨rfl, HB.out⟩
set_option maxRecDepth 100000 in
theorem get1_any (g : Tr) (r : Int) (w : World) : Calls Tryz.prog 51 #[rkv (rkT g), .int .i32 r] w fun e w' => e = .returned (.int .i64 (Lib.compareInt (g.2.1 : Int) r)) ∧ Below w.heap.size w w' := by
  obtain ⟨lo, hh, cl⟩ := g
  unfold rkv rkT
  have HB := hid ((Below.refl w.heap.size w).alloc (Nat.le_refl _) (.cells #[.int .i32 (lo : Int), .int .i32 (hh : Int), .int .i64 (cl : Int)] 86))
  go_enter Tryz.func51, Tryz.ntmps51
  go_wp2_with (go_at_call 52; refine (compare_any _ _ _).mono ?_; rintro e w1 ⟨rfl, hw⟩; obtain rfl := hw.symm)
  go_ret
  exact ⟨rfl, HB.out⟩
theorem cmp_neg (a b : Int) : Lib.compareInt a b < 0 ↔ a < b := by
  unfold Lib.compareInt
  split
  · rename_i h; simp [h]
  · rename_i h
    split <;> simp [h]
theorem cmp_one (a b : Int) : -1 ≤ Lib.compareInt a b ∧ Lib.compareInt a b ≤ 1 := by
  unfold Lib.compareInt
  split
  · omega
  · split <;> omega
set_option maxRecDepth 100000 in
set_option maxHeartbeats 3000000 in
theorem search_say (ao : Option Addr) (ac : Nat) (L : List Tr) (r : Int) (s : Nat) (w : World) (ha : RdK w ao (L.map rkT)) (hl : L.length ≤ 1000000000) (hs : s ≤ L.length)
    (h1 : ∀ k x, k < s → L[k]? = some x → (x.2.1 : Int) < r) (h2 : ∀ k x, s ≤ k → L[k]? = some x → ¬ (x.2.1 : Int) < r) :
    Calls Tryz.prog 50 #[.slice ao L.length ac, .int .i32 r, .func (.func 100) #[] #[]] w fun e w' => (∃ d : Bool, e = .returned (.tuple #[.int .i64 (s : Int), .bool d])) ∧ Below w.heap.size w w' := by
  have HAB := hid (show ∀ W, Below w.heap.size w W → RdK W ao (L.map rkT) from fun W hW => ha.below hW)
  have H1 := hid h1
  have H2 := hid h2
  obtain ⟨n, hn⟩ : ∃ n, n = L.length := ⟨_, rfl⟩
  have HN := hid hn
  rw [← hn] at hl hs ⊢
  clear ha h1 h2 hn
  go_enter Tryz.func50, Tryz.ntmps50
  go_wp2
  go_loopw [9, 10] (fun x y wr => ∃ i j : Nat, x = .int .i64 (i : Int) ∧ y = .int .i64 (j : Int) ∧ i ≤ s ∧ s ≤ j ∧ j ≤ n ∧ Hid (Below w.heap.size w wr)) (fun x y _ => (intOf y).toNat - (intOf x).toNat)
  case atStart => exact ⟨0, n, rfl, rfl, by omega, hs, by omega, Below.refl _ _⟩
  case round =>
    obtain ⟨i, j, rfl, rfl, hi, hj, hjn, HB⟩ := hrel
    have hwz := HB.out.size
    by_cases hlt : i < j
    · have hlt' : (i : Int) < (j : Int) := by omega
      obtain ⟨m, hm⟩ : ∃ m, m = (i + j) / 2 := ⟨_, rfl⟩
      have hm1 : m < j := by omega
      have hm2 : i ≤ m := by omega
      have hmn : m < L.length := by have h5 := HN.out; omega
      obtain ⟨a, rfl, ha, a0, a1, a2⟩ := HAB.out wr HB.out m (rkT L[m]) (by rw [List.getElem?_map, List.getElem?_eq_getElem hmn]; rfl)
      have HX := hid (List.getElem?_eq_getElem hmn)
      have b1 : (m : Int) < (n : Int) := by omega
      have b0 : (0 : Int) ≤ (m : Int) := by omega
      have e1 : IntKind.i64.wrap ((i : Int) + (j : Int)) = ((i + j : Nat) : Int) := by rw [IntKind.wrap_i64]; omega
      have e2 : IntKind.u64.wrap ((i + j : Nat) : Int) = ((i + j : Nat) : Int) := by rw [IntKind.wrap_u64]; omega
      have e3 : ((i : Int) + (j : Int)) / 2 = (m : Int) := by omega
      unfold rkT at a0 a1 a2
      obtain ⟨gx, hx⟩ : ∃ gx, L[m] = gx := ⟨_, rfl⟩
      rw [hx] at a0 a1 a2 HX
      have HC := hid (say1_any gx r)
      obtain ⟨z0, z1, z2⟩ := gx
      dsimp only at a0 a1 a2
      unfold rkv rkT at HC
      dsimp only at HC
      have HCN := hid (cmp_neg (z1 : Int) r)
      have hc1 := cmp_one (z1 : Int) r
      obtain ⟨c, hce⟩ : ∃ c, c = Lib.compareInt (z1 : Int) r := ⟨_, rfl⟩
      rw [← hce] at HC HCN hc1
      clear hx hm hce
      go_wp2_with fail
      refine (HC.out wr).mono ?_
      rintro e w2 ⟨rfl, b2⟩
      have HB2 := hid (HB.out.trans (b2.mono hwz))
      clear b2 HC
      by_cases hc : c < 0
      · have HS := hid (show m < s from by
          rcases Nat.lt_or_ge m s with h5 | h5
          · exact h5
          · exact absurd (HCN.out.1 hc) (by have h7 := H2.out m _ h5 HX.out; dsimp only at h7; omega))
        have hms := HS.out
        go_wp2
        go_roundw
        case rel => exact ⟨m + 1, j, by go_num, rfl, by omega, hj, hjn, HB2⟩
        case measure => simp [intOf]; omega
      · have HS := hid (show s ≤ m from by
          rcases Nat.lt_or_ge m s with h5 | h5
          · exact absurd (HCN.out.2 (H1.out m _ h5 HX.out)) hc
          · exact h5)
        have hms := HS.out
        go_wp2
        go_roundw
        case rel => exact ⟨i, m, rfl, by go_num, hi, by omega, by omega, HB2⟩
        case measure => simp [intOf]; omega
    · have hlt' : ¬ (i : Int) < (j : Int) := by omega
      have his : i = s := by omega
      subst his
      by_cases hin : i < n
      · have hin' : (i : Int) < (n : Int) := by omega
        have b0 : (0 : Int) ≤ (i : Int) := by omega
        have hmn : i < L.length := by have h5 := HN.out; omega
        obtain ⟨a, rfl, ha, a0, a1, a2⟩ := HAB.out wr HB.out i (rkT L[i]) (by rw [List.getElem?_map, List.getElem?_eq_getElem hmn]; rfl)
        unfold rkT at a0 a1 a2
        obtain ⟨gx, hx⟩ : ∃ gx, L[i] = gx := ⟨_, rfl⟩
        rw [hx] at a0 a1 a2
        have HC := hid (say1_any gx r)
        obtain ⟨z0, z1, z2⟩ := gx
        dsimp only at a0 a1 a2
        unfold rkv rkT at HC
        dsimp only at HC
        obtain ⟨c, hce⟩ : ∃ c, c = Lib.compareInt (z1 : Int) r := ⟨_, rfl⟩
        rw [← hce] at HC
        clear hx hce
        go_wp2_with fail
        refine (HC.out wr).mono ?_
        rintro e w2 ⟨rfl, b2⟩
        have HB2 := hid (HB.out.trans (b2.mono hwz))
        clear b2 HC
        go_wp2
        go_ret2
        exact ⟨⟨_, rfl⟩, HB2.out⟩
      · have hin' : ¬ (i : Int) < (n : Int) := by omega
        go_wp2
        go_ret2
        first
          | exact ⟨⟨_, rfl⟩, HB.out⟩
          | exact ⟨.inl rfl, HB.out⟩
set_option maxRecDepth 100000 in
set_option maxHeartbeats 3000000 in
theorem search_get (ao : Option Addr) (ac : Nat) (L : List Tr) (r : Int) (s : Nat) (w : World) (ha : RdK w ao (L.map rkT)) (hl : L.length ≤ 1000000000) (hs : s ≤ L.length)
    (h1 : ∀ k x, k < s → L[k]? = some x → (x.2.1 : Int) < r) (h2 : ∀ k x, s ≤ k → L[k]? = some x → ¬ (x.2.1 : Int) < r) :
    Calls Tryz.prog 50 #[.slice ao L.length ac, .int .i32 r, .func (.func 51) #[] #[]] w fun e w' => (∃ d : Bool, e = .returned (.tuple #[.int .i64 (s : Int), .bool d])) ∧ Below w.heap.size w w' := by
  have HAB := hid (show ∀ W, Below w.heap.size w W → RdK W ao (L.map rkT) from fun W hW => ha.below hW)
  have H1 := hid h1
  have H2 := hid h2
  obtain ⟨n, hn⟩ : ∃ n, n = L.length := ⟨_, rfl⟩
  have HN := hid hn
  rw [← hn] at hl hs ⊢
  clear ha h1 h2 hn
  go_enter Tryz.func50, Tryz.ntmps50
  go_wp2
  go_loopw [9, 10] (fun x y wr => ∃ i j : Nat, x = .int .i64 (i : Int) ∧ y = .int .i64 (j : Int) ∧ i ≤ s ∧ s ≤ j ∧ j ≤ n ∧ Hid (Below w.heap.size w wr)) (fun x y _ => (intOf y).toNat - (intOf x).toNat)
  case atStart => exact ⟨0, n, rfl, rfl, by omega, hs, by omega, Below.refl _ _⟩
  case round =>
    obtain ⟨i, j, rfl, rfl, hi, hj, hjn, HB⟩ := hrel
    have hwz := HB.out.size
    by_cases hlt : i < j
    · have hlt' : (i : Int) < (j : Int) := by omega
      obtain ⟨m, hm⟩ : ∃ m, m = (i + j) / 2 := ⟨_, rfl⟩
      have hm1 : m < j := by omega
      have hm2 : i ≤ m := by omega
      have hmn : m < L.length := by have h5 := HN.out; omega
      obtain ⟨a, rfl, ha, a0, a1, a2⟩ := HAB.out wr HB.out m (rkT L[m]) (by rw [List.getElem?_map, List.getElem?_eq_getElem hmn]; rfl)
      have HX := hid (List.getElem?_eq_getElem hmn)
      have b1 : (m : Int) < (n : Int) := by omega
      have b0 : (0 : Int) ≤ (m : Int) := by omega
      have e1 : IntKind.i64.wrap ((i : Int) + (j : Int)) = ((i + j : Nat) : Int) := by rw [IntKind.wrap_i64]; omega
      have e2 : IntKind.u64.wrap ((i + j : Nat) : Int) = ((i + j : Nat) : Int) := by rw [IntKind.wrap_u64]; omega
      have e3 : ((i : Int) + (j : Int)) / 2 = (m : Int) := by omega
      unfold rkT at a0 a1 a2
      obtain ⟨gx, hx⟩ : ∃ gx, L[m] = gx := ⟨_, rfl⟩
      rw [hx] at a0 a1 a2 HX
      have HC := hid (get1_any gx r)
      obtain ⟨z0, z1, z2⟩ := gx
      dsimp only at a0 a1 a2
      unfold rkv rkT at HC
      dsimp only at HC
      have HCN := hid (cmp_neg (z1 : Int) r)
      have hc1 := cmp_one (z1 : Int) r
      obtain ⟨c, hce⟩ : ∃ c, c = Lib.compareInt (z1 : Int) r := ⟨_, rfl⟩
      rw [← hce] at HC HCN hc1
      clear hx hm hce
      go_wp2_with fail
      refine (HC.out wr).mono ?_
      rintro e w2 ⟨rfl, b2⟩
      have HB2 := hid (HB.out.trans (b2.mono hwz))
      clear b2 HC
      by_cases hc : c < 0
      · have HS := hid (show m < s from by
          rcases Nat.lt_or_ge m s with h5 | h5
          · exact h5
          · exact absurd (HCN.out.1 hc) (by have h7 := H2.out m _ h5 HX.out; dsimp only at h7; omega))
        have hms := HS.out
        go_wp2
        go_roundw
        case rel => exact ⟨m + 1, j, by go_num, rfl, by omega, hj, hjn, HB2⟩
        case measure => simp [intOf]; omega
      · have HS := hid (show s ≤ m from by
          rcases Nat.lt_or_ge m s with h5 | h5
          · exact absurd (HCN.out.2 (H1.out m _ h5 HX.out)) hc
          · exact h5)
        have hms := HS.out
        go_wp2
        go_roundw
        case rel => exact ⟨i, m, rfl, by go_num, hi, by omega, by omega, HB2⟩
        case measure => simp [intOf]; omega
    · have hlt' : ¬ (i : Int) < (j : Int) := by omega
      have his : i = s := by omega
      subst his
      by_cases hin : i < n
      · have hin' : (i : Int) < (n : Int) := by omega
        have b0 : (0 : Int) ≤ (i : Int) := by omega
        have hmn : i < L.length := by have h5 := HN.out; omega
        obtain ⟨a, rfl, ha, a0, a1, a2⟩ := HAB.out wr HB.out i (rkT L[i]) (by rw [List.getElem?_map, List.getElem?_eq_getElem hmn]; rfl)
        unfold rkT at a0 a1 a2
        obtain ⟨gx, hx⟩ : ∃ gx, L[i] = gx := ⟨_, rfl⟩
        rw [hx] at a0 a1 a2
        have HC := hid (get1_any gx r)
        obtain ⟨z0, z1, z2⟩ := gx
        dsimp only at a0 a1 a2
        unfold rkv rkT at HC
        dsimp only at HC
        obtain ⟨c, hce⟩ : ∃ c, c = Lib.compareInt (z1 : Int) r := ⟨_, rfl⟩
        rw [← hce] at HC
        clear hx hce
        go_wp2_with fail
        refine (HC.out wr).mono ?_
        rintro e w2 ⟨rfl, b2⟩
        have HB2 := hid (HB.out.trans (b2.mono hwz))
        clear b2 HC
        go_wp2
        go_ret2
        exact ⟨⟨_, rfl⟩, HB2.out⟩
      · have hin' : ¬ (i : Int) < (n : Int) := by omega
        go_wp2
        go_ret2
        first
          | exact ⟨⟨_, rfl⟩, HB.out⟩
          | exact ⟨.inl rfl, HB.out⟩
end Go.Proofs.YtohhokjlgihbgaaGreatDoor
