/- Norm at this program; the contract of Not (package runes). -/
import Derived.Test.YtfahbdlcokoghabGreatDoorNorm
import Derived.Test.YtfahbdlcokoghabGreatDoorSortWorld
namespace Go.Proofs.YtfahbdlcokoghabGreatDoor
open Go.RowKit

theorem sort_says : SortSays := fun B g cap l w h hB hgB hg hl hv => sort_row B g cap l w h hB hgB hg hl hv
theorem norm_any (ao : Option Addr) (ac : Nat) (l : List Rg) (w : World) (ha : RdR w ao l) (hl : l.length ≤ 100000) :
    Calls Tryz.prog 11 #[.slice ao l.length ac] w fun e w' => ∃ v, e = .returned v ∧ w'.ownsRow w.heap.size 33 2 v (nrm l).length (rgcs (nrm l)) ∧ Below w.heap.size w w' := norm_of sort_says ao ac l w ha hl
theorem mrgF_len : ∀ (l : List Rg) (lo hi : Int), (mrgF lo hi l).length ≤ l.length + 1
  | [], _, _ => by simp [mrgF]
  | g :: t, lo, hi => by
    unfold mrgF
    split
    · have := mrgF_len t g.1 g.2; simp; omega
    · have := mrgF_len t lo (max hi g.2); simp; omega
theorem ins_len : ∀ (l : List Rg) (x : Rg), (ins x l).length = l.length + 1
  | [], _ => rfl
  | y :: t, x => by
    unfold ins
    split
    · simp [ins_len t x]
    · simp
theorem isort_len : ∀ (l s : List Rg), (l.foldl (fun s x => ins x s) s).length = l.length + s.length
  | [], s => by simp
  | x :: l, s => by rw [List.foldl_cons, isort_len l, ins_len]; simp; omega
theorem nrm_len (l : List Rg) : (nrm l).length ≤ l.length := by
  have h1 : (cut l).length ≤ l.length := by unfold cut; exact Nat.le_trans (List.length_filter_le _ _) (by simp)
  have h2 : (isort (cut l)).length = (cut l).length := by unfold isort; rw [isort_len]; simp
  unfold nrm
  generalize isort (cut l) = s at *
  cases s with
  | nil => simp [mrg]
  | cons g t => have := mrgF_len t g.1 g.2; simp at h2; show (mrgF g.1 g.2 t).length ≤ _; omega
theorem nf_at : ∀ {l : List Rg} {b : Int} {j : Nat} {g : Rg}, nfF b l → l[j]? = some g → b ≤ g.1 ∧ g.1 ≤ g.2 ∧ g.2 ≤ top
  | [], _, _, _, _, h => by cases h
  | x :: l, b, 0, g, hs, h => by cases h; exact ⟨hs.1, hs.2.1, hs.2.2.1⟩
  | x :: l, b, j + 1, g, hs, h => by
    have h1 := nf_at hs.2.2.2 (show l[j]? = some g from h)
    have := hs.1
    have := hs.2.1
    exact ⟨by omega, h1.2⟩
/-- The other side of what a list means. -/
def nt (l : List Rg) : List Rg := ntF 0 (nrm l)
theorem nt_nf (l : List Rg) : nf (nt l) := ntF_nf (nrm_nf l) (by omega) (Int.le_refl _) (Int.le_refl _)
theorem nt_in (l : List Rg) (r : Int) : isin r (nt l) ↔ 0 ≤ r ∧ r ≤ top ∧ ¬ means r l := by
  unfold nt
  rw [ntF_in r (nrm_nf l) (Int.le_refl _), nrm_in]
/-- Turning over so far. -/
def Ntm (n O : List Rg) (k : Nat) (lo : Int) : Prop := O ++ ntF lo (n.drop k) = ntF 0 n
theorem Ntm.yes {n O : List Rg} {k : Nat} {lo : Int} (hk : k < n.length) (h : Ntm n O k lo) (hc : lo < n[k].1) : Ntm n (O ++ [(lo, n[k].1 - 1)]) (k + 1) (n[k].2 + 1) := by
  unfold Ntm at *
  rw [← h, List.drop_eq_getElem_cons hk]
  conv => rhs; rw [ntF]
  rw [if_pos hc]
  simp
theorem Ntm.no {n O : List Rg} {k : Nat} {lo : Int} (hk : k < n.length) (h : Ntm n O k lo) (hc : ¬ lo < n[k].1) : Ntm n O (k + 1) (n[k].2 + 1) := by
  unfold Ntm at *
  rw [← h, List.drop_eq_getElem_cons hk]
  conv => rhs; rw [ntF]
  rw [if_neg hc]
theorem Ntm.done {n O : List Rg} {k : Nat} {lo : Int} (hk : ¬ k < n.length) (h : Ntm n O k lo) : (lo ≤ top → O ++ [(lo, top)] = ntF 0 n) ∧ (¬ lo ≤ top → O = ntF 0 n) := by
  unfold Ntm at h
  rw [List.drop_of_length_le (by omega)] at h
  rw [show ntF lo [] = if lo ≤ top then [(lo, top)] else [] from rfl] at h
  constructor
  · intro hl; rw [if_pos hl] at h; exact h
  · intro hl; rw [if_neg hl] at h; simpa using h
/-- Appending one range: what the walks hand on. -/
theorem app_news (w : World) (g : Rg) (m : Nat) (hm : w.heap.size = m) : ∀ j u, (rgc g)[j]? = some u → (w.alloc (.cells #[.int .i32 g.1, .int .i32 g.2] 33)).cell? ((⟨m, 0, none⟩ : Addr).add j) = some u := by
  subst hm; exact news_r w g 33

set_option maxRecDepth 100000 in
set_option maxHeartbeats 3000000 in
theorem not_any (ao : Option Addr) (ac : Nat) (l : List Rg) (w : World) (ha : RdR w ao l) (hl : l.length ≤ 100000) :
    Calls Tryz.prog 13 #[.slice ao l.length ac] w fun e w' => ∃ v, e = .returned v ∧ w'.ownsRow w.heap.size 33 2 v (nt l).length (rgcs (nt l)) ∧ Below w.heap.size w w' := by
  obtain ⟨i0, hi, hz0, hz1, hz2⟩ := info_parts Tryz.info33
  have HSO := hid (norm_any ao ac l w ha hl)
  clear ha
  go_enter Tryz.func13, Tryz.ntmps13
  go_wp2_with fail
  refine HSO.out.mono ?_
  rintro e Wr ⟨v, rfl, o1, hB⟩
  obtain ⟨so, sc, rfl, hrd⟩ := rdr_row o1
  have HNT := hid (show ntF 0 (nrm l) = nt l from rfl)
  have hsl := nrm_len l
  have HNF := hid (nrm_nf l)
  obtain ⟨s, hs⟩ : ∃ s, nrm l = s := ⟨_, rfl⟩
  rw [hs] at HNT HNF hrd hsl ⊢
  have HRD := hid hrd
  have HB0 := hid hB
  have hws := hB.size
  have hs5 : s.length ≤ 100000 := by omega
  clear hrd hB HSO hsl o1 hs
  go_wp2
  go_loopw [3, 4, 10] (fun v x i wq => ∃ (k : Nat) (O : List Rg) (lo : Int), k ≤ s.length ∧ i = .int .i64 k ∧ x = .int .i32 lo ∧ 0 ≤ lo ∧ lo ≤ 1114112 ∧ Hid (wq.ownsRow Wr.heap.size 33 2 v O.length (rgcs O)) ∧ Hid (Ntm s O k lo) ∧ O.length ≤ k ∧ Hid (Below Wr.heap.size Wr wq)) (fun _ _ i _ => s.length - (intOf i).toNat)
  case atStart => exact ⟨0, [], 0, by omega, rfl, rfl, by omega, by omega, World.ownsRow_nil _ _ _ _, rfl, by simp, Below.refl _ _⟩
  case round =>
    obtain ⟨k, O, lo, hk, rfl, rfl, hlo0, hlo1, HO, HMi, hok, HB⟩ := hrel
    have hbs := HB.out.size
    by_cases hlt : k < s.length
    · obtain ⟨gs, rfl, hgs, y0, y1⟩ := HRD.out k s[k] (List.getElem?_eq_getElem hlt)
      obtain ⟨b1, b2, b3⟩ := nf_at HNF.out (List.getElem?_eq_getElem hlt)
      unfold top at b3
      replace y0 := (HB.out.cell (p := gs.add (k * 2)) (by rw [add_blk]; exact hgs)).trans y0
      replace y1 := (HB.out.cell (p := ⟨(gs.add (k * 2)).block, (gs.add (k * 2)).off + 1, none⟩) (show (gs.add (k * 2)).block < _ by rw [add_blk]; exact hgs)).trans y1
      have i3 : (k : Int) < (s.length : Int) := by omega
      have hgw : gs.block < wr.heap.size := by omega
      have HY := hid (fun hc => Ntm.yes hlt HMi.out hc)
      have HN := hid (fun hc => Ntm.no hlt HMi.out hc)
      generalize s[k].1 = f0 at *
      generalize s[k].2 = f1 at *
      have e1 : IntKind.i32.wrap (f0 - 1) = f0 - 1 := by rw [IntKind.wrap_i32]; omega
      have e2 : IntKind.i32.wrap (f1 + 1) = f1 + 1 := by rw [IntKind.wrap_i32]; omega
      by_cases hc : lo < f0
      · have HY2 := hid (HY.out hc)
        clear HY HN HMi
        go_wp2_with (at_builtin; refine wpList_append_own _ rfl _ _ 22 rfl Wr.heap.size 33 i0 (.agg #[.int .i32 0, .int .i32 0]) 2 8 Tryz.underlying22 hi hz0 hz1 hz2 rfl (by decide) _ O.length (rgcs O) rfl ((HO.out.alloc _).alloc _) ⟨wr.heap.size + 1, 0, none⟩ 1 1 (rgc (lo, f0 - 1)) rfl rfl ?c1 ?c2 ?c3 ?c4 ?c5 ?_)
        case c1 => exact app_news _ (lo, f0 - 1) _ (by simp)
        case c2 => exact rgc_one _
        case c3 => unfold maxLen; omega
        case c4 => omega
        case c5 => simp; omega
        intro v2 w2 o2 gr2 _
        have HO2 := hid (show w2.ownsRow Wr.heap.size 33 2 v2 (O ++ [(lo, f0 - 1)]).length (rgcs (O ++ [(lo, f0 - 1)])) by rw [rgcs_snoc, len_snoc]; exact o2)
        have HB2 := hid (((HB.out.alloc hbs (.cells #[.int .i32 f0, .int .i32 f1] 33)).alloc (by simp; omega) (.cells #[.int .i32 lo, .int .i32 (f0 - 1)] 33)).grown gr2 (by simp; omega) (fun j hj => (HO.out.lt j hj).1))
        have hbx : w2.cell? ⟨wr.heap.size, 1, none⟩ = some (.int .i32 f1) := by
          rw [cell_of_row w2 wr.heap.size 1 #[.int .i32 f0, .int .i32 f1] 33 (0, 0) (by
            rw [gr2.block wr.heap.size (by simp; omega) (fun e => by have := (HO.out.lt _ e.symm).2; omega), Below.heap_alloc _ _ _ (by simp)]
            show (wr.heap.push _)[wr.heap.size]? = _
            simp)]
          rfl
        clear o2 gr2
        go_wp2
        go_roundw
        case rel => exact ⟨k + 1, O ++ [(lo, f0 - 1)], f1 + 1, by omega, by go_num, by go_num, by omega, by omega, HO2, HY2, by rw [len_snoc]; omega, HB2⟩
        case measure => simp [intOf]; omega
      · have HN2 := hid (HN.out hc)
        clear HY HN HMi
        go_wp2
        go_roundw
        case rel => exact ⟨k + 1, O, f1 + 1, by omega, by go_num, by go_num, by omega, by omega, HO.out.alloc _, HN2, by omega, HB.out.alloc hbs _⟩
        case measure => simp [intOf]; omega
    · obtain ⟨hd1, hd2⟩ := HMi.out.done hlt
      unfold top at hd1 hd2
      by_cases hc : lo ≤ 1114111
      · have HD := hid (hd1 hc)
        clear hd1 hd2 HMi
        go_wp2_with (at_builtin; refine wpList_append_own _ rfl _ _ 22 rfl Wr.heap.size 33 i0 (.agg #[.int .i32 0, .int .i32 0]) 2 8 Tryz.underlying22 hi hz0 hz1 hz2 rfl (by decide) _ O.length (rgcs O) rfl (HO.out.alloc _) ⟨wr.heap.size, 0, none⟩ 1 1 (rgc (lo, 1114111)) rfl rfl ?c1 ?c2 ?c3 ?c4 ?c5 ?_)
        case c1 => exact app_news _ (lo, 1114111) _ rfl
        case c2 => exact rgc_one _
        case c3 => unfold maxLen; omega
        case c4 => omega
        case c5 => simp; omega
        intro v2 w2 o2 gr2 _
        have HO2 := hid (show w2.ownsRow Wr.heap.size 33 2 v2 (O ++ [(lo, 1114111)]).length (rgcs (O ++ [(lo, 1114111)])) by rw [rgcs_snoc, len_snoc]; exact o2)
        have HB2 := hid ((HB.out.alloc hbs (.cells #[.int .i32 lo, .int .i32 1114111] 33)).grown gr2 (by simp; omega) (fun j hj => (HO.out.lt j hj).1))
        clear o2 gr2
        go_wp2
        go_ret
        exact ⟨_, rfl, by rw [← HNT.out, ← HD.out]; exact ownsRow_base2 HO2.out HB0.out.size, HB0.out.trans (HB2.out.mono HB0.out.size)⟩
      · have HD := hid (hd2 hc)
        clear hd1 hd2 HMi
        go_wp2
        go_ret
        exact ⟨_, rfl, by rw [← HNT.out, ← HD.out]; exact ownsRow_base2 HO.out HB0.out.size, HB0.out.trans (HB.out.mono HB0.out.size)⟩
end Go.Proofs.YtfahbdlcokoghabGreatDoor

