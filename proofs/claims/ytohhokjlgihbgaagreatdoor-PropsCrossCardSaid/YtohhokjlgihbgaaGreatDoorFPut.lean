/- The contract of the document's put: a range more in a list by rising first numbers. -/
import Derived.Deep.AppendLies
import Derived.Lib.MapLaws
import Derived.Lib.BufferMore
import Derived.Test.YtohhokjlgihbgaaGreatDoorFRows2
namespace Go.Proofs.YtohhokjlgihbgaaGreatDoor
open Go.RowKit

theorem Tryz.info84 : (Tryz.prog.info? 84).map (fun i => (i.zero, i.size, i.bytes)) = some (some (.agg #[.int .i32 0, .int .i32 0]), 2, 8) := by kernel_rfl
/-- The cells of a range. -/
def rgc (g : Rg) : List Value := [.int .i32 g.1, .int .i32 g.2]
def rgcs (l : List Rg) : List Value := l.flatMap rgc
theorem rgcs_snoc (l : List Rg) (g : Rg) : rgcs (l ++ [g]) = rgcs l ++ rgc g := by simp [rgcs]
theorem rgcs_len : ∀ l : List Rg, (rgcs l).length = l.length * 2
  | [] => rfl
  | g :: l => by
    show (rgc g ++ rgcs l).length = _
    rw [List.length_append, rgcs_len l, List.length_cons]
    show 2 + _ = _
    omega
theorem rgc_one (g : Rg) : ∀ u ∈ rgc g, u.oneCell' = true := by intro u hu; simp [rgc] at hu; rcases hu with rfl | rfl <;> rfl
theorem rgcs_get : ∀ (l : List Rg) (k : Nat) (g : Rg), l[k]? = some g → (rgcs l)[k * 2]? = some (.int .i32 g.1) ∧ (rgcs l)[k * 2 + 1]? = some (.int .i32 g.2)
  | [], _, _, h => by cases h
  | x :: l, 0, g, h => by cases h; exact ⟨rfl, rfl⟩
  | x :: l, k + 1, g, h => by
    have ih := rgcs_get l k g h
    have e1 : (k + 1) * 2 = k * 2 + 2 := by omega
    show (rgc x ++ rgcs l)[(k + 1) * 2]? = _ ∧ (rgc x ++ rgcs l)[(k + 1) * 2 + 1]? = _
    rw [e1, List.getElem?_append_right (by simp [rgc]), List.getElem?_append_right (by simp [rgc])]
    simpa [rgc] using ih
theorem rgcs_set : ∀ (l : List Rg) (i : Nat) (g : Rg), i < l.length → ((rgcs l).set (i * 2) (.int .i32 g.1)).set (i * 2 + 1) (.int .i32 g.2) = rgcs (l.set i g)
  | [], _, _, h => by simp at h
  | x :: l, 0, g, _ => rfl
  | x :: l, i + 1, g, h => by
    have ih := rgcs_set l i g (by simpa using h)
    have e1 : (i + 1) * 2 = i * 2 + 2 := by omega
    show ((rgc x ++ rgcs l).set ((i + 1) * 2) _).set ((i + 1) * 2 + 1) _ = rgc x ++ rgcs (l.set i g)
    rw [← ih, e1]
    rfl

/-- What a row of the call's own reads. -/
theorem row_reads {w : World} {B : Nat} {v : Value} {l : List Rg} (h : w.ownsRow B 84 2 v l.length (rgcs l)) : ∃ ao cap, v = .slice ao l.length cap ∧ (0 < l.length → ∃ g, ao = some ⟨g, 0, none⟩ ∧ B ≤ g ∧ g < w.heap.size) ∧
    ∀ (k : Nat) (x : Rg), l[k]? = some x → ∃ g, ao = some ⟨g, 0, none⟩ ∧ g < w.heap.size ∧ w.cell? ⟨g, k * 2, none⟩ = some (.int .i32 x.1) ∧ w.cell? ⟨g, k * 2 + 1, none⟩ = some (.int .i32 x.2) := by
  rcases h.2 with ⟨h1, h2⟩ | ⟨g, cap, cur, h1, h2, h3, h4, h5, h6, h7⟩
  · have hl : l = [] := List.length_eq_zero_iff.1 h2
    subst hl
    exact ⟨none, 0, h1, fun h => by simp at h, fun k x hk => by cases hk⟩
  · have hg := (Array.getElem?_eq_some_iff.1 h3).1
    refine ⟨some ⟨g, 0, none⟩, cap, h1, fun _ => ⟨g, rfl, h2, hg⟩, fun k x hk => ⟨g, rfl, hg, ?_⟩⟩
    obtain ⟨e1, e2⟩ := rgcs_get l k x hk
    have hc : ∀ j u, (rgcs l)[j]? = some u → w.cell? ⟨g, j, none⟩ = some u := fun j u hj => by
      have := h.cells (g := g) (by rw [h1]; rfl) j u hj
      rw [show (⟨g, 0, none⟩ : Addr).add j = ⟨g, j, none⟩ by unfold Addr.add; split <;> simp_all] at this
      exact this
    exact ⟨hc _ _ e1, hc _ _ e2⟩
theorem row_frozen {w : World} {B g n cap : Nat} {l : List Rg} (h : w.ownsRow B 84 2 (.slice (some ⟨g, 0, none⟩) n cap) l.length (rgcs l)) (j : Nat) : w.frozen? ⟨g, j, none⟩ = false := by
  rcases h.2 with ⟨h1, _⟩ | ⟨g', cap', cur, h1, _, h3, _⟩
  · cases h1
  · cases h1
    exact frozen_of_row w g j cur 84 h3
/-- One element of a row of the call's own is written. -/
theorem row_set {w : World} {B g n cap : Nat} {l : List Rg} (h : w.ownsRow B 84 2 (.slice (some ⟨g, 0, none⟩) n cap) l.length (rgcs l)) (i : Nat) (x : Rg) (hi : i < l.length) :
    ((w.setCell ⟨g, i * 2, none⟩ (.int .i32 x.1)).setCell ⟨g, i * 2 + 1, none⟩ (.int .i32 x.2)).ownsRow B 84 2 (.slice (some ⟨g, 0, none⟩) n cap) (l.set i x).length (rgcs (l.set i x)) := by
  rcases h.2 with ⟨h1, _⟩ | ⟨g', cap', cur, h1, h2, h3, h4, h5, h6, h7⟩
  · cases h1
  · cases h1
    have s1 := Lib.heap_setCell_same (i := i * 2) h3 (.int .i32 x.1)
    have s2 := Lib.heap_setCell_same (i := i * 2 + 1) s1 (.int .i32 x.2)
    rw [List.length_set]
    refine ⟨?_, Or.inr ⟨g, cap, _, rfl, h2, s2, h4, h5, by simp [h6], ?_⟩⟩
    · rw [rgcs_len, List.length_set]
    · rw [← rgcs_set l i x hi, ← h7]
      simp [List.take_set]
end Go.Proofs.YtohhokjlgihbgaaGreatDoor
/- The walk of the document's put. -/
namespace Go.Proofs.YtohhokjlgihbgaaGreatDoor
open Go.RowKit

theorem news_r (w : World) (g : Rg) (T : TypeId) : ∀ j u, (rgc g)[j]? = some u → (w.alloc (.cells #[.int .i32 g.1, .int .i32 g.2] T)).cell? ((⟨w.heap.size, 0, none⟩ : Addr).add j) = some u := fun j u hj => by
  rw [show (⟨w.heap.size, 0, none⟩ : Addr).add j = ⟨w.heap.size, j, none⟩ by unfold Addr.add; split <;> simp_all]
  rw [cell_of_row _ w.heap.size j #[.int .i32 g.1, .int .i32 g.2] T (0, 0) (show (w.heap.push _)[w.heap.size]? = _ by simp)]
  rw [← hj]
  simp [rgc]

/-- The list with a hole that is filled at a place. -/
def hole (l : List Rg) (i : Nat) (y : Rg) : List Rg := l.take i ++ y :: l.drop i
theorem hole_len (l : List Rg) (i : Nat) (y : Rg) (h : i ≤ l.length) : (hole l i y).length = l.length + 1 := by unfold hole; simp; omega
theorem hole_end (l : List Rg) (y : Rg) : hole l l.length y = l ++ [y] := by unfold hole; simp
theorem hole_get (l : List Rg) (i k : Nat) (y : Rg) (h : i ≤ l.length) (hk : k < i) : (hole l i y)[k]? = l[k]? := by
  unfold hole
  rw [List.getElem?_append_left (by rw [List.length_take]; omega), List.getElem?_take_of_lt hk]
theorem hole_set (l : List Rg) (i : Nat) (y x : Rg) (h : i ≤ l.length) : (hole l i y).set i x = hole l i x := by
  unfold hole
  rw [List.set_append_right _ _ (by rw [List.length_take]; omega)]
  have : i - (l.take i).length = 0 := by rw [List.length_take]; omega
  rw [this]; rfl
theorem hole_step (l : List Rg) (i : Nat) (h : i + 1 ≤ l.length) : hole l (i + 1) l[i] = hole l i l[i] := by
  unfold hole
  rw [List.take_succ_eq_append_getElem (by omega), List.append_assoc, List.drop_eq_getElem_cons (show i < l.length by omega)]
  rfl

theorem hole_at (l : List Rg) (i : Nat) (y : Rg) (h : i ≤ l.length) : (hole l i y)[i]? = some y := by
  unfold hole
  rw [List.getElem?_append_right (by rw [List.length_take]; omega)]
  have : i - (l.take i).length = 0 := by rw [List.length_take]; omega
  rw [this]; rfl
theorem row_cell {w : World} {B g n cap : Nat} {l : List Rg} (h : w.ownsRow B 84 2 (.slice (some ⟨g, 0, none⟩) n cap) l.length (rgcs l)) (k : Nat) (x : Rg) (hk : l[k]? = some x) :
    w.cell? ⟨g, k * 2, none⟩ = some (.int .i32 x.1) ∧ w.cell? ⟨g, k * 2 + 1, none⟩ = some (.int .i32 x.2) := by
  obtain ⟨ao, cap', e, _, hc⟩ := row_reads h
  cases e
  obtain ⟨g', e', _, h1, h2⟩ := hc k x hk
  cases e'
  exact ⟨h1, h2⟩

set_option maxRecDepth 100000 in
set_option maxHeartbeats 3000000 in
theorem put_any (B : Nat) (v : Value) (l : List Rg) (x : Rg) (w : World) (h : w.ownsRow B 84 2 v l.length (rgcs l)) (hB : B ≤ w.heap.size) (hl : l.length ≤ 1000000) :
    Calls Tryz.prog 80 #[v, .agg #[.int .i32 x.1, .int .i32 x.2]] w fun e w' => ∃ (v' : Value) (p : Nat), e = .returned v' ∧ p ≤ l.length ∧ (∀ (j : Nat) (g : Rg), p ≤ j → l[j]? = some g → x.1 < g.1) ∧ (∀ (j : Nat) (g : Rg), j + 1 = p → l[j]? = some g → g.1 ≤ x.1) ∧
      w'.ownsRow B 84 2 v' (hole l p x).length (rgcs (hole l p x)) ∧ Below B w w' := by
  obtain ⟨i0, hi, hz0, hz1, hz2⟩ := info_parts Tryz.info84
  obtain ⟨x0, x1⟩ := x
  go_enter Tryz.func80, Tryz.ntmps80
  go_wp2_with (at_builtin; refine wpList_append_lies _ rfl _ _ 47 rfl B 84 i0 (.agg #[.int .i32 0, .int .i32 0]) 2 8 Tryz.underlying47 hi hz0 hz1 hz2 rfl (by decide) _ _ _ rfl ((h.alloc _).alloc _) ⟨w.heap.size + 1, 0, none⟩ 1 1 (rgc (x0, x1)) rfl rfl ?c1 ?c2 (by decide) ?c3 ?c4 ?c5 (w.heap.size + 1 + 1) (by simp) ?_)
  case c1 =>
    have hn := news_r (w.alloc (.cells #[.int .i32 x0, .int .i32 x1] 84)) (x0, x1) 84
    rw [World.size_alloc] at hn
    exact hn
  case c2 => exact rgc_one _
  case c3 => unfold maxLen; omega
  case c4 => omega
  case c5 => simp; omega
  intro g cap w1 o1 gr1 hlie hg1
  have hb1 : Below B w w1 := (((Below.refl B w).alloc hB _).alloc (by simp; omega) _).grown gr1 (by simp; omega) (fun k hk => (h.lt k hk).1)
  have hbox : w1.heap[w.heap.size]? = some (.cells #[.int .i32 x0, .int .i32 x1] 84 (0, 0)) := by
    rw [gr1.block w.heap.size (by simp; omega) (fun e => by have := (h.lt _ e.symm).2; omega), Below.heap_alloc _ _ _ (by simp)]
    show (w.heap.push _)[w.heap.size]? = _
    simp
  have o1' : w1.ownsRow B 84 2 (.slice (some ⟨g, 0, none⟩) (l.length + 1) cap) (hole l l.length (x0, x1)).length (rgcs (hole l l.length (x0, x1))) := by rw [hole_end, rgcs_snoc, List.length_append]; exact o1
  have hgne : g ≠ w.heap.size := by
    rcases hlie with e | e
    · have := (h.lt g e).2; omega
    · omega
  have hgB : B ≤ g := by
    rcases hlie with e | e
    · exact (h.lt g e).1
    · omega
  have HB1 := hid hb1
  have HBX := hid hbox
  clear hbox hb1 o1 gr1 hlie h hg1
  go_wp2
  go_loopw [5] (fun i wr => ∃ (k : Nat) (y : Rg), k ≤ l.length ∧ i = .int .i64 k ∧ Hid (wr.ownsRow B 84 2 (.slice (some ⟨g, 0, none⟩) (l.length + 1) cap) (hole l k y).length (rgcs (hole l k y))) ∧ Hid (∀ (j : Nat) (z : Rg), k ≤ j → l[j]? = some z → x0 < z.1) ∧ Hid (wr.heap[w.heap.size]? = some (.cells #[.int .i32 x0, .int .i32 x1] 84 (0, 0))) ∧ Hid (Below B w wr)) (fun i _ => (intOf i).toNat)
  case atStart => exact ⟨l.length, (x0, x1), by omega, by go_num, o1', fun j z hj hz => (by rw [List.getElem?_eq_none hj] at hz; cases hz), HBX, HB1⟩
  case round =>
    obtain ⟨k, y, hk, rfl, HO, HG, HX, HB⟩ := hrel
    obtain ⟨p0, p1⟩ := row_cell HO.out k y (hole_at l k y hk)
    have q0 := row_frozen HO.out (k * 2)
    have q1 := row_frozen HO.out (k * 2 + 1)
    have b0 : wr.cell? ⟨w.heap.size, 0, none⟩ = some (.int .i32 x0) := by rw [cell_of_row wr w.heap.size 0 _ 84 (0, 0) HX.out]; rfl
    have b1 : wr.cell? ⟨w.heap.size, 1, none⟩ = some (.int .i32 x1) := by rw [cell_of_row wr w.heap.size 1 _ 84 (0, 0) HX.out]; rfl
    have HFIN := hid (show ((wr.setCell ⟨g, k * 2, none⟩ (.int .i32 x0)).setCell ⟨g, k * 2 + 1, none⟩ (.int .i32 x1)).ownsRow B 84 2 (.slice (some ⟨g, 0, none⟩) (l.length + 1) cap) (hole l k (x0, x1)).length (rgcs (hole l k (x0, x1))) by
      have := row_set HO.out k (x0, x1) (by rw [hole_len l k y hk]; omega)
      rw [hole_set l k y (x0, x1) hk] at this
      exact this)
    by_cases hk0 : k = 0
    · have t0 : decide ((0 : Int) < (k : Int)) = false := by simp; omega
      have t1 : ¬ 0 < k := by omega
      have HK0 := hid hk0
      clear hk0
      go_wp2_with fail
      go_quiet (fail)
      go_wp2
      go_ret
      exact ⟨_, k, rfl, hk, HG.out, fun j z hj => (by have := HK0.out; omega), HFIN.out, ((below_drewN HB.out _).setCell (p := ⟨g, k * 2, none⟩) hgB _).setCell (p := ⟨g, k * 2 + 1, none⟩) hgB _⟩
    · obtain ⟨j, hj⟩ : ∃ j, k = j + 1 := ⟨k - 1, by omega⟩
      have hjl : j < l.length := by omega
      have HLJ := hid (show l[j]? = some l[j] from List.getElem?_eq_getElem hjl)
      obtain ⟨r0, r1⟩ := row_cell HO.out j l[j] (by rw [hole_get l k j y hk (by omega)]; exact HLJ.out)
      have t0 : decide ((0 : Int) < (k : Int)) = true := by simp; omega
      have t1 : 0 < k := by omega
      have esub : (k : Int) - 1 = (j : Int) := by omega
      have ewr : IntKind.i64.wrap ((k : Int) - 1) = (j : Int) := by rw [IntKind.wrap_i64]; omega
      have ewr2 : IntKind.i64.wrap (j : Int) = (j : Int) := by rw [IntKind.wrap_i64]; omega
      have i1 : (0 : Int) ≤ (j : Int) := by omega
      have i2 : (j : Int) < (l.length : Int) + 1 := by omega
      have i3 : (k : Int) < (l.length : Int) + 1 := by omega
      have HSH := hid (show ((wr.setCell ⟨g, k * 2, none⟩ (.int .i32 l[j].1)).setCell ⟨g, k * 2 + 1, none⟩ (.int .i32 l[j].2)).ownsRow B 84 2 (.slice (some ⟨g, 0, none⟩) (l.length + 1) cap) (hole l j l[j]).length (rgcs (hole l j l[j])) by
        have := row_set HO.out k l[j] (by rw [hole_len l k y hk]; omega)
        rw [hole_set l k y l[j] hk] at this
        subst hj
        rw [hole_step l j (by omega)] at this
        exact this)
      have HLJ2 := hid (show ∀ z : Rg, l[j]? = some z → z.1 = l[j].1 from fun z hz => by rw [HLJ.out] at hz; cases hz; rfl)
      have HJ := hid hj
      obtain ⟨ej, hej⟩ : ∃ ej, ej = l[j] := ⟨_, rfl⟩
      rw [← hej] at r0 r1 HSH HLJ2
      clear hej hj hk0 HLJ
      obtain ⟨e0, e1⟩ := ej
      dsimp only at r0 r1 HSH HLJ2
      by_cases hgt : x0 < e0
      · have HXS := hid (show ((wr.setCell ⟨g, k * 2, none⟩ (.int .i32 e0)).setCell ⟨g, k * 2 + 1, none⟩ (.int .i32 e1)).heap[w.heap.size]? = some (.cells #[.int .i32 x0, .int .i32 x1] 84 (0, 0)) from ((Below.heap_setCell _ _ _ _ (show w.heap.size ≠ g from fun e => hgne e.symm)).trans (Below.heap_setCell _ _ _ _ (show w.heap.size ≠ g from fun e => hgne e.symm))).trans HX.out)
        clear HFIN
        go_wp2_with fail
        go_quiet (fail)
        go_wp2
        go_roundw
        case rel => exact ⟨j, (e0, e1), by omega, by go_num, HSH.out, fun jj z hjj hz => (by
          by_cases e : jj = j
          · subst e; rw [HLJ2.out z hz]; exact hgt
          · exact HG.out jj z (by have := HJ.out; omega) hz), HXS.out, ((below_drewN HB.out _).setCell (p := ⟨g, k * 2, none⟩) hgB _).setCell (p := ⟨g, k * 2 + 1, none⟩) hgB _⟩
        case measure => simp [intOf]; have := HJ.out; omega
      · clear HSH
        go_wp2_with fail
        go_quiet (fail)
        clear esub ewr ewr2 i1 i2 t0 r0 r1
        go_wp2
        go_ret
        exact ⟨_, k, rfl, hk, HG.out, fun jj z hjj hz => (by
          have e : jj = j := by have := HJ.out; omega
          subst e; rw [HLJ2.out z hz]; omega), HFIN.out, ((below_drewN HB.out _).setCell (p := ⟨g, k * 2, none⟩) hgB _).setCell (p := ⟨g, k * 2 + 1, none⟩) hgB _⟩
end Go.Proofs.YtohhokjlgihbgaaGreatDoor
/- A range more in a sorted list; merging, step by step. -/
namespace Go.Proofs.YtohhokjlgihbgaaGreatDoor

theorem srt_ge : ∀ {l : List Rg} {b : Int} {j : Nat} {g : Rg}, srt b l → l[j]? = some g → b ≤ g.1
  | [], _, _, _, _, h => by cases h
  | x :: l, b, 0, g, hs, h => by cases h; exact hs.1
  | x :: l, b, j + 1, g, hs, h => by
    have h1 := srt_ge hs.2.2.2 (show l[j]? = some g from h)
    have := hs.1
    omega
theorem srt_hole : ∀ (l : List Rg) (p : Nat) (b : Int) (x : Rg), srt b l → p ≤ l.length → b ≤ x.1 → x.1 ≤ x.2 → x.2 ≤ top → (∀ (j : Nat) (g : Rg), p ≤ j → l[j]? = some g → x.1 < g.1) → (∀ (j : Nat) (g : Rg), j + 1 = p → l[j]? = some g → g.1 ≤ x.1) → srt b (hole l p x)
  | l, 0, b, x, hs, _, h1, h2, h3, h4, _ => by
    show srt b (x :: l)
    refine ⟨h1, h2, h3, ?_⟩
    cases l with
    | nil => trivial
    | cons g t => exact ⟨by have := h4 0 g (Nat.le_refl _) rfl; omega, hs.2⟩
  | [], p + 1, _, _, _, hp, _, _, _, _, _ => by simp at hp
  | g :: t, p + 1, b, x, hs, hp, h1, h2, h3, h4, h5 => by
    show srt b (g :: hole t p x)
    obtain ⟨s1, s2, s3, s4⟩ := hs
    have hgx : g.1 ≤ x.1 := by
      cases p with
      | zero => exact h5 0 g rfl rfl
      | succ q =>
        have hq : q < t.length := by simp at hp; omega
        have e := List.getElem?_eq_getElem hq
        have h6 := h5 (q + 1) t[q] rfl e
        have h7 := srt_ge s4 e
        omega
    exact ⟨s1, s2, s3, srt_hole t p g.1 x s4 (by simp at hp; omega) hgx h2 h3 (fun j y hj hy => h4 (j + 1) y (by omega) hy) (fun j y hj hy => h5 (j + 1) y (by omega) hy)⟩
theorem isin_hole (l : List Rg) (p : Nat) (x : Rg) (r : Int) : isin r (hole l p x) ↔ (x.1 ≤ r ∧ r ≤ x.2) ∨ isin r l := by
  have hm : ∀ g, g ∈ hole l p x ↔ g = x ∨ g ∈ l := fun g => by
    unfold hole
    have h := List.take_append_drop p l
    constructor
    · intro hg
      rcases List.mem_append.1 hg with h1 | h1
      · exact Or.inr (List.mem_of_mem_take h1)
      · rcases List.mem_cons.1 h1 with h2 | h2
        · exact Or.inl h2
        · exact Or.inr (List.mem_of_mem_drop h2)
    · rintro (h1 | h1)
      · exact List.mem_append.2 (Or.inr (List.mem_cons.2 (Or.inl h1)))
      · rw [← h] at h1
        rcases List.mem_append.1 h1 with h2 | h2
        · exact List.mem_append.2 (Or.inl h2)
        · exact List.mem_append.2 (Or.inr (List.mem_cons.2 (Or.inr h2)))
  rw [isin_iff, isin_iff]
  constructor
  · rintro ⟨g, hg, h1⟩
    rcases (hm g).1 hg with rfl | hg
    · exact Or.inl h1
    · exact Or.inr ⟨g, hg, h1⟩
  · rintro (h1 | ⟨g, hg, h1⟩)
    · exact ⟨x, (hm x).2 (Or.inl rfl), h1⟩
    · exact ⟨g, (hm g).2 (Or.inr hg), h1⟩

/-- One by one: the ranges of a list, cut, put in order. -/
def ins (x : Rg) : List Rg → List Rg
  | [] => [x]
  | y :: t => if y.1 ≤ x.1 then y :: ins x t else x :: y :: t
def isort (l : List Rg) : List Rg := l.foldl (fun s x => ins x s) []
theorem srt_ins : ∀ (l : List Rg) (b : Int) (x : Rg), srt b l → b ≤ x.1 → x.1 ≤ x.2 → x.2 ≤ top → srt b (ins x l)
  | [], _, _, _, h1, h2, h3 => ⟨h1, h2, h3, trivial⟩
  | y :: t, b, x, hs, h1, h2, h3 => by
    obtain ⟨s1, s2, s3, s4⟩ := hs
    unfold ins
    split
    · rename_i h; exact ⟨s1, s2, s3, srt_ins t y.1 x s4 h h2 h3⟩
    · rename_i h; exact ⟨h1, h2, h3, by omega, s2, s3, s4⟩
theorem isin_ins : ∀ (l : List Rg) (x : Rg) (r : Int), isin r (ins x l) ↔ (x.1 ≤ r ∧ r ≤ x.2) ∨ isin r l
  | [], _, _ => by simp [ins, isin]
  | y :: t, x, r => by
    unfold ins
    split
    · show ((y.1 ≤ r ∧ r ≤ y.2) ∨ isin r (ins x t)) ↔ _
      rw [isin_ins t x r]
      show _ ↔ _ ∨ (y.1 ≤ r ∧ r ≤ y.2) ∨ isin r t
      constructor
      · rintro (h | h | h)
        · exact Or.inr (Or.inl h)
        · exact Or.inl h
        · exact Or.inr (Or.inr h)
      · rintro (h | h | h)
        · exact Or.inr (Or.inl h)
        · exact Or.inl h
        · exact Or.inr (Or.inr h)
    · exact Iff.rfl
theorem isort_from : ∀ (l s : List Rg), (∀ g, g ∈ l → 0 ≤ g.1 ∧ g.1 ≤ g.2 ∧ g.2 ≤ top) → srt 0 s → srt 0 (l.foldl (fun s x => ins x s) s) ∧ ∀ r, isin r (l.foldl (fun s x => ins x s) s) ↔ isin r l ∨ isin r s
  | [], s, _, hs => ⟨hs, fun r => by simp [isin]⟩
  | x :: l, s, hv, hs => by
    have hx := hv x (List.mem_cons_self)
    have h := isort_from l (ins x s) (fun g hg => hv g (List.mem_cons_of_mem _ hg)) (srt_ins s 0 x hs hx.1 hx.2.1 hx.2.2)
    refine ⟨h.1, fun r => ?_⟩
    rw [List.foldl_cons, h.2 r, isin_ins]
    show _ ↔ ((x.1 ≤ r ∧ r ≤ x.2) ∨ isin r l) ∨ isin r s
    constructor
    · rintro (h | h | h)
      · exact Or.inl (Or.inr h)
      · exact Or.inl (Or.inl h)
      · exact Or.inr h
    · rintro ((h | h) | h)
      · exact Or.inr (Or.inl h)
      · exact Or.inl h
      · exact Or.inr (Or.inr h)
theorem cut_valid (l : List Rg) : ∀ g, g ∈ cut l → 0 ≤ g.1 ∧ g.1 ≤ g.2 ∧ g.2 ≤ top := fun g hg => by
  unfold cut at hg
  rw [List.mem_filter, List.mem_map] at hg
  obtain ⟨⟨x, _, rfl⟩, h⟩ := hg
  have h2 : (cut1 x).1 ≤ (cut1 x).2 := by simpa using h
  refine ⟨?_, h2, ?_⟩ <;> unfold cut1 <;> dsimp only <;> omega
/-- The normal form of the set that a list means. -/
def nrm (l : List Rg) : List Rg := mrg (isort (cut l))
theorem isort_cut (l : List Rg) : srt 0 (isort (cut l)) ∧ ∀ r, isin r (isort (cut l)) ↔ means r l := by
  have h := isort_from (cut l) [] (cut_valid l) trivial
  exact ⟨h.1, fun r => by
    show isin r ((cut l).foldl (fun s x => ins x s) []) ↔ _
    rw [h.2 r, cut_in]
    simp [isin]⟩
theorem nrm_nf (l : List Rg) : nf (nrm l) := mrg_nf (isort_cut l).1
theorem nrm_in (l : List Rg) (r : Int) : isin r (nrm l) ↔ means r l := by
  unfold nrm
  rw [mrg_in (isort_cut l).1, (isort_cut l).2]
/-- Whatever sorted list means the same: merged it is the normal form. -/
theorem mrg_nrm {s l : List Rg} (h : srt 0 s) (hi : ∀ r, isin r s ↔ means r l) : mrg s = nrm l :=
  nf_one (mrg_nf h) (nrm_nf l) (fun r => by rw [mrg_in h, nrm_in, hi])
/-- A list is the normal form of what it means just if it is in normal form. -/
theorem nrm_same (l : List Rg) : l = nrm l ↔ nf l := by
  constructor
  · intro h; rw [h]; exact nrm_nf l
  · intro h
    refine nf_one h (nrm_nf l) (fun r => ?_)
    rw [nrm_in]
    exact ⟨fun hr => ⟨isin_ge h hr, isin_le h hr, hr⟩, fun hr => hr.2.2⟩

/-- Merging so far: what lies in the answer, and what is to come. -/
def Mid (s out : List Rg) (k : Nat) : Prop := (k = 0 ∧ out = []) ∨ ∃ (P : List Rg) (lo hi : Int), out = P ++ [(lo, hi)] ∧ P ++ mrgF lo hi (s.drop k) = mrg s
theorem Mid.start (s : List Rg) : Mid s [] 0 := Or.inl ⟨rfl, rfl⟩
theorem Mid.first {s : List Rg} (h : 0 < s.length) : Mid s [s[0]] 1 := by
  refine Or.inr ⟨[], s[0].1, s[0].2, rfl, ?_⟩
  cases s with
  | nil => simp at h
  | cons g t => rfl
theorem Mid.more {s P : List Rg} {lo hi : Int} {k : Nat} (hk : k < s.length) (h : P ++ mrgF lo hi (s.drop k) = mrg s) (hc : hi + 1 < s[k].1) : Mid s (P ++ [(lo, hi)] ++ [s[k]]) (k + 1) := by
  refine Or.inr ⟨P ++ [(lo, hi)], s[k].1, s[k].2, rfl, ?_⟩
  rw [← h, List.drop_eq_getElem_cons hk]
  conv => rhs; unfold mrgF
  rw [if_pos hc]
  simp
theorem Mid.join {s P : List Rg} {lo hi : Int} {k : Nat} (hk : k < s.length) (h : P ++ mrgF lo hi (s.drop k) = mrg s) (hc : ¬ hi + 1 < s[k].1) : Mid s (P ++ [(lo, max hi s[k].2)]) (k + 1) := by
  refine Or.inr ⟨P, lo, max hi s[k].2, rfl, ?_⟩
  rw [← h, List.drop_eq_getElem_cons hk]
  conv => rhs; unfold mrgF
  rw [if_neg hc]
theorem Mid.done {s out : List Rg} {k : Nat} (h : Mid s out k) (hk : ¬ k < s.length) : out = mrg s := by
  rcases h with ⟨rfl, rfl⟩ | ⟨P, lo, hi, rfl, h⟩
  · have : s = [] := List.length_eq_zero_iff.1 (by omega)
    subst this; rfl
  · rw [List.drop_of_length_le (by omega)] at h
    exact h
end Go.Proofs.YtohhokjlgihbgaaGreatDoor
/- The contract of the document's Norm: the normal form of what a list means. -/
namespace Go.Proofs.YtohhokjlgihbgaaGreatDoor
open Go.RowKit

theorem isin_app (a b : List Rg) (r : Int) : isin r (a ++ b) ↔ isin r a ∨ isin r b := by
  rw [isin_iff, isin_iff, isin_iff]
  constructor
  · rintro ⟨g, hg, h⟩
    rcases List.mem_append.1 hg with h1 | h1
    · exact Or.inl ⟨g, h1, h⟩
    · exact Or.inr ⟨g, h1, h⟩
  · rintro (⟨g, hg, h⟩ | ⟨g, hg, h⟩)
    · exact ⟨g, List.mem_append.2 (Or.inl hg), h⟩
    · exact ⟨g, List.mem_append.2 (Or.inr hg), h⟩
theorem means_take (l : List Rg) (k : Nat) (hk : k < l.length) (r : Int) : means r (l.take (k + 1)) ↔ means r (l.take k) ∨ (0 ≤ r ∧ r ≤ top ∧ l[k].1 ≤ r ∧ r ≤ l[k].2) := by
  unfold means
  rw [List.take_succ_eq_append_getElem hk, isin_app]
  show (0 ≤ r ∧ r ≤ top ∧ (isin r (l.take k) ∨ ((l[k].1 ≤ r ∧ r ≤ l[k].2) ∨ False))) ↔ _
  rw [or_false]
  constructor
  · rintro ⟨a, b, c | c⟩
    · exact Or.inl ⟨a, b, c⟩
    · exact Or.inr ⟨a, b, c⟩
  · rintro (⟨a, b, c⟩ | ⟨a, b, c⟩)
    · exact ⟨a, b, Or.inl c⟩
    · exact ⟨a, b, Or.inr c⟩
/-- A range more: what is meant. -/
theorem step_yes {l s : List Rg} {k : Nat} {c0 c1 : Int} {p : Nat} (hk : k < l.length) (h : ∀ r, isin r s ↔ means r (l.take k)) (hc : ∀ r, (c0 ≤ r ∧ r ≤ c1) ↔ (0 ≤ r ∧ r ≤ top ∧ l[k].1 ≤ r ∧ r ≤ l[k].2)) :
    ∀ r, isin r (hole s p (c0, c1)) ↔ means r (l.take (k + 1)) := fun r => by
  rw [isin_hole, means_take l k hk, h r]
  show (c0 ≤ r ∧ r ≤ c1) ∨ _ ↔ _
  rw [hc r]
  exact Or.comm
theorem step_no {l s : List Rg} {k : Nat} (hk : k < l.length) (h : ∀ r, isin r s ↔ means r (l.take k)) (hc : ∀ r, ¬ (0 ≤ r ∧ r ≤ top ∧ l[k].1 ≤ r ∧ r ≤ l[k].2)) :
    ∀ r, isin r s ↔ means r (l.take (k + 1)) := fun r => by
  rw [means_take l k hk, h r]
  exact ⟨Or.inl, fun x => x.elim id (fun y => (hc r y).elim)⟩

theorem rgcs_set2 : ∀ (l : List Rg) (i : Nat) (a b c : Int), l[i]? = some (a, c) → (rgcs l).set (i * 2 + 1) (.int .i32 b) = rgcs (l.set i (a, b))
  | [], _, _, _, _, h => by cases h
  | x :: l, 0, a, b, c, h => by cases h; rfl
  | x :: l, i + 1, a, b, c, h => by
    have ih := rgcs_set2 l i a b c h
    have e1 : (i + 1) * 2 = i * 2 + 2 := by omega
    show (rgc x ++ rgcs l).set ((i + 1) * 2 + 1) _ = rgc x ++ rgcs (l.set i (a, b))
    rw [← ih, e1]
    rfl
theorem row_set2 {w : World} {B g n cap : Nat} {l : List Rg} (h : w.ownsRow B 84 2 (.slice (some ⟨g, 0, none⟩) n cap) l.length (rgcs l)) (i : Nat) (a b c : Int) (hi : l[i]? = some (a, c)) :
    (w.setCell ⟨g, i * 2 + 1, none⟩ (.int .i32 b)).ownsRow B 84 2 (.slice (some ⟨g, 0, none⟩) n cap) (l.set i (a, b)).length (rgcs (l.set i (a, b))) := by
  rcases h.2 with ⟨h1, _⟩ | ⟨g', cap', cur, h1, h2, h3, h4, h5, h6, h7⟩
  · cases h1
  · cases h1
    have s1 := Lib.heap_setCell_same (i := i * 2 + 1) h3 (.int .i32 b)
    rw [List.length_set]
    refine ⟨?_, Or.inr ⟨g, cap, _, rfl, h2, s1, h4, h5, by simp [h6], ?_⟩⟩
    · rw [rgcs_len, List.length_set]
    · rw [← rgcs_set2 l i a b c hi, ← h7]
      simp [List.take_set]
theorem ownsRow_base2 {w : World} {B B' : Nat} {e : TypeId} {size : Nat} {v : Value} {n : Nat} {xs : List Value} (h : w.ownsRow B e size v n xs) (hB : B' ≤ B) : w.ownsRow B' e size v n xs := by
  refine ⟨h.1, ?_⟩
  rcases h.2 with h0 | ⟨g, cap, cur, hv, hb, hg, hr⟩
  · exact Or.inl h0
  · exact Or.inr ⟨g, cap, cur, hv, Nat.le_trans hB hb, hg, hr⟩
theorem srt_at : ∀ {l : List Rg} {b : Int} {j : Nat} {g : Rg}, srt b l → l[j]? = some g → b ≤ g.1 ∧ g.1 ≤ g.2 ∧ g.2 ≤ top
  | [], _, _, _, _, h => by cases h
  | x :: l, b, 0, g, hs, h => by cases h; exact ⟨hs.1, hs.2.1, hs.2.2.1⟩
  | x :: l, b, j + 1, g, hs, h => by
    have h1 := srt_at hs.2.2.2 (show l[j]? = some g from h)
    have := hs.1
    exact ⟨by omega, h1.2⟩
theorem len_snoc (l : List Rg) (x : Rg) : (l ++ [x]).length = l.length + 1 := by simp
theorem set_last (P : List Rg) (x y : Rg) : (P ++ [x]).set P.length y = P ++ [y] := by
  rw [List.set_append_right _ _ (Nat.le_refl _), Nat.sub_self]; rfl

set_option maxRecDepth 100000 in
set_option maxHeartbeats 3000000 in
theorem rnorm_any (ao : Option Addr) (ac : Nat) (l : List Rg) (w : World) (ha : RdR w ao l) (hl : l.length ≤ 100000) :
    Calls Tryz.prog 49 #[.slice ao l.length ac] w fun e w' => ∃ v, e = .returned v ∧ w'.ownsRow w.heap.size 84 2 v (nrm l).length (rgcs (nrm l)) ∧ Below w.heap.size w w' := by
  obtain ⟨i0, hi, hz0, hz1, hz2⟩ := info_parts Tryz.info84
  have HA := hid ha
  clear ha
  go_enter Tryz.func49, Tryz.ntmps49
  go_wp2
  go_loopw [3, 4] (fun v i wr => ∃ (k : Nat) (s : List Rg), k ≤ l.length ∧ i = .int .i64 k ∧ Hid (wr.ownsRow w.heap.size 84 2 v s.length (rgcs s)) ∧ Hid (srt 0 s) ∧ Hid (∀ r, isin r s ↔ means r (l.take k)) ∧ s.length ≤ k ∧ Below w.heap.size w wr) (fun _ i _ => l.length - (intOf i).toNat)
  case atStart => exact ⟨0, [], by omega, rfl, World.ownsRow_nil _ _ _ _, trivial, fun r => by simp [isin, means], by simp, Below.refl _ _⟩
  case round =>
    obtain ⟨k, s, hk, rfl, HO, HS, HM, hsk, hB⟩ := hrel
    have hws := hB.size
    by_cases hlt : k < l.length
    · obtain ⟨a, rfl, ha, a0, a1⟩ := HA.out.below hB k l[k] (List.getElem?_eq_getElem hlt)
      have HY := hid (fun (c0 c1 : Int) (p : Nat) => step_yes (c0 := c0) (c1 := c1) (p := p) hlt HM.out)
      have HN := hid (step_no hlt HM.out)
      generalize l[k].1 = z0 at *
      generalize l[k].2 = z1 at *
      by_cases h0 : z0 < 0
      · by_cases h1 : 1114111 < z1
        · by_cases hc : (0 : Int) ≤ 1114111
          · go_wp2_with (go_at_call 80; refine (put_any w.heap.size u3 s (0, 1114111) (wr.alloc (.cells #[.int .i32 0, .int .i32 1114111] 84)) (HO.out.alloc _) (by simp; omega) (by omega)).mono ?_; rintro e w2 ⟨v2, p, rfl, hp, g1, g2, o2, b2⟩; have HO2 := hid o2; have HS2 := hid (srt_hole s p 0 (0, 1114111) HS.out hp (by dsimp only; omega) (by dsimp only; omega) (by unfold top; dsimp only; omega) g1 g2); have hlen := hole_len s p (0, 1114111) hp; clear o2 g1 g2)
            go_roundw
            case rel => exact ⟨k + 1, hole s p (0, 1114111), by omega, by go_num, HO2, HS2, HY.out 0 1114111 p (fun r => by unfold top; omega), by omega, (hB.alloc hB.size _).trans b2⟩
            case measure => simp [intOf]; omega
          · exact absurd (show (0 : Int) ≤ 1114111 by omega) hc
        · by_cases hc : (0 : Int) ≤ z1
          · go_wp2_with (go_at_call 80; refine (put_any w.heap.size u3 s (0, z1) (wr.alloc (.cells #[.int .i32 0, .int .i32 z1] 84)) (HO.out.alloc _) (by simp; omega) (by omega)).mono ?_; rintro e w2 ⟨v2, p, rfl, hp, g1, g2, o2, b2⟩; have HO2 := hid o2; have HS2 := hid (srt_hole s p 0 (0, z1) HS.out hp (by dsimp only; omega) (by dsimp only; omega) (by unfold top; dsimp only; omega) g1 g2); have hlen := hole_len s p (0, z1) hp; clear o2 g1 g2)
            go_roundw
            case rel => exact ⟨k + 1, hole s p (0, z1), by omega, by go_num, HO2, HS2, HY.out 0 z1 p (fun r => by unfold top; omega), by omega, (hB.alloc hB.size _).trans b2⟩
            case measure => simp [intOf]; omega
          · have HN2 := hid (HN.out (fun r => by unfold top; omega))
            go_wp2
            go_roundw
            case rel => exact ⟨k + 1, s, by omega, by go_num, HO.out.alloc _, HS, HN2, by omega, hB.alloc hB.size _⟩
            case measure => simp [intOf]; omega
      · by_cases h1 : 1114111 < z1
        · by_cases hc : (z0 : Int) ≤ 1114111
          · go_wp2_with (go_at_call 80; refine (put_any w.heap.size u3 s (z0, 1114111) (wr.alloc (.cells #[.int .i32 z0, .int .i32 1114111] 84)) (HO.out.alloc _) (by simp; omega) (by omega)).mono ?_; rintro e w2 ⟨v2, p, rfl, hp, g1, g2, o2, b2⟩; have HO2 := hid o2; have HS2 := hid (srt_hole s p 0 (z0, 1114111) HS.out hp (by dsimp only; omega) (by dsimp only; omega) (by unfold top; dsimp only; omega) g1 g2); have hlen := hole_len s p (z0, 1114111) hp; clear o2 g1 g2)
            go_roundw
            case rel => exact ⟨k + 1, hole s p (z0, 1114111), by omega, by go_num, HO2, HS2, HY.out z0 1114111 p (fun r => by unfold top; omega), by omega, (hB.alloc hB.size _).trans b2⟩
            case measure => simp [intOf]; omega
          · have HN2 := hid (HN.out (fun r => by unfold top; omega))
            go_wp2
            go_roundw
            case rel => exact ⟨k + 1, s, by omega, by go_num, HO.out.alloc _, HS, HN2, by omega, hB.alloc hB.size _⟩
            case measure => simp [intOf]; omega
        · by_cases hc : (z0 : Int) ≤ z1
          · go_wp2_with (go_at_call 80; refine (put_any w.heap.size u3 s (z0, z1) (wr.alloc (.cells #[.int .i32 z0, .int .i32 z1] 84)) (HO.out.alloc _) (by simp; omega) (by omega)).mono ?_; rintro e w2 ⟨v2, p, rfl, hp, g1, g2, o2, b2⟩; have HO2 := hid o2; have HS2 := hid (srt_hole s p 0 (z0, z1) HS.out hp (by dsimp only; omega) (by dsimp only; omega) (by unfold top; dsimp only; omega) g1 g2); have hlen := hole_len s p (z0, z1) hp; clear o2 g1 g2)
            go_roundw
            case rel => exact ⟨k + 1, hole s p (z0, z1), by omega, by go_num, HO2, HS2, HY.out z0 z1 p (fun r => by unfold top; omega), by omega, (hB.alloc hB.size _).trans b2⟩
            case measure => simp [intOf]; omega
          · have HN2 := hid (HN.out (fun r => by unfold top; omega))
            go_wp2
            go_roundw
            case rel => exact ⟨k + 1, s, by omega, by go_num, HO.out.alloc _, HS, HN2, by omega, hB.alloc hB.size _⟩
            case measure => simp [intOf]; omega
    · have HM2 := hid (show ∀ r, isin r s ↔ means r l by have h := HM.out; rw [List.take_of_length_le (by omega)] at h; exact h)
      have HNR := hid (mrg_nrm HS.out HM2.out)
      obtain ⟨so, sc, hu3, _, hrd⟩ := row_reads HO.out
      subst hu3
      have HRD := hid hrd
      obtain ⟨nr, hnr⟩ : ∃ nr, nr = wr.heap.size := ⟨_, rfl⟩
      obtain ⟨Wr, hWr⟩ : ∃ Wr, Wr = wr := ⟨_, rfl⟩
      rw [← hWr] at HRD hB hws
      have HB0 := hid hB
      have hs5 : s.length ≤ 100000 := by omega
      clear hrd HM HM2 HO hB
      rw [← hWr]
      clear hWr hnr
      go_wp2
      clear hlt hk hsk
      go_loopw [6, 7] (fun v i wq => ∃ (k : Nat) (O : List Rg), k ≤ s.length ∧ i = .int .i64 k ∧ Hid (wq.ownsRow Wr.heap.size 84 2 v O.length (rgcs O)) ∧ Hid (Mid s O k) ∧ O.length ≤ k ∧ Hid (∀ g, g ∈ O → 0 ≤ g.2 ∧ g.2 ≤ 1114111) ∧ Hid (Below Wr.heap.size Wr wq)) (fun _ i _ => s.length - (intOf i).toNat)
      case atStart => exact ⟨0, [], by omega, rfl, World.ownsRow_nil _ _ _ _, Mid.start s, by simp, fun g hg => (by cases hg), Below.refl _ _⟩
      case round =>
        obtain ⟨k, O, hk, rfl, HO, HMi, hok, HBD, HB⟩ := hrel
        have hbs := HB.out.size
        by_cases hlt : k < s.length
        · obtain ⟨gs, rfl, hgs, y0, y1⟩ := HRD.out k s[k] (List.getElem?_eq_getElem hlt)
          obtain ⟨b1, b2, b3⟩ := srt_at HS.out (List.getElem?_eq_getElem hlt)
          unfold top at b3
          replace y0 := (HB.out.cell (p := ⟨gs, k * 2, none⟩) hgs).trans y0
          replace y1 := (HB.out.cell (p := ⟨gs, k * 2 + 1, none⟩) hgs).trans y1
          rcases HMi.out with ⟨hk0, hO⟩ | ⟨Q, lo, hi', hO, hQ⟩
          · subst hO
            have HFI := hid (show Mid s [s[k]] (k + 1) by subst hk0; exact Mid.first hlt)
            obtain ⟨oo, oc, hu6, _, _⟩ := row_reads HO.out
            subst hu6
            obtain ⟨f0, hf0⟩ : ∃ f0, f0 = s[k].1 := ⟨_, rfl⟩
            obtain ⟨f1, hf1⟩ : ∃ f1, f1 = s[k].2 := ⟨_, rfl⟩
            have HF1 := hid (show Mid s [(f0, f1)] (k + 1) by have e : s[k] = (f0, f1) := Prod.ext hf0.symm hf1.symm; have h := HFI.out; rw [e] at h; exact h)
            rw [← hf0] at y0 b1 b2
            rw [← hf1] at y1 b2 b3
            clear hf0 hf1 HFI hk0 HMi hok HBD
            go_wp2_with fail
            go_quiet (fail)
            go_wp2_with (at_builtin; refine wpList_append_own _ rfl _ _ 47 rfl Wr.heap.size 84 i0 (.agg #[.int .i32 0, .int .i32 0]) 2 8 Tryz.underlying47 hi hz0 hz1 hz2 rfl (by decide) (.slice oo 0 oc) 0 [] rfl ((show (wr.drewN nq).ownsRow Wr.heap.size 84 2 (.slice oo 0 oc) 0 [] from HO.out).alloc _) ⟨wr.heap.size, 0, none⟩ 1 1 (rgc (f0, f1)) rfl rfl ?c1 ?c2 ?c3 ?c4 ?c5 ?_)
            case c1 => exact news_r (wr.drewN nq) (f0, f1) 84
            case c2 => exact rgc_one _
            case c3 => unfold maxLen; omega
            case c4 => omega
            case c5 => simp; omega
            intro v2 w2 o2 gr2 _
            have HO2 := hid (show w2.ownsRow Wr.heap.size 84 2 v2 [(f0, f1)].length (rgcs [(f0, f1)]) from o2)
            have HB2 := hid (((below_drewN HB.out nq).alloc (by simp; omega) (.cells #[.int .i32 f0, .int .i32 f1] 84)).grown gr2 (by simp; omega) (fun j hj => (HO.out.lt j hj).1))
            clear o2 gr2
            go_wp2
            go_roundw
            case rel => exact ⟨k + 1, [(f0, f1)], by omega, by go_num, HO2, HF1, by simp, fun g hg => (by simp at hg; subst hg; exact ⟨by dsimp only; omega, b3⟩), HB2⟩
            case measure => simp [intOf]; omega
          · subst hO
            obtain ⟨oo, oc, hu6, hog, _⟩ := row_reads HO.out
            obtain ⟨g, hoo, hgB, hgl⟩ := hog (by simp)
            subst hoo
            subst hu6
            obtain ⟨p0, p1⟩ := row_cell HO.out Q.length (lo, hi') (by simp)
            have q1 := row_frozen HO.out (Q.length * 2 + 1)
            have hbd := HBD.out (lo, hi') (by simp)
            obtain ⟨n, hn⟩ : ∃ n, n = Q.length := ⟨_, rfl⟩
            have hOl : (Q ++ [(lo, hi')]).length = n + 1 := by rw [hn]; simp
            have HJ := hid (fun hc => Mid.join hlt hQ hc)
            have HMo := hid (fun hc => Mid.more hlt hQ hc)
            obtain ⟨f0, hf0⟩ : ∃ f0, f0 = s[k].1 := ⟨_, rfl⟩
            obtain ⟨f1, hf1⟩ : ∃ f1, f1 = s[k].2 := ⟨_, rfl⟩
            rw [← hf0] at y0 b1 b2
            rw [← hf1] at y1 b2 b3
            rw [← hn] at p0 p1 q1
            dsimp only at hbd p0 p1
            have es : s[k] = (f0, f1) := Prod.ext hf0.symm hf1.symm
            rw [← hf0, ← hf1] at HJ
            rw [← hf0, es] at HMo
            have HQL := hid hn
            have HOL := hid hOl
            clear hf0 hf1 es hn HMi hQ
            have HO1 := hid (show wr.ownsRow Wr.heap.size 84 2 (.slice (some ⟨g, 0, none⟩) (n + 1) oc) (Q ++ [(lo, hi')]).length (rgcs (Q ++ [(lo, hi')])) by have h := HO.out; rw [hOl] at h ⊢; exact h)
            rw [hOl] at hok ⊢
            clear hOl HO
            have t0 : decide ((0 : Int) < (n : Int) + 1) = true := decide_eq_true (by omega)
            have esub : ((n : Int) + 1) - 1 = (n : Int) := by omega
            have ewr : IntKind.i64.wrap (n : Int) = (n : Int) := by rw [IntKind.wrap_i64]; omega
            have ew32 : IntKind.i32.wrap (hi' + 1) = hi' + 1 := by rw [IntKind.wrap_i32]; omega
            have i1 : (0 : Int) ≤ (n : Int) := by omega
            have i2 : (n : Int) < (n : Int) + 1 := by omega
            have i3 : (k : Int) < (s.length : Int) := by omega
            by_cases hc : hi' + 1 < f0
            · have HF2 := hid (HMo.out hc)
              clear HJ HMo
              go_wp2_with fail
              go_quiet (fail)
              go_wp2_with (at_builtin; refine wpList_append_own _ rfl _ _ 47 rfl Wr.heap.size 84 i0 (.agg #[.int .i32 0, .int .i32 0]) 2 8 Tryz.underlying47 hi hz0 hz1 hz2 rfl (by decide) (.slice (some ⟨g, 0, none⟩) (n + 1) oc) (Q ++ [(lo, hi')]).length (rgcs (Q ++ [(lo, hi')])) rfl ((show (wr.drewN nq).ownsRow Wr.heap.size 84 2 (.slice (some ⟨g, 0, none⟩) (n + 1) oc) (Q ++ [(lo, hi')]).length (rgcs (Q ++ [(lo, hi')])) from HO1.out).alloc _) ⟨wr.heap.size, 0, none⟩ 1 1 (rgc (f0, f1)) rfl rfl ?c1 ?c2 ?c3 ?c4 ?c5 ?_)
              case c1 => exact news_r (wr.drewN nq) (f0, f1) 84
              case c2 => exact rgc_one _
              case c3 => rw [HOL.out]; unfold maxLen; omega
              case c4 => rw [HOL.out]; omega
              case c5 => simp; omega
              intro v2 w2 o2 gr2 _
              have HO2 := hid (show w2.ownsRow Wr.heap.size 84 2 v2 (Q ++ [(lo, hi')] ++ [(f0, f1)]).length (rgcs (Q ++ [(lo, hi')] ++ [(f0, f1)])) by rw [rgcs_snoc, len_snoc, len_snoc]; exact o2)
              have HB2 := hid (((below_drewN HB.out nq).alloc (by simp; omega) (.cells #[.int .i32 f0, .int .i32 f1] 84)).grown gr2 (by simp; omega) (fun j hj => (HO1.out.lt j hj).1))
              have hl2 : (Q ++ [(lo, hi')] ++ [(f0, f1)]).length ≤ k + 1 := by rw [len_snoc (Q ++ [(lo, hi')]), HOL.out]; omega
              have HBD2 := hid (show ∀ x, x ∈ Q ++ [(lo, hi')] ++ [(f0, f1)] → 0 ≤ x.2 ∧ x.2 ≤ 1114111 from fun x hx => by
                rcases List.mem_append.1 hx with h | h
                · exact HBD.out x h
                · simp at h; subst h; exact ⟨by dsimp only; omega, b3⟩)
              clear o2 gr2
              go_wp2
              go_roundw
              case rel => exact ⟨k + 1, Q ++ [(lo, hi')] ++ [(f0, f1)], by omega, by go_num, HO2, HF2, hl2, HBD2, HB2⟩
              case measure => simp [intOf]; omega
            · have HF2 := hid (HJ.out hc)
              clear HJ HMo
              by_cases hm : hi' < f1
              · have HST := hid (show (wr.setCell ⟨g, n * 2 + 1, none⟩ (.int .i32 f1)).ownsRow Wr.heap.size 84 2 (.slice (some ⟨g, 0, none⟩) (n + 1) oc) (Q ++ [(lo, f1)]).length (rgcs (Q ++ [(lo, f1)])) by
                  have h := row_set2 HO1.out n lo f1 hi' (by rw [HQL.out]; simp)
                  rw [HQL.out, set_last, ← HQL.out] at h
                  exact h)
                have HF3 := hid (show Mid s (Q ++ [(lo, f1)]) (k + 1) by have h := HF2.out; rw [show max hi' f1 = f1 by omega] at h; exact h)
                have hl2 : (Q ++ [(lo, f1)]).length ≤ k + 1 := by have := HQL.out; simp; omega
                have HBD2 := hid (show ∀ x, x ∈ Q ++ [(lo, f1)] → 0 ≤ x.2 ∧ x.2 ≤ 1114111 from fun x hx => by
                  rcases List.mem_append.1 hx with h | h
                  · exact HBD.out x (List.mem_append.2 (Or.inl h))
                  · simp at h; subst h; exact ⟨by dsimp only; omega, b3⟩)
                go_wp2_with fail
                go_quiet (fail)
                go_wp2_with fail
                go_quiet (fail)
                go_wp2
                go_roundw
                case rel => exact ⟨k + 1, Q ++ [(lo, f1)], by omega, by go_num, HST.out, HF3, hl2, HBD2, (below_drewN HB.out _).setCell (p := ⟨g, n * 2 + 1, none⟩) hgB _⟩
                case measure => simp [intOf]; omega
              · have HF3 := hid (show Mid s (Q ++ [(lo, hi')]) (k + 1) by have h := HF2.out; rw [show max hi' f1 = hi' by omega] at h; exact h)
                go_wp2_with fail
                go_quiet (fail)
                go_wp2_with fail
                go_quiet (fail)
                go_wp2
                go_roundw
                case rel => exact ⟨k + 1, Q ++ [(lo, hi')], by omega, by go_num, HO1.out, HF3, by rw [HOL.out]; omega, HBD, below_drewN HB.out _⟩
                case measure => simp [intOf]; omega
        · have HD := hid (HMi.out.done hlt)
          go_wp2
          go_ret
          exact ⟨_, rfl, by rw [← HNR.out, ← HD.out]; exact ownsRow_base2 HO.out HB0.out.size, HB0.out.trans (HB.out.mono HB0.out.size)⟩
end Go.Proofs.YtohhokjlgihbgaaGreatDoor
/- The contract of the document's Is. -/
namespace Go.Proofs.YtohhokjlgihbgaaGreatDoor
open Go.RowKit

/-- A row of the call's own, read as a slice that came in. -/
theorem rdr_row {w : World} {B : Nat} {v : Value} {l : List Rg} (h : w.ownsRow B 84 2 v l.length (rgcs l)) : ∃ ao cap, v = .slice ao l.length cap ∧ RdR w ao l := by
  obtain ⟨ao, cap, e, _, hc⟩ := row_reads h
  refine ⟨ao, cap, e, fun k g hk => ?_⟩
  obtain ⟨b, rfl, h1, h2, h3⟩ := hc k g hk
  have ea : (⟨b, 0, none⟩ : Addr).add (k * 2) = ⟨b, k * 2, none⟩ := by unfold Addr.add; split <;> simp_all
  exact ⟨_, rfl, h1, by rw [ea]; exact h2, by rw [ea]; exact h3⟩
theorem nrm_dec (l : List Rg) : decide (l = nrm l) = nfB 0 l := by
  cases h : nfB 0 l with
  | true => exact decide_eq_true ((nrm_same l).2 ((nfB_iff l 0).1 h))
  | false => exact decide_eq_false (fun e => by
      have := (nfB_iff l 0).2 ((nrm_same l).1 e)
      rw [h] at this; cases this)

set_option maxHeartbeats 1000000 in
theorem ris_any (ao : Option Addr) (ac : Nat) (l : List Rg) (w : World) (ha : RdR w ao l) (hl : l.length ≤ 100000) :
    Calls Tryz.prog 21 #[.slice ao l.length ac] w fun e w' => e = .returned (.bool (nfB 0 l)) ∧ Below w.heap.size w w' := by
  have HA := hid ha
  clear ha
  go_enter Tryz.func21, Tryz.ntmps21
  go_wp2_with fail
  refine (rnorm_any ao ac l _ HA.out hl).mono ?_
  rintro e w1 ⟨v, rfl, o1, b1⟩
  obtain ⟨bo, bc, rfl, hb⟩ := rdr_row o1
  have HB1 := hid b1
  have HR := hid hb
  clear o1 b1 hb
  go_wp2_with fail
  refine (same2_any ao bo ac bc l (nrm l) w1 (HA.out.below HB1.out) HR.out (by omega)).mono ?_
  rintro e w2 ⟨rfl, b2⟩
  have HB2 := hid (HB1.out.trans (b2.mono HB1.out.size))
  rw [nrm_dec]
  go_wp2
  go_ret
  exact ⟨rfl, HB2.out⟩
end Go.Proofs.YtohhokjlgihbgaaGreatDoor
/- The library's sort at nil: nothing is done. -/
namespace Go.Proofs.YtohhokjlgihbgaaGreatDoor
open Go.RowKit
set_option maxRecDepth 100000
set_option maxHeartbeats 1000000
theorem len64_zero (w : World) : Calls Tryz.prog 175 #[.int .u64 0] w fun e w' => e = .returned (.int .i64 0) ∧ w' = w := by
  go_enter Tryz.func175, Tryz.ntmps175
  go_wp2
  go_ret
  exact ⟨by kernel_rfl, rfl⟩
theorem len_zero (w : World) : Calls Tryz.prog 146 #[.int .u64 0] w fun e w' => e = .returned (.int .i64 0) ∧ w' = w := by
  go_enter Tryz.func146, Tryz.ntmps146
  go_wp2_with fail
  refine (len64_zero w).mono ?_
  rintro e w2 ⟨rfl, h⟩
  obtain rfl := h.symm
  go_wp2
  go_ret
  exact ⟨rfl, rfl⟩
theorem insertion_nil (f : Value) (w : World) : Calls Tryz.prog 166 #[.slice none 0 0, .int .i64 0, .int .i64 0, f] w fun e w' => e = .returned (.tuple #[]) ∧ w' = w := by
  go_enter Tryz.func166, Tryz.ntmps166
  go_wp2
  go_loopw [8] (fun i wr => i = .int .i64 1 ∧ wr = w) (fun _ _ => 0)
  case atStart => exact ⟨rfl, rfl⟩
  case round =>
    obtain ⟨rfl, h⟩ := hrel
    obtain rfl := h.symm
    go_wp2
    exact bodyPost_end (results_none rfl _ _ _) rfl ⟨rfl, rfl⟩
theorem pdq_nil (n : Int) (f : Value) (w : World) : Calls Tryz.prog 145 #[.slice none 0 0, .int .i64 0, .int .i64 0, .int .i64 n, f] w fun e w' => e = .returned (.tuple #[]) ∧ w' = w := by
  go_enter Tryz.func145, Tryz.ntmps145
  go_wp2
  go_loopw [1, 2] (fun a b wr => a = .int .i64 0 ∧ b = .int .i64 0 ∧ wr = w) (fun _ _ _ => 0)
  case atStart => exact ⟨rfl, rfl, rfl⟩
  case round =>
    obtain ⟨rfl, rfl, h⟩ := hrel
    obtain rfl := h.symm
    go_wp2_with fail
    refine (insertion_nil f w).mono ?_
    rintro e w2 ⟨rfl, h⟩
    obtain rfl := h.symm
    go_wp2
    exact bodyPost_ret (results_none rfl _ _ _) rfl ⟨rfl, rfl⟩
theorem sort_nil (f : Value) (w : World) : Calls Tryz.prog 126 #[.slice none 0 0, f] w fun e w' => e = .returned (.tuple #[]) ∧ w' = w := by
  go_enter Tryz.func126, Tryz.ntmps126
  go_wp2_with fail
  refine (len_zero w).mono ?_
  rintro e w2 ⟨rfl, h⟩
  obtain rfl := h.symm
  go_wp2_with fail
  refine (pdq_nil 0 f w).mono ?_
  rintro e w2 ⟨rfl, h⟩
  obtain rfl := h.symm
  go_wp2
  exact bodyPost_end (results_none rfl _ _ _) rfl ⟨rfl, rfl⟩
end Go.Proofs.YtohhokjlgihbgaaGreatDoor
/- The contract of sorted (package runes), by what the library's sort does. -/
namespace Go.Proofs.YtohhokjlgihbgaaGreatDoor
open Go.RowKit

/-- What the library's sort does with a row of the call's own. -/
def SortSays : Prop := ∀ (B g cap : Nat) (l : List Rg) (w : World), w.ownsRow B 84 2 (.slice (some ⟨g, 0, none⟩) l.length cap) l.length (rgcs l) → B ≤ w.heap.size → B ≤ g → g < w.heap.size → l.length ≤ 1000000 → (∀ x, x ∈ l → 0 ≤ x.1 ∧ x.1 ≤ x.2 ∧ x.2 ≤ top) →
    Calls Tryz.prog 126 #[.slice (some ⟨g, 0, none⟩) l.length cap, .func (.func 127) #[] #[]] w fun e w' => e = .returned (.tuple #[]) ∧ ∃ s : List Rg, s.length = l.length ∧ srt 0 s ∧ (∀ r, isin r s ↔ isin r l) ∧ RdR w' (some ⟨g, 0, none⟩) s ∧ Below B w w'

theorem step_snoc {l s : List Rg} {k : Nat} {c0 c1 : Int} (hk : k < l.length) (h : ∀ r, isin r s ↔ means r (l.take k)) (hc : ∀ r, (c0 ≤ r ∧ r ≤ c1) ↔ (0 ≤ r ∧ r ≤ top ∧ l[k].1 ≤ r ∧ r ≤ l[k].2)) :
    ∀ r, isin r (s ++ [(c0, c1)]) ↔ means r (l.take (k + 1)) := fun r => by
  rw [isin_app, means_take l k hk, h r]
  show _ ∨ ((c0 ≤ r ∧ r ≤ c1) ∨ False) ↔ _
  rw [or_false, hc r]
def vld (s : List Rg) : Prop := ∀ x, x ∈ s → 0 ≤ x.1 ∧ x.1 ≤ x.2 ∧ x.2 ≤ top
theorem vld_snoc {s : List Rg} {c0 c1 : Int} (h : vld s) (h0 : 0 ≤ c0) (h1 : c0 ≤ c1) (h2 : c1 ≤ top) : vld (s ++ [(c0, c1)]) := fun x hx => by
  rcases List.mem_append.1 hx with h' | h'
  · exact h x h'
  · simp at h'; subst h'; exact ⟨h0, h1, h2⟩

set_option maxRecDepth 100000 in
set_option maxHeartbeats 3000000 in
theorem sorted_of (hsort : SortSays) (ao : Option Addr) (ac : Nat) (l : List Rg) (w : World) (ha : RdR w ao l) (hl : l.length ≤ 100000) :
    Calls Tryz.prog 107 #[.slice ao l.length ac] w fun e w' => ∃ (so : Option Addr) (sc : Nat) (s : List Rg), e = .returned (.slice so s.length sc) ∧ srt 0 s ∧ (∀ r, isin r s ↔ means r l) ∧ s.length ≤ l.length ∧ RdR w' so s ∧ Below w.heap.size w w' := by
  obtain ⟨i0, hi, hz0, hz1, hz2⟩ := info_parts Tryz.info84
  have HA := hid ha
  have HSO := hid hsort
  clear ha hsort
  go_enter Tryz.func107, Tryz.ntmps107
  go_wp2
  go_loopw [3, 8] (fun v i wr => ∃ (k : Nat) (s : List Rg), k ≤ l.length ∧ i = .int .i64 k ∧ Hid (wr.ownsRow w.heap.size 84 2 v s.length (rgcs s)) ∧ Hid (vld s) ∧ Hid (∀ r, isin r s ↔ means r (l.take k)) ∧ s.length ≤ k ∧ Below w.heap.size w wr) (fun _ i _ => l.length - (intOf i).toNat)
  case atStart => exact ⟨0, [], by omega, rfl, World.ownsRow_nil _ _ _ _, fun x hx => (by cases hx), fun r => by simp [isin, means], by simp, Below.refl _ _⟩
  case round =>
    obtain ⟨k, s, hk, rfl, HO, HV, HM, hsk, hB⟩ := hrel
    have hws := hB.size
    by_cases hlt : k < l.length
    · obtain ⟨a, rfl, ha, a0, a1⟩ := HA.out.below hB k l[k] (List.getElem?_eq_getElem hlt)
      have HY := hid (fun (c0 c1 : Int) => step_snoc (c0 := c0) (c1 := c1) hlt HM.out)
      have HN := hid (step_no hlt HM.out)
      generalize l[k].1 = z0 at *
      generalize l[k].2 = z1 at *
      obtain ⟨c0, q0⟩ : ∃ c0 : Int, (if z0 < 0 then 0 else z0) = c0 := ⟨_, rfl⟩
      obtain ⟨c1, q1⟩ : ∃ c1 : Int, (if 1114111 < z1 then 1114111 else z1) = c1 := ⟨_, rfl⟩
      have HC0 := hid (show c0 = max z0 0 by rw [← q0]; split <;> omega)
      have HC1 := hid (show c1 = min z1 1114111 by rw [← q1]; split <;> omega)
      by_cases hc : c0 ≤ c1
      · have HY2 := hid (HY.out c0 c1 (fun r => by have := HC0.out; have := HC1.out; unfold top; omega))
        have HV2 := hid (vld_snoc HV.out (by have := HC0.out; omega) hc (by have := HC1.out; unfold top; omega))
        go_wp2_with (at_builtin; refine wpList_append_own _ rfl _ _ 47 rfl w.heap.size 84 i0 (.agg #[.int .i32 0, .int .i32 0]) 2 8 Tryz.underlying47 hi hz0 hz1 hz2 rfl (by decide) _ s.length (rgcs s) rfl ((HO.out.alloc _).alloc _) ⟨wr.heap.size + 1, 0, none⟩ 1 1 (rgc (c0, c1)) rfl rfl ?c1 ?c2 ?c3 ?c4 ?c5 ?_)
        case c1 =>
          have hn := news_r (wr.alloc (.cells #[.int .i32 c0, .int .i32 c1] 84)) (c0, c1) 84
          rw [World.size_alloc] at hn
          exact hn
        case c2 => exact rgc_one _
        case c3 => unfold maxLen; omega
        case c4 => omega
        case c5 => simp; omega
        intro v2 w2 o2 gr2 _
        have HO2 := hid (show w2.ownsRow w.heap.size 84 2 v2 (s ++ [(c0, c1)]).length (rgcs (s ++ [(c0, c1)])) by rw [rgcs_snoc, len_snoc]; exact o2)
        have HB2 := hid (((hB.alloc hB.size (.cells #[.int .i32 c0, .int .i32 c1] 84)).alloc (by simp; omega) (.cells #[.int .i32 c0, .int .i32 c1] 84)).grown gr2 (by simp; omega) (fun j hj => (HO.out.lt j hj).1))
        clear o2 gr2
        go_wp2
        go_roundw
        case rel => exact ⟨k + 1, s ++ [(c0, c1)], by omega, by go_num, HO2, HV2, HY2, by rw [len_snoc]; omega, HB2⟩
        case measure => simp [intOf]; omega
      · have HN2 := hid (HN.out (fun r => by have := HC0.out; have := HC1.out; unfold top; omega))
        go_wp2
        go_roundw
        case rel => exact ⟨k + 1, s, by omega, by go_num, HO.out.alloc _, HV, HN2, by omega, hB.alloc hB.size _⟩
        case measure => simp [intOf]; omega
    · have HM2 := hid (show ∀ r, isin r s ↔ means r l by have h := HM.out; rw [List.take_of_length_le (by omega)] at h; exact h)
      rcases HO.out.2 with ⟨h1, h2⟩ | ⟨g, cap, cur, h1, h2, h3, h4⟩
      · subst h1
        have h0 : s = [] := List.length_eq_zero_iff.1 h2
        go_wp2_with fail
        refine (sort_nil _ wr).mono ?_
        rintro e w2 ⟨rfl, hw⟩
        obtain rfl := hw.symm
        go_wp2
        go_ret
        exact ⟨none, 0, [], rfl, trivial, fun r => by rw [← HM2.out r, h0], by simp, fun k g hk => (by cases hk), hB⟩
      · subst h1
        have hg := (Array.getElem?_eq_some_iff.1 h3).1
        have HS1 := hid (HSO.out w.heap.size g cap s wr HO.out hws h2 hg (by omega) HV.out)
        clear h3 h4
        go_wp2_with fail
        refine HS1.out.mono ?_
        rintro e w2 ⟨rfl, s2, e2, h2s, h2i, h2r, h2b⟩
        have HB2 := hid (hB.trans h2b)
        have HR2 := hid h2r
        have HI2 := hid (show ∀ r, isin r s2 ↔ means r l from fun r => (h2i r).trans (HM2.out r))
        have HS2 := hid h2s
        have HL2 := hid e2
        clear h2s h2i h2r h2b e2
        go_wp2
        go_ret
        exact ⟨some ⟨g, 0, none⟩, cap, s2, by rw [HL2.out]; rfl, HS2.out, HI2.out, by have := HL2.out; omega, HR2.out, HB2.out⟩
end Go.Proofs.YtohhokjlgihbgaaGreatDoor
/- The contract of Norm (package runes): the normal form of what a list means. -/
namespace Go.Proofs.YtohhokjlgihbgaaGreatDoor
open Go.RowKit

set_option maxRecDepth 100000 in
set_option maxHeartbeats 3000000 in
theorem norm_of (hsort : SortSays) (ao : Option Addr) (ac : Nat) (l : List Rg) (w : World) (ha : RdR w ao l) (hl : l.length ≤ 100000) :
    Calls Tryz.prog 83 #[.slice ao l.length ac] w fun e w' => ∃ v, e = .returned v ∧ w'.ownsRow w.heap.size 84 2 v (nrm l).length (rgcs (nrm l)) ∧ Below w.heap.size w w' := by
  obtain ⟨i0, hi, hz0, hz1, hz2⟩ := info_parts Tryz.info84
  have HSO := hid (sorted_of hsort ao ac l w ha hl)
  clear ha hsort
  go_enter Tryz.func83, Tryz.ntmps83
  go_wp2_with fail
  refine HSO.out.mono ?_
  rintro e Wr ⟨so, sc, s, rfl, hS, hM, hsl, hrd, hB⟩
  have HS := hid hS
  have HNR := hid (mrg_nrm hS hM)
  have HRD := hid hrd
  have HB0 := hid hB
  have hws := hB.size
  have hs5 : s.length ≤ 100000 := by omega
  clear hS hM hrd hB HSO hsl
  go_wp2
  go_loopw [3, 10] (fun v i wq => ∃ (k : Nat) (O : List Rg), k ≤ s.length ∧ i = .int .i64 k ∧ Hid (wq.ownsRow Wr.heap.size 84 2 v O.length (rgcs O)) ∧ Hid (Mid s O k) ∧ O.length ≤ k ∧ Hid (∀ g, g ∈ O → 0 ≤ g.2 ∧ g.2 ≤ 1114111) ∧ Hid (Below Wr.heap.size Wr wq)) (fun _ i _ => s.length - (intOf i).toNat)
  case atStart => exact ⟨0, [], by omega, rfl, World.ownsRow_nil _ _ _ _, Mid.start s, by simp, fun g hg => (by cases hg), Below.refl _ _⟩
  case round =>
    obtain ⟨k, O, hk, rfl, HO, HMi, hok, HBD, HB⟩ := hrel
    have hbs := HB.out.size
    by_cases hlt : k < s.length
    · obtain ⟨gs, rfl, hgs, y0, y1⟩ := HRD.out k s[k] (List.getElem?_eq_getElem hlt)
      obtain ⟨b1, b2, b3⟩ := srt_at HS.out (List.getElem?_eq_getElem hlt)
      unfold top at b3
      replace y0 := (HB.out.cell (p := gs.add (k * 2)) (by rw [add_blk]; exact hgs)).trans y0
      replace y1 := (HB.out.cell (p := ⟨(gs.add (k * 2)).block, (gs.add (k * 2)).off + 1, none⟩) (show (gs.add (k * 2)).block < _ by rw [add_blk]; exact hgs)).trans y1
      have i3 : (k : Int) < (s.length : Int) := by omega
      have hgw : gs.block < wr.heap.size := by omega
      rcases HMi.out with ⟨hk0, hO⟩ | ⟨Q, lo, hi', hO, hQ⟩
      · subst hO
        have HFI := hid (show Mid s [s[k]] (k + 1) by subst hk0; exact Mid.first hlt)
        obtain ⟨oo, oc, hu6, _, _⟩ := row_reads HO.out
        subst hu6
        obtain ⟨f0, hf0⟩ : ∃ f0, f0 = s[k].1 := ⟨_, rfl⟩
        obtain ⟨f1, hf1⟩ : ∃ f1, f1 = s[k].2 := ⟨_, rfl⟩
        have HF1 := hid (show Mid s [(f0, f1)] (k + 1) by have e : s[k] = (f0, f1) := Prod.ext hf0.symm hf1.symm; have h := HFI.out; rw [e] at h; exact h)
        rw [← hf0] at y0 b1 b2
        rw [← hf1] at y1 b2 b3
        clear hf0 hf1 HFI hk0 HMi hok HBD
        go_wp2_with fail
        go_quiet (fail)
        go_wp2_with (at_builtin; refine wpList_append_own _ rfl _ _ 47 rfl Wr.heap.size 84 i0 (.agg #[.int .i32 0, .int .i32 0]) 2 8 Tryz.underlying47 hi hz0 hz1 hz2 rfl (by decide) (.slice oo 0 oc) 0 [] rfl (((show wr.ownsRow Wr.heap.size 84 2 (.slice oo 0 oc) 0 [] from HO.out).alloc _).alloc _) ⟨wr.heap.size + 1, 0, none⟩ 1 1 (rgc (f0, f1)) rfl rfl ?c1 ?c2 ?c3 ?c4 ?c5 ?_)
        case c1 =>
          have hn := news_r ((wr.alloc (.cells #[.int .i32 f0, .int .i32 f1] 84)).drewN nq) (f0, f1) 84
          rw [show ((wr.alloc (.cells #[.int .i32 f0, .int .i32 f1] 84)).drewN nq).heap.size = wr.heap.size + 1 by simp] at hn
          exact hn
        case c2 => exact rgc_one _
        case c3 => unfold maxLen; omega
        case c4 => omega
        case c5 => simp; omega
        intro v2 w2 o2 gr2 _
        have HO2 := hid (show w2.ownsRow Wr.heap.size 84 2 v2 [(f0, f1)].length (rgcs [(f0, f1)]) from o2)
        have HB2 := hid (((below_drewN (HB.out.alloc hbs (.cells #[.int .i32 f0, .int .i32 f1] 84)) nq).alloc (by simp; omega) (.cells #[.int .i32 f0, .int .i32 f1] 84)).grown gr2 (by simp; omega) (fun j hj => (HO.out.lt j hj).1))
        clear o2 gr2
        go_wp2
        go_roundw
        case rel => exact ⟨k + 1, [(f0, f1)], by omega, by go_num, HO2, HF1, by simp, fun g hg => (by simp at hg; subst hg; exact ⟨by dsimp only; omega, b3⟩), HB2⟩
        case measure => simp [intOf]; omega
      · subst hO
        obtain ⟨oo, oc, hu6, hog, _⟩ := row_reads HO.out
        obtain ⟨g, hoo, hgB, hgl⟩ := hog (by simp)
        subst hoo
        subst hu6
        obtain ⟨p0, p1⟩ := row_cell HO.out Q.length (lo, hi') (by simp)
        have q1 := row_frozen HO.out (Q.length * 2 + 1)
        have hbd := HBD.out (lo, hi') (by simp)
        obtain ⟨n, hn⟩ : ∃ n, n = Q.length := ⟨_, rfl⟩
        have hOl : (Q ++ [(lo, hi')]).length = n + 1 := by rw [hn]; simp
        have HJ := hid (fun hc => Mid.join hlt hQ hc)
        have HMo := hid (fun hc => Mid.more hlt hQ hc)
        obtain ⟨f0, hf0⟩ : ∃ f0, f0 = s[k].1 := ⟨_, rfl⟩
        obtain ⟨f1, hf1⟩ : ∃ f1, f1 = s[k].2 := ⟨_, rfl⟩
        rw [← hf0] at y0 b1 b2
        rw [← hf1] at y1 b2 b3
        rw [← hn] at p0 p1 q1
        dsimp only at hbd p0 p1
        have es : s[k] = (f0, f1) := Prod.ext hf0.symm hf1.symm
        rw [← hf0, ← hf1] at HJ
        rw [← hf0, es] at HMo
        have HQL := hid hn
        have HOL := hid hOl
        clear hf0 hf1 es hn HMi hQ
        have HO1 := hid (show wr.ownsRow Wr.heap.size 84 2 (.slice (some ⟨g, 0, none⟩) (n + 1) oc) (Q ++ [(lo, hi')]).length (rgcs (Q ++ [(lo, hi')])) by have h := HO.out; rw [hOl] at h ⊢; exact h)
        rw [hOl] at hok ⊢
        clear hOl HO
        have t0 : decide ((n : Int) < 0) = false := decide_eq_false (by omega)
        have esub : ((n : Int) + 1) - 1 = (n : Int) := by omega
        have ewr : IntKind.i64.wrap (n : Int) = (n : Int) := by rw [IntKind.wrap_i64]; omega
        have ew32 : IntKind.i32.wrap (hi' + 1) = hi' + 1 := by rw [IntKind.wrap_i32]; omega
        have i1 : (0 : Int) ≤ (n : Int) := by omega
        have i2 : (n : Int) < (n : Int) + 1 := by omega
        by_cases hc : hi' + 1 < f0
        · have HF2 := hid (HMo.out hc)
          clear HJ HMo
          go_wp2_with fail
          go_quiet (fail)
          go_wp2_with (at_builtin; refine wpList_append_own _ rfl _ _ 47 rfl Wr.heap.size 84 i0 (.agg #[.int .i32 0, .int .i32 0]) 2 8 Tryz.underlying47 hi hz0 hz1 hz2 rfl (by decide) (.slice (some ⟨g, 0, none⟩) (n + 1) oc) (Q ++ [(lo, hi')]).length (rgcs (Q ++ [(lo, hi')])) rfl (((show wr.ownsRow Wr.heap.size 84 2 (.slice (some ⟨g, 0, none⟩) (n + 1) oc) (Q ++ [(lo, hi')]).length (rgcs (Q ++ [(lo, hi')])) from HO1.out).alloc _).alloc _) ⟨wr.heap.size + 1, 0, none⟩ 1 1 (rgc (f0, f1)) rfl rfl ?c1 ?c2 ?c3 ?c4 ?c5 ?_)
          case c1 =>
            have hn := news_r ((wr.alloc (.cells #[.int .i32 f0, .int .i32 f1] 84)).drewN nq) (f0, f1) 84
            rw [show ((wr.alloc (.cells #[.int .i32 f0, .int .i32 f1] 84)).drewN nq).heap.size = wr.heap.size + 1 by simp] at hn
            exact hn
          case c2 => exact rgc_one _
          case c3 => rw [HOL.out]; unfold maxLen; omega
          case c4 => rw [HOL.out]; omega
          case c5 => simp; omega
          intro v2 w2 o2 gr2 _
          have HO2 := hid (show w2.ownsRow Wr.heap.size 84 2 v2 (Q ++ [(lo, hi')] ++ [(f0, f1)]).length (rgcs (Q ++ [(lo, hi')] ++ [(f0, f1)])) by rw [rgcs_snoc, len_snoc, len_snoc]; exact o2)
          have HB2 := hid (((below_drewN (HB.out.alloc hbs (.cells #[.int .i32 f0, .int .i32 f1] 84)) nq).alloc (by simp; omega) (.cells #[.int .i32 f0, .int .i32 f1] 84)).grown gr2 (by simp; omega) (fun j hj => (HO1.out.lt j hj).1))
          have hl2 : (Q ++ [(lo, hi')] ++ [(f0, f1)]).length ≤ k + 1 := by rw [len_snoc (Q ++ [(lo, hi')]), HOL.out]; omega
          have HBD2 := hid (show ∀ x, x ∈ Q ++ [(lo, hi')] ++ [(f0, f1)] → 0 ≤ x.2 ∧ x.2 ≤ 1114111 from fun x hx => by
            rcases List.mem_append.1 hx with h | h
            · exact HBD.out x h
            · simp at h; subst h; exact ⟨by dsimp only; omega, b3⟩)
          clear o2 gr2
          go_wp2
          go_roundw
          case rel => exact ⟨k + 1, Q ++ [(lo, hi')] ++ [(f0, f1)], by omega, by go_num, HO2, HF2, hl2, HBD2, HB2⟩
          case measure => simp [intOf]; omega
        · have HF2 := hid (HJ.out hc)
          clear HJ HMo
          obtain ⟨mx, hmx⟩ : ∃ mx : Int, (if hi' < f1 then f1 else hi') = mx := ⟨_, rfl⟩
          have emx : max hi' f1 = mx := by rw [← hmx]; split <;> omega
          have HST := hid (show ((wr.alloc (.cells #[.int .i32 f0, .int .i32 f1] 84)).setCell ⟨g, n * 2 + 1, none⟩ (.int .i32 mx)).ownsRow Wr.heap.size 84 2 (.slice (some ⟨g, 0, none⟩) (n + 1) oc) (Q ++ [(lo, mx)]).length (rgcs (Q ++ [(lo, mx)])) by
            have h := row_set2 (HO1.out.alloc (.cells #[.int .i32 f0, .int .i32 f1] 84)) n lo mx hi' (by rw [HQL.out]; simp)
            rw [HQL.out, set_last, ← HQL.out] at h
            exact h)
          have HF3 := hid (show Mid s (Q ++ [(lo, mx)]) (k + 1) by have h := HF2.out; rw [emx] at h; exact h)
          have hl2 : (Q ++ [(lo, mx)]).length ≤ k + 1 := by have := HQL.out; simp; omega
          have HBD2 := hid (show ∀ x, x ∈ Q ++ [(lo, mx)] → 0 ≤ x.2 ∧ x.2 ≤ 1114111 from fun x hx => by
            rcases List.mem_append.1 hx with h | h
            · exact HBD.out x (List.mem_append.2 (Or.inl h))
            · simp at h; subst h; exact ⟨by dsimp only; omega, by dsimp only; omega⟩)
          clear emx HF2
          go_wp2_with fail
          go_quiet (fail)
          go_wp2_with fail
          go_region
          go_wp2
          go_roundw
          case rel => exact ⟨k + 1, Q ++ [(lo, mx)], by omega, by go_num, HST.out, HF3, hl2, HBD2, (below_drewN (HB.out.alloc hbs _) _).setCell (p := ⟨g, n * 2 + 1, none⟩) hgB _⟩
          case measure => simp [intOf]; omega
    · have HD := hid (HMi.out.done hlt)
      go_wp2
      go_ret
      exact ⟨_, rfl, by rw [← HNR.out, ← HD.out]; exact ownsRow_base2 HO.out HB0.out.size, HB0.out.trans (HB.out.mono HB0.out.size)⟩
end Go.Proofs.YtohhokjlgihbgaaGreatDoor
