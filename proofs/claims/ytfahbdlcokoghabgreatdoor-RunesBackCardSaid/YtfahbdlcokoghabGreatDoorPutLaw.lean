/- The walk of the document's put. -/
import Derived.Test.YtfahbdlcokoghabGreatDoorPut
namespace Go.Proofs.YtfahbdlcokoghabGreatDoor
open Go.RowKit

theorem news_r (w : World) (g : Rg) (T : TypeId) : ∀ j u, (rgc g)[j]? = some u → (w.alloc (.cells #[.int .i32 g.1, .int .i32 g.2] T)).cell? ((⟨w.heap.size, 0, none⟩ : Addr).add j) = some u := fun j u hj => by
  rw [show (⟨w.heap.size, 0, none⟩ : Addr).add j = ⟨w.heap.size, j, none⟩ by unfold Addr.add; split <;> simp_all]
  rw [cell_of_row _ w.heap.size j #[.int .i32 g.1, .int .i32 g.2] T (0, 0) (show (w.heap.push _)[w.heap.size]? = _ by simp)]
  rw [← hj]
  simp [rgc]

/-- The list with a hole that is filled at a place. -/
def hole (l : List Rg) (i : Nat) (y : Rg) : List Rg := l.take i ++ y :: l.drop i
theorem hole_len (l : List Rg) (i : Nat) (y : Rg) (h : i ≤ l.length) : (hole l i y).length = l.length + 1 := by unfold hole; simp; omega
theorem hole_end (l : List Rg) (y : Rg) : hole l l.length y = l ++ [y] := by unfold hole; simp
theorem hole_get (l : List Rg) (i k : Nat) (y : Rg) (h : i ≤ l.length) (hk : k < i) : (hole l i y)[k]? = l[k]? := by
  unfold hole
  rw [List.getElem?_append_left (by rw [List.length_take]; omega), List.getElem?_take_of_lt hk]
theorem hole_set (l : List Rg) (i : Nat) (y x : Rg) (h : i ≤ l.length) : (hole l i y).set i x = hole l i x := by
  unfold hole
  rw [List.set_append_right _ _ (by rw [List.length_take]; omega)]
  have : i - (l.take i).length = 0 := by rw [List.length_take]; omega
  rw [this]; rfl
theorem hole_step (l : List Rg) (i : Nat) (h : i + 1 ≤ l.length) : hole l (i + 1) l[i] = hole l i l[i] := by
  unfold hole
  rw [List.take_succ_eq_append_getElem (by omega), List.append_assoc, List.drop_eq_getElem_cons (show i < l.length by omega)]
  rfl

theorem hole_at (l : List Rg) (i : Nat) (y : Rg) (h : i ≤ l.length) : (hole l i y)[i]? = some y := by
  unfold hole
  rw [List.getElem?_append_right (by rw [List.length_take]; omega)]
  have : i - (l.take i).length = 0 := by rw [List.length_take]; omega
  rw [this]; rfl
theorem row_cell {w : World} {B g n cap : Nat} {l : List Rg} (h : w.ownsRow B 33 2 (.slice (some ⟨g, 0, none⟩) n cap) l.length (rgcs l)) (k : Nat) (x : Rg) (hk : l[k]? = some x) :
    w.cell? ⟨g, k * 2, none⟩ = some (.int .i32 x.1) ∧ w.cell? ⟨g, k * 2 + 1, none⟩ = some (.int .i32 x.2) := by
  obtain ⟨ao, cap', e, _, hc⟩ := row_reads h
  cases e
  obtain ⟨g', e', _, h1, h2⟩ := hc k x hk
  cases e'
  exact ⟨h1, h2⟩

set_option maxRecDepth 100000 in
set_option maxHeartbeats 3000000 in
theorem put_any (B : Nat) (v : Value) (l : List Rg) (x : Rg) (w : World) (h : w.ownsRow B 33 2 v l.length (rgcs l)) (hB : B ≤ w.heap.size) (hl : l.length ≤ 1000000) :
    Calls Tryz.prog 31 #[v, .agg #[.int .i32 x.1, .int .i32 x.2]] w fun e w' => ∃ (v' : Value) (p : Nat), e = .returned v' ∧ p ≤ l.length ∧ (∀ (j : Nat) (g : Rg), p ≤ j → l[j]? = some g → x.1 < g.1) ∧ (∀ (j : Nat) (g : Rg), j + 1 = p → l[j]? = some g → g.1 ≤ x.1) ∧
      w'.ownsRow B 33 2 v' (hole l p x).length (rgcs (hole l p x)) ∧ Below B w w' := by
  obtain ⟨i0, hi, hz0, hz1, hz2⟩ := info_parts Tryz.info33
  obtain ⟨x0, x1⟩ := x
  go_enter Tryz.func31, Tryz.ntmps31
  go_wp2_with (at_builtin; refine wpList_append_lies _ rfl _ _ 22 rfl B 33 i0 (.agg #[.int .i32 0, .int .i32 0]) 2 8 Tryz.underlying22 hi hz0 hz1 hz2 rfl (by decide) _ _ _ rfl ((h.alloc _).alloc _) ⟨w.heap.size + 1, 0, none⟩ 1 1 (rgc (x0, x1)) rfl rfl ?c1 ?c2 (by decide) ?c3 ?c4 ?c5 (w.heap.size + 1 + 1) (by simp) ?_)
  case c1 =>
    have hn := news_r (w.alloc (.cells #[.int .i32 x0, .int .i32 x1] 33)) (x0, x1) 33
    rw [World.size_alloc] at hn
    exact hn
  case c2 => exact rgc_one _
  case c3 => unfold maxLen; omega
  case c4 => omega
  case c5 => simp; omega
  intro g cap w1 o1 gr1 hlie hg1
  have hb1 : Below B w w1 := (((Below.refl B w).alloc hB _).alloc (by simp; omega) _).grown gr1 (by simp; omega) (fun k hk => (h.lt k hk).1)
  have hbox : w1.heap[w.heap.size]? = some (.cells #[.int .i32 x0, .int .i32 x1] 33 (0, 0)) := by
    rw [gr1.block w.heap.size (by simp; omega) (fun e => by have := (h.lt _ e.symm).2; omega), Below.heap_alloc _ _ _ (by simp)]
    show (w.heap.push _)[w.heap.size]? = _
    simp
  have o1' : w1.ownsRow B 33 2 (.slice (some ⟨g, 0, none⟩) (l.length + 1) cap) (hole l l.length (x0, x1)).length (rgcs (hole l l.length (x0, x1))) := by rw [hole_end, rgcs_snoc, List.length_append]; exact o1
  have hgne : g ≠ w.heap.size := by
    rcases hlie with e | e
    · have := (h.lt g e).2; omega
    · omega
  have hgB : B ≤ g := by
    rcases hlie with e | e
    · exact (h.lt g e).1
    · omega
  have HB1 := hid hb1
  have HBX := hid hbox
  clear hbox hb1 o1 gr1 hlie h hg1
  go_wp2
  go_loopw [5] (fun i wr => ∃ (k : Nat) (y : Rg), k ≤ l.length ∧ i = .int .i64 k ∧ Hid (wr.ownsRow B 33 2 (.slice (some ⟨g, 0, none⟩) (l.length + 1) cap) (hole l k y).length (rgcs (hole l k y))) ∧ Hid (∀ (j : Nat) (z : Rg), k ≤ j → l[j]? = some z → x0 < z.1) ∧ Hid (wr.heap[w.heap.size]? = some (.cells #[.int .i32 x0, .int .i32 x1] 33 (0, 0))) ∧ Hid (Below B w wr)) (fun i _ => (intOf i).toNat)
  case atStart => exact ⟨l.length, (x0, x1), by omega, by go_num, o1', fun j z hj hz => (by rw [List.getElem?_eq_none hj] at hz; cases hz), HBX, HB1⟩
  case round =>
    obtain ⟨k, y, hk, rfl, HO, HG, HX, HB⟩ := hrel
    obtain ⟨p0, p1⟩ := row_cell HO.out k y (hole_at l k y hk)
    have q0 := row_frozen HO.out (k * 2)
    have q1 := row_frozen HO.out (k * 2 + 1)
    have b0 : wr.cell? ⟨w.heap.size, 0, none⟩ = some (.int .i32 x0) := by rw [cell_of_row wr w.heap.size 0 _ 33 (0, 0) HX.out]; rfl
    have b1 : wr.cell? ⟨w.heap.size, 1, none⟩ = some (.int .i32 x1) := by rw [cell_of_row wr w.heap.size 1 _ 33 (0, 0) HX.out]; rfl
    have HFIN := hid (show ((wr.setCell ⟨g, k * 2, none⟩ (.int .i32 x0)).setCell ⟨g, k * 2 + 1, none⟩ (.int .i32 x1)).ownsRow B 33 2 (.slice (some ⟨g, 0, none⟩) (l.length + 1) cap) (hole l k (x0, x1)).length (rgcs (hole l k (x0, x1))) by
      have := row_set HO.out k (x0, x1) (by rw [hole_len l k y hk]; omega)
      rw [hole_set l k y (x0, x1) hk] at this
      exact this)
    by_cases hk0 : k = 0
    · have t0 : decide ((0 : Int) < (k : Int)) = false := by simp; omega
      have t1 : ¬ 0 < k := by omega
      have HK0 := hid hk0
      clear hk0
      go_wp2_with fail
      go_quiet (fail)
      go_wp2
      go_ret
      exact ⟨_, k, rfl, hk, HG.out, fun j z hj => (by have := HK0.out; omega), HFIN.out, ((below_drewN HB.out _).setCell (p := ⟨g, k * 2, none⟩) hgB _).setCell (p := ⟨g, k * 2 + 1, none⟩) hgB _⟩
    · obtain ⟨j, hj⟩ : ∃ j, k = j + 1 := ⟨k - 1, by omega⟩
      have hjl : j < l.length := by omega
      have HLJ := hid (show l[j]? = some l[j] from List.getElem?_eq_getElem hjl)
      obtain ⟨r0, r1⟩ := row_cell HO.out j l[j] (by rw [hole_get l k j y hk (by omega)]; exact HLJ.out)
      have t0 : decide ((0 : Int) < (k : Int)) = true := by simp; omega
      have t1 : 0 < k := by omega
      have esub : (k : Int) - 1 = (j : Int) := by omega
      have ewr : IntKind.i64.wrap ((k : Int) - 1) = (j : Int) := by rw [IntKind.wrap_i64]; omega
      have ewr2 : IntKind.i64.wrap (j : Int) = (j : Int) := by rw [IntKind.wrap_i64]; omega
      have i1 : (0 : Int) ≤ (j : Int) := by omega
      have i2 : (j : Int) < (l.length : Int) + 1 := by omega
      have i3 : (k : Int) < (l.length : Int) + 1 := by omega
      have HSH := hid (show ((wr.setCell ⟨g, k * 2, none⟩ (.int .i32 l[j].1)).setCell ⟨g, k * 2 + 1, none⟩ (.int .i32 l[j].2)).ownsRow B 33 2 (.slice (some ⟨g, 0, none⟩) (l.length + 1) cap) (hole l j l[j]).length (rgcs (hole l j l[j])) by
        have := row_set HO.out k l[j] (by rw [hole_len l k y hk]; omega)
        rw [hole_set l k y l[j] hk] at this
        subst hj
        rw [hole_step l j (by omega)] at this
        exact this)
      have HLJ2 := hid (show ∀ z : Rg, l[j]? = some z → z.1 = l[j].1 from fun z hz => by rw [HLJ.out] at hz; cases hz; rfl)
      have HJ := hid hj
      obtain ⟨ej, hej⟩ : ∃ ej, ej = l[j] := ⟨_, rfl⟩
      rw [← hej] at r0 r1 HSH HLJ2
      clear hej hj hk0 HLJ
      obtain ⟨e0, e1⟩ := ej
      dsimp only at r0 r1 HSH HLJ2
      by_cases hgt : x0 < e0
      · have HXS := hid (show ((wr.setCell ⟨g, k * 2, none⟩ (.int .i32 e0)).setCell ⟨g, k * 2 + 1, none⟩ (.int .i32 e1)).heap[w.heap.size]? = some (.cells #[.int .i32 x0, .int .i32 x1] 33 (0, 0)) from ((Below.heap_setCell _ _ _ _ (show w.heap.size ≠ g from fun e => hgne e.symm)).trans (Below.heap_setCell _ _ _ _ (show w.heap.size ≠ g from fun e => hgne e.symm))).trans HX.out)
        clear HFIN
        go_wp2_with fail
        go_quiet (fail)
        go_wp2
        go_roundw
        case rel => exact ⟨j, (e0, e1), by omega, by go_num, HSH.out, fun jj z hjj hz => (by
          by_cases e : jj = j
          · subst e; rw [HLJ2.out z hz]; exact hgt
          · exact HG.out jj z (by have := HJ.out; omega) hz), HXS.out, ((below_drewN HB.out _).setCell (p := ⟨g, k * 2, none⟩) hgB _).setCell (p := ⟨g, k * 2 + 1, none⟩) hgB _⟩
        case measure => simp [intOf]; have := HJ.out; omega
      · clear HSH
        go_wp2_with fail
        go_quiet (fail)
        clear esub ewr ewr2 i1 i2 t0 r0 r1
        go_wp2
        go_ret
        exact ⟨_, k, rfl, hk, HG.out, fun jj z hjj hz => (by
          have e : jj = j := by have := HJ.out; omega
          subst e; rw [HLJ2.out z hz]; omega), HFIN.out, ((below_drewN HB.out _).setCell (p := ⟨g, k * 2, none⟩) hgB _).setCell (p := ⟨g, k * 2 + 1, none⟩) hgB _⟩
end Go.Proofs.YtfahbdlcokoghabGreatDoor

