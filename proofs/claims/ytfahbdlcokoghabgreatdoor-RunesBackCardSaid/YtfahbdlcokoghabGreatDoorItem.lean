/- The contracts of spelling and item (package runes). -/
import Derived.Test.YtfahbdlcokoghabGreatDoorQuoted
import Derived.Test.YtfahbdlcokoghabGreatDoorRuns2
namespace Go.Proofs.YtfahbdlcokoghabGreatDoor
open Go.RowKit

/-- The rune that is spelled at a place. -/
def spl (l : List UInt8) (p : Nat) : Int × Nat × Int :=
  if pre (l.drop p) [85, 43] = true then cdd l p else if pre (l.drop p) [39] = true then qtd l p else (0, p, 21)
theorem pre_len {l q : List UInt8} (h : pre l q = true) : q.length ≤ l.length := by
  unfold pre at h
  have := congrArg List.length (of_decide_eq_true h)
  rw [List.length_take] at this
  omega

set_option maxHeartbeats 1000000 in
theorem spelling_any (l : List UInt8) (p : Nat) (w : World) (hp : p ≤ l.length) (hl : l.length ≤ 1000000000000) (hT : Lib.Utf8Tabs 3 4 w) (h2 : 5 ≤ w.heap.size) :
    Calls Tryz.prog 30 #[.string ⟨l.toArray⟩, .int .i64 p] w fun e w' => e = .returned (spt (spl l p)) ∧ Below w.heap.size w w' := by
  have HT := hid hT
  clear hT
  have H1 := hid (fun b hb => has67 ((⟨l.toArray⟩ : ByteArray).extract p l.length) (l.drop p) [85, 43] b hb w (ext_drop l p))
  have H2 := hid (fun b hb => has67 ((⟨l.toArray⟩ : ByteArray).extract p l.length) (l.drop p) [39] b hb w (ext_drop l p))
  cases c1 : pre (l.drop p) [85, 43] with
  | true =>
    have HS := hid (show spl l p = cdd l p by unfold spl; rw [if_pos c1])
    have H1' := hid (H1.out true c1)
    have hlen := pre_len c1
    rw [List.length_drop] at hlen
    simp only [List.length_cons, List.length_nil] at hlen
    have HC := hid (coded_any l p w (by omega) hl)
    clear H1 H2 c1
    rw [HS.out]
    generalize cdd l p = y at HC ⊢
    obtain ⟨y1, y2, y3⟩ := y
    unfold spt at *
    clear HS
    go_enter Tryz.func30, Tryz.ntmps30
    go_wp2_with fail
    refine H1'.out.mono ?_
    rintro e w1 ⟨rfl, hw⟩
    obtain rfl := hw.symm
    go_wp2_with fail
    refine HC.out.mono ?_
    rintro e w2 ⟨rfl, hb⟩
    have HB := hid hb
    clear hb
    go_wp2
    go_ret3
    exact ⟨rfl, HB.out⟩
  | false =>
    have H1' := hid (H1.out false c1)
    cases c2 : pre (l.drop p) [39] with
    | true =>
      have HS := hid (show spl l p = qtd l p by unfold spl; rw [if_neg (by rw [c1]; decide), if_pos c2])
      have H2' := hid (H2.out true c2)
      have hlen := pre_len c2
      rw [List.length_drop] at hlen
      simp only [List.length_cons, List.length_nil] at hlen
      have HC := hid (quoted_any l p w (by omega) hl HT.out h2)
      clear H1 H2 c1 c2
      rw [HS.out]
      generalize qtd l p = y at HC ⊢
      obtain ⟨y1, y2, y3⟩ := y
      unfold spt at *
      clear HS
      go_enter Tryz.func30, Tryz.ntmps30
      go_wp2_with fail
      refine H1'.out.mono ?_
      rintro e w1 ⟨rfl, hw⟩
      obtain rfl := hw.symm
      go_wp2_with fail
      refine H2'.out.mono ?_
      rintro e w1 ⟨rfl, hw⟩
      obtain rfl := hw.symm
      go_wp2_with fail
      refine HC.out.mono ?_
      rintro e w2 ⟨rfl, hb⟩
      have HB := hid hb
      clear hb
      go_wp2
      go_ret3
      exact ⟨rfl, HB.out⟩
    | false =>
      have HS := hid (show spl l p = (0, p, 21) by unfold spl; rw [if_neg (by rw [c1]; decide), if_neg (by rw [c2]; decide)])
      have H2' := hid (H2.out false c2)
      clear H1 H2 c1 c2
      go_enter Tryz.func30, Tryz.ntmps30
      go_wp2_with fail
      refine H1'.out.mono ?_
      rintro e w1 ⟨rfl, hw⟩
      obtain rfl := hw.symm
      go_wp2_with fail
      refine H2'.out.mono ?_
      rintro e w1 ⟨rfl, hw⟩
      obtain rfl := hw.symm
      go_wp2
      go_ret3
      exact ⟨by rw [HS.out]; rfl, Below.refl _ _⟩

theorem cdd_le (l : List UInt8) (p : Nat) (hp : p + 2 ≤ l.length) : (cdd l p).2.1 ≤ l.length ∧ 0 ≤ (cdd l p).1 ∧ (cdd l p).1 ≤ 1114111 ∧ ((cdd l p).2.2 = 0 → p < (cdd l p).2.1) ∧ 0 ≤ (cdd l p).2.2 ∧ (cdd l p).2.2 ≤ 33 := by
  have h := hxn_le l (p + 2)
  unfold cdd
  split
  · refine ⟨?_, ?_, ?_, ?_, ?_, ?_⟩ <;> (dsimp only; omega)
  · split
    · refine ⟨?_, ?_, ?_, ?_, ?_, ?_⟩ <;> (dsimp only; omega)
    · refine ⟨?_, ?_, ?_, ?_, ?_, ?_⟩ <;> (dsimp only; omega)
theorem qtd_le (l : List UInt8) (p : Nat) (hp : p + 1 ≤ l.length) : (qtd l p).2.1 ≤ l.length ∧ 0 ≤ (qtd l p).1 ∧ (qtd l p).1 ≤ 1114111 ∧ ((qtd l p).2.2 = 0 → p < (qtd l p).2.1) ∧ 0 ≤ (qtd l p).2.2 ∧ (qtd l p).2.2 ≤ 33 := by
  have h := dec_in (l.drop (p + 1))
  rw [List.length_drop] at h
  unfold qtd
  split
  · refine ⟨?_, ?_, ?_, ?_, ?_, ?_⟩ <;> (dsimp only; omega)
  · rename_i hc
    split
    · refine ⟨?_, ?_, ?_, ?_, ?_, ?_⟩ <;> (dsimp only; omega)
    · have hne : l.drop (p + 1) ≠ [] := fun e => by
        apply hc; left; rw [e]; rfl
      have hr := dec_rune _ hne
      have h3 : ¬ p + 1 + (dec (l.drop (p + 1))).2 = l.length := fun e => hc (.inr (.inl e))
      refine ⟨?_, ?_, ?_, ?_, ?_, ?_⟩ <;> (dsimp only; omega)
theorem spl_le (l : List UInt8) (p : Nat) (hp : p ≤ l.length) : (spl l p).2.1 ≤ l.length ∧ 0 ≤ (spl l p).1 ∧ (spl l p).1 ≤ 1114111 ∧ ((spl l p).2.2 = 0 → p < (spl l p).2.1) ∧ 0 ≤ (spl l p).2.2 ∧ (spl l p).2.2 ≤ 33 := by
  unfold spl
  split
  · rename_i h
    have := pre_len h
    rw [List.length_drop] at this
    simp only [List.length_cons, List.length_nil] at this
    exact cdd_le l p (by omega)
  · split
    · rename_i h
      have := pre_len h
      rw [List.length_drop] at this
      simp only [List.length_cons, List.length_nil] at this
      exact qtd_le l p (by omega)
    · refine ⟨?_, ?_, ?_, ?_, ?_, ?_⟩ <;> (dsimp only; omega)

def itmF (l : List UInt8) (p : Nat) (x : Int × Nat × Int) (y : Nat → Int × Nat × Int) : Rg × Nat × Int :=
  if x.2.2 ≠ 0 then ((0, 0), x.2.1, x.2.2)
  else if x.2.1 = l.length ∨ l.getD x.2.1 0 ≠ 45 then ((x.1, x.1), x.2.1, 0)
  else if (y (x.2.1 + 1)).2.2 ≠ 0 then ((0, 0), (y (x.2.1 + 1)).2.1, (y (x.2.1 + 1)).2.2)
  else if (y (x.2.1 + 1)).1 < x.1 then ((0, 0), p, 20)
  else ((x.1, (y (x.2.1 + 1)).1), (y (x.2.1 + 1)).2.1, 0)
/-- The item at a place. -/
def itm (l : List UInt8) (p : Nat) : Rg × Nat × Int := itmF l p (spl l p) (spl l)
def itt (x : Rg × Nat × Int) : Value := .tuple #[.agg #[.int .i32 x.1.1, .int .i32 x.1.2], .int .i64 (x.2.1 : Nat), .int .i64 x.2.2]

theorem item_cells (w : World) (n : Nat) (a b : Int) (hk : w.heap[n]? = some (.cells #[.int .i32 0, .int .i32 0] 33 (0, 0))) :
    ((w.setCell ⟨n, 0, none⟩ (.int .i32 a)).setCell ⟨n, 1, none⟩ (.int .i32 b)).cell? ⟨n, 0, none⟩ = some (.int .i32 a) ∧ ((w.setCell ⟨n, 0, none⟩ (.int .i32 a)).setCell ⟨n, 1, none⟩ (.int .i32 b)).cell? ⟨n, 1, none⟩ = some (.int .i32 b) := by
  have h1 := Lib.heap_setCell_same (i := 0) hk (.int .i32 a)
  have h2 := Lib.heap_setCell_same (i := 1) h1 (.int .i32 b)
  exact ⟨by rw [cell_of_row _ n 0 _ 33 (0, 0) h2]; rfl, by rw [cell_of_row _ n 1 _ 33 (0, 0) h2]; rfl⟩

set_option maxHeartbeats 2000000 in
theorem item_any (l : List UInt8) (p : Nat) (w : World) (hp : p ≤ l.length) (hl : l.length ≤ 1000000000000) (hT : Lib.Utf8Tabs 3 4 w) (h2 : 5 ≤ w.heap.size) :
    Calls Tryz.prog 20 #[.string ⟨l.toArray⟩, .int .i64 p] w fun e w' => e = .returned (itt (itm l p)) ∧ Below w.heap.size w w' := by
  have HT := hid hT
  have HSZ := hid (show (⟨l.toArray⟩ : ByteArray).size = l.length by show l.toArray.size = _; simp)
  have hbA : Below w.heap.size w (w.alloc (.cells #[.int .i32 0, .int .i32 0] 33)) := (Below.refl _ _).alloc (Nat.le_refl _) _
  have hkA := World.alloc_heap_new w (.cells #[.int .i32 0, .int .i32 0] 33)
  obtain ⟨wA, hwA⟩ : ∃ wA, wA = w.alloc (.cells #[.int .i32 0, .int .i32 0] 33) := ⟨_, rfl⟩
  have hsA : wA.heap.size = w.heap.size + 1 := by rw [hwA]; simp
  rw [← hwA] at hbA hkA
  have hTA := tabs_below hT h2 hbA
  have HTA := hid hTA
  have HS1 := hid (spelling_any l p wA hp hl hTA (by omega))
  clear hTA
  have HS2 := hid (fun q hq w' hT' h2' => spelling_any l q w' hq hl hT' h2')
  obtain ⟨b1, b2, b3, b4, b5, b6⟩ := spl_le l p hp
  have HL2 := hid (fun q hq => spl_le l q hq)
  have HI := hid (show itm l p = itmF l p (spl l p) (spl l) from rfl)
  unfold itmF at HI
  clear hT
  obtain ⟨y, hy⟩ : ∃ y, y = spl l p := ⟨_, rfl⟩
  rw [← hy] at HS1 b1 b2 b3 b4 b5 b6 HI
  clear hy
  obtain ⟨lo, nx, er⟩ := y
  dsimp only at b1 b2 b3 b4 b5 b6
  by_cases c1 : er = 0
  · subst c1
    rw [if_neg (by simp)] at HI
    by_cases c2 : nx = l.length
    · rw [if_pos (.inl c2)] at HI
      subst c2
      clear HS2 HL2
      go_enter Tryz.func20, Tryz.ntmps20
      go_wp2_with fail
      rw [← hwA]
      refine HS1.out.mono ?_
      rintro e w1 ⟨rfl, hb1⟩
      have hk := (hb1.block w.heap.size (by omega)).trans hkA
      have x0 : w1.cell? ⟨w.heap.size, 0, none⟩ = some (.int .i32 0) := by rw [cell_of_row w1 w.heap.size 0 _ 33 (0, 0) hk]; rfl
      have x1 : w1.cell? ⟨w.heap.size, 1, none⟩ = some (.int .i32 0) := by rw [cell_of_row w1 w.heap.size 1 _ 33 (0, 0) hk]; rfl
      have f0 := frozen_of_row w1 w.heap.size 0 _ 33 hk
      have f1 := frozen_of_row w1 w.heap.size 1 _ 33 hk
      have HK := hid hk
      have HB1 := hid (hbA.trans (hb1.mono (by omega)))
      clear hb1 HS1 hk hkA hbA
      unfold spt
      go_wp2
      have hz := item_cells w1 w.heap.size (lo) (lo) HK.out
      refine bodyPost_ret (v := .tuple #[.agg #[.int .i32 (lo), .int .i32 (lo)], .int .i64 ((l.length : Nat)), .int .i64 (0)]) (by simp [results, Tryz.results20, go_sem, hz.1, hz.2]) rfl ⟨by rw [HI.out]; rfl, (HB1.out.setCell (p := ⟨w.heap.size, 0, none⟩) (Nat.le_refl _) _).setCell (p := ⟨w.heap.size, 1, none⟩) (Nat.le_refl _) _⟩
    · have hlt : nx < l.length := by omega
      have c2' : ((nx : Int) == (l.length : Int)) = false := beq_eq_false_iff_ne.2 (by omega)
      have hszk : nx < (⟨l.toArray⟩ : ByteArray).size := by rw [HSZ.out]; exact hlt
      have hq : (⟨l.toArray⟩ : ByteArray)[nx]'hszk = l[nx] := rfl
      have hgd : l.getD nx 0 = l[nx] := by simp [List.getD, List.getElem?_eq_getElem hlt]
      dsimp only at HI
      rw [hgd] at HI
      generalize l[nx] = c at *
      by_cases c3 : c = 45
      · subst c3
        rw [if_neg (by simp [c2])] at HI
        have HS2' := hid (fun w' hT' h2' => HS2.out (nx + 1) (by omega) w' hT' h2')
        obtain ⟨d1, d2, d3, d4, d5, d6⟩ := HL2.out (nx + 1) (by omega)
        clear HS2 HL2
        obtain ⟨z, hz⟩ : ∃ z, z = spl l (nx + 1) := ⟨_, rfl⟩
        rw [← hz] at HS2' d1 d2 d3 d4 d5 d6 HI
        clear hz hgd
        obtain ⟨hi', nz, ez⟩ := z
        dsimp only at d1 d2 d3 d4 d5 d6 HI
        go_enter Tryz.func20, Tryz.ntmps20
        go_wp2_with fail
        rw [← hwA]
        refine HS1.out.mono ?_
        rintro e w1 ⟨rfl, hb1⟩
        have hk := (hb1.block w.heap.size (by omega)).trans hkA
        have HB1 := hid (hbA.trans (hb1.mono (by omega)))
        have hsz1 := hb1.size
        have HS3 := hid (HS2'.out w1 (tabs_below HTA.out (by omega) hb1) (by omega))
        clear hb1 HS1 HS2' hkA hbA
        unfold spt at *
        go_wp2_with fail
        refine HS3.out.mono ?_
        rintro e w2 ⟨rfl, hb2⟩
        replace hk := (hb2.block w.heap.size (by omega)).trans hk
        have x0 : w2.cell? ⟨w.heap.size, 0, none⟩ = some (.int .i32 0) := by rw [cell_of_row w2 w.heap.size 0 _ 33 (0, 0) hk]; rfl
        have x1 : w2.cell? ⟨w.heap.size, 1, none⟩ = some (.int .i32 0) := by rw [cell_of_row w2 w.heap.size 1 _ 33 (0, 0) hk]; rfl
        have f0 := frozen_of_row w2 w.heap.size 0 _ 33 hk
        have f1 := frozen_of_row w2 w.heap.size 1 _ 33 hk
        have HK := hid hk
        have HB2 := hid (HB1.out.trans (hb2.mono HB1.out.size))
        clear hb2 HS3 hk
        by_cases c4 : ez = 0
        · subst c4
          rw [if_neg (by simp)] at HI
          by_cases c5 : hi' < lo
          · rw [if_pos c5] at HI
            go_wp2
            have hz := item_cells w2 w.heap.size (0) (0) HK.out
            refine bodyPost_ret (v := .tuple #[.agg #[.int .i32 (0), .int .i32 (0)], .int .i64 ((p : Nat)), .int .i64 (20)]) (by simp [results, Tryz.results20, go_sem, hz.1, hz.2]) rfl ⟨by rw [HI.out]; rfl, (HB2.out.setCell (p := ⟨w.heap.size, 0, none⟩) (Nat.le_refl _) _).setCell (p := ⟨w.heap.size, 1, none⟩) (Nat.le_refl _) _⟩
          · rw [if_neg c5] at HI
            go_wp2
            have hz := item_cells w2 w.heap.size (lo) (hi') HK.out
            refine bodyPost_ret (v := .tuple #[.agg #[.int .i32 (lo), .int .i32 (hi')], .int .i64 ((nz : Nat)), .int .i64 (0)]) (by simp [results, Tryz.results20, go_sem, hz.1, hz.2]) rfl ⟨by rw [HI.out]; rfl, (HB2.out.setCell (p := ⟨w.heap.size, 0, none⟩) (Nat.le_refl _) _).setCell (p := ⟨w.heap.size, 1, none⟩) (Nat.le_refl _) _⟩
        · rw [if_pos c4] at HI
          have c4' : (ez == 0) = false := beq_eq_false_iff_ne.2 c4
          go_wp2
          have hz := item_cells w2 w.heap.size (0) (0) HK.out
          refine bodyPost_ret (v := .tuple #[.agg #[.int .i32 (0), .int .i32 (0)], .int .i64 ((nz : Nat)), .int .i64 (ez)]) (by simp [results, Tryz.results20, go_sem, hz.1, hz.2]) rfl ⟨by rw [HI.out]; rfl, (HB2.out.setCell (p := ⟨w.heap.size, 0, none⟩) (Nat.le_refl _) _).setCell (p := ⟨w.heap.size, 1, none⟩) (Nat.le_refl _) _⟩
      · rw [if_pos (.inr c3)] at HI
        have c3' : ((c.toNat : Int) == 45) = false := beq_eq_false_iff_ne.2 (fun e => c3 (UInt8.toNat_inj.1 (by show c.toNat = 45; omega)))
        clear HS2 HL2 hgd c3
        go_enter Tryz.func20, Tryz.ntmps20
        go_wp2_with fail
        rw [← hwA]
        refine HS1.out.mono ?_
        rintro e w1 ⟨rfl, hb1⟩
        have hk := (hb1.block w.heap.size (by omega)).trans hkA
        have x0 : w1.cell? ⟨w.heap.size, 0, none⟩ = some (.int .i32 0) := by rw [cell_of_row w1 w.heap.size 0 _ 33 (0, 0) hk]; rfl
        have x1 : w1.cell? ⟨w.heap.size, 1, none⟩ = some (.int .i32 0) := by rw [cell_of_row w1 w.heap.size 1 _ 33 (0, 0) hk]; rfl
        have f0 := frozen_of_row w1 w.heap.size 0 _ 33 hk
        have f1 := frozen_of_row w1 w.heap.size 1 _ 33 hk
        have HK := hid hk
        have HB1 := hid (hbA.trans (hb1.mono (by omega)))
        clear hb1 HS1 hk hkA hbA
        unfold spt
        go_wp2
        have hz := item_cells w1 w.heap.size (lo) (lo) HK.out
        refine bodyPost_ret (v := .tuple #[.agg #[.int .i32 (lo), .int .i32 (lo)], .int .i64 ((nx : Nat)), .int .i64 (0)]) (by simp [results, Tryz.results20, go_sem, hz.1, hz.2]) rfl ⟨by rw [HI.out]; rfl, (HB1.out.setCell (p := ⟨w.heap.size, 0, none⟩) (Nat.le_refl _) _).setCell (p := ⟨w.heap.size, 1, none⟩) (Nat.le_refl _) _⟩
  · rw [if_pos c1] at HI
    have c1' : (er == 0) = false := beq_eq_false_iff_ne.2 c1
    clear HS2 HL2
    go_enter Tryz.func20, Tryz.ntmps20
    go_wp2_with fail
    rw [← hwA]
    refine HS1.out.mono ?_
    rintro e w1 ⟨rfl, hb1⟩
    have hk := (hb1.block w.heap.size (by omega)).trans hkA
    have x0 : w1.cell? ⟨w.heap.size, 0, none⟩ = some (.int .i32 0) := by rw [cell_of_row w1 w.heap.size 0 _ 33 (0, 0) hk]; rfl
    have x1 : w1.cell? ⟨w.heap.size, 1, none⟩ = some (.int .i32 0) := by rw [cell_of_row w1 w.heap.size 1 _ 33 (0, 0) hk]; rfl
    have f0 := frozen_of_row w1 w.heap.size 0 _ 33 hk
    have f1 := frozen_of_row w1 w.heap.size 1 _ 33 hk
    have HK := hid hk
    have HB1 := hid (hbA.trans (hb1.mono (by omega)))
    clear hb1 HS1 hk hkA hbA
    unfold spt
    go_wp2
    have hz := item_cells w1 w.heap.size (0) (0) HK.out
    refine bodyPost_ret (v := .tuple #[.agg #[.int .i32 (0), .int .i32 (0)], .int .i64 ((nx : Nat)), .int .i64 (er)]) (by simp [results, Tryz.results20, go_sem, hz.1, hz.2]) rfl ⟨by rw [HI.out]; rfl, (HB1.out.setCell (p := ⟨w.heap.size, 0, none⟩) (Nat.le_refl _) _).setCell (p := ⟨w.heap.size, 1, none⟩) (Nat.le_refl _) _⟩
end Go.Proofs.YtfahbdlcokoghabGreatDoor

