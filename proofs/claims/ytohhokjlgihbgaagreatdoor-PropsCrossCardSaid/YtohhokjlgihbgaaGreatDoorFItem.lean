/- The contracts of spelling and item (package runes). -/
import Derived.Test.YtohhokjlgihbgaaGreatDoorFQuoted
import Derived.Test.YtohhokjlgihbgaaGreatDoorFRuns
namespace Go.Proofs.YtohhokjlgihbgaaGreatDoor
open Go.RowKit

/-- The rune that is spelled at a place. -/
def spl (l : List UInt8) (p : Nat) : Int × Nat × Int :=
  if pre (l.drop p) [85, 43] = true then cdd l p else if pre (l.drop p) [39] = true then qtd l p else (0, p, 21)
theorem pre_len {l q : List UInt8} (h : pre l q = true) : q.length ≤ l.length := by
  unfold pre at h
  have := congrArg List.length (of_decide_eq_true h)
  rw [List.length_take] at this
  omega

set_option maxHeartbeats 1000000 in
theorem spelling_any (l : List UInt8) (p : Nat) (w : World) (hp : p ≤ l.length) (hl : l.length ≤ 1000000000000) (hT : Lib.Utf8Tabs 0 1 w) (h2 : 2 ≤ w.heap.size) :
    Calls Tryz.prog 117 #[.string ⟨l.toArray⟩, .int .i64 p] w fun e w' => e = .returned (spt (spl l p)) ∧ Below w.heap.size w w' := by
  have HT := hid hT
  clear hT
  have H1 := hid (fun b hb => has67 ((⟨l.toArray⟩ : ByteArray).extract p l.length) (l.drop p) [85, 43] b hb w (ext_drop l p))
  have H2 := hid (fun b hb => has67 ((⟨l.toArray⟩ : ByteArray).extract p l.length) (l.drop p) [39] b hb w (ext_drop l p))
  cases c1 : pre (l.drop p) [85, 43] with
  | true =>
    have HS := hid (show spl l p = cdd l p by unfold spl; rw [if_pos c1])
    have H1' := hid (H1.out true c1)
    have hlen := pre_len c1
    rw [List.length_drop] at hlen
    simp only [List.length_cons, List.length_nil] at hlen
    have HC := hid (coded_any l p w (by omega) hl)
    clear H1 H2 c1
    rw [HS.out]
    generalize cdd l p = y at HC ⊢
    obtain ⟨y1, y2, y3⟩ := y
    unfold spt at *
    clear HS
    go_enter Tryz.func117, Tryz.ntmps117
    go_wp2_with fail
    refine H1'.out.mono ?_
    rintro e w1 ⟨rfl, hw⟩
    obtain rfl := hw.symm
    go_wp2_with fail
    refine HC.out.mono ?_
    rintro e w2 ⟨rfl, hb⟩
    have HB := hid hb
    clear hb
    go_wp2
    go_ret3
    exact ⟨rfl, HB.out⟩
  | false =>
    have H1' := hid (H1.out false c1)
    cases c2 : pre (l.drop p) [39] with
    | true =>
      have HS := hid (show spl l p = qtd l p by unfold spl; rw [if_neg (by rw [c1]; decide), if_pos c2])
      have H2' := hid (H2.out true c2)
      have hlen := pre_len c2
      rw [List.length_drop] at hlen
      simp only [List.length_cons, List.length_nil] at hlen
      have HC := hid (quoted_any l p w (by omega) hl HT.out h2)
      clear H1 H2 c1 c2
      rw [HS.out]
      generalize qtd l p = y at HC ⊢
      obtain ⟨y1, y2, y3⟩ := y
      unfold spt at *
      clear HS
      go_enter Tryz.func117, Tryz.ntmps117
      go_wp2_with fail
      refine H1'.out.mono ?_
      rintro e w1 ⟨rfl, hw⟩
      obtain rfl := hw.symm
      go_wp2_with fail
      refine H2'.out.mono ?_
      rintro e w1 ⟨rfl, hw⟩
      obtain rfl := hw.symm
      go_wp2_with fail
      refine HC.out.mono ?_
      rintro e w2 ⟨rfl, hb⟩
      have HB := hid hb
      clear hb
      go_wp2
      go_ret3
      exact ⟨rfl, HB.out⟩
    | false =>
      have HS := hid (show spl l p = (0, p, 21) by unfold spl; rw [if_neg (by rw [c1]; decide), if_neg (by rw [c2]; decide)])
      have H2' := hid (H2.out false c2)
      clear H1 H2 c1 c2
      go_enter Tryz.func117, Tryz.ntmps117
      go_wp2_with fail
      refine H1'.out.mono ?_
      rintro e w1 ⟨rfl, hw⟩
      obtain rfl := hw.symm
      go_wp2_with fail
      refine H2'.out.mono ?_
      rintro e w1 ⟨rfl, hw⟩
      obtain rfl := hw.symm
      go_wp2
      go_ret3
      exact ⟨by rw [HS.out]; rfl, Below.refl _ _⟩

theorem cdd_le (l : List UInt8) (p : Nat) (hp : p + 2 ≤ l.length) : (cdd l p).2.1 ≤ l.length ∧ 0 ≤ (cdd l p).1 ∧ (cdd l p).1 ≤ 1114111 ∧ ((cdd l p).2.2 = 0 → p < (cdd l p).2.1) ∧ 0 ≤ (cdd l p).2.2 ∧ (cdd l p).2.2 ≤ 84 := by
  have h := hxn_le l (p + 2)
  unfold cdd
  split
  · refine ⟨?_, ?_, ?_, ?_, ?_, ?_⟩ <;> (dsimp only; omega)
  · split
    · refine ⟨?_, ?_, ?_, ?_, ?_, ?_⟩ <;> (dsimp only; omega)
    · refine ⟨?_, ?_, ?_, ?_, ?_, ?_⟩ <;> (dsimp only; omega)
theorem qtd_le (l : List UInt8) (p : Nat) (hp : p + 1 ≤ l.length) : (qtd l p).2.1 ≤ l.length ∧ 0 ≤ (qtd l p).1 ∧ (qtd l p).1 ≤ 1114111 ∧ ((qtd l p).2.2 = 0 → p < (qtd l p).2.1) ∧ 0 ≤ (qtd l p).2.2 ∧ (qtd l p).2.2 ≤ 84 := by
  have h := dec_in (l.drop (p + 1))
  rw [List.length_drop] at h
  unfold qtd
  split
  · refine ⟨?_, ?_, ?_, ?_, ?_, ?_⟩ <;> (dsimp only; omega)
  · rename_i hc
    split
    · refine ⟨?_, ?_, ?_, ?_, ?_, ?_⟩ <;> (dsimp only; omega)
    · have hne : l.drop (p + 1) ≠ [] := fun e => by
        apply hc; left; rw [e]; rfl
      have hr := dec_rune _ hne
      have h3 : ¬ p + 1 + (dec (l.drop (p + 1))).2 = l.length := fun e => hc (.inr (.inl e))
      refine ⟨?_, ?_, ?_, ?_, ?_, ?_⟩ <;> (dsimp only; omega)
theorem spl_le (l : List UInt8) (p : Nat) (hp : p ≤ l.length) : (spl l p).2.1 ≤ l.length ∧ 0 ≤ (spl l p).1 ∧ (spl l p).1 ≤ 1114111 ∧ ((spl l p).2.2 = 0 → p < (spl l p).2.1) ∧ 0 ≤ (spl l p).2.2 ∧ (spl l p).2.2 ≤ 84 := by
  unfold spl
  split
  · rename_i h
    have := pre_len h
    rw [List.length_drop] at this
    simp only [List.length_cons, List.length_nil] at this
    exact cdd_le l p (by omega)
  · split
    · rename_i h
      have := pre_len h
      rw [List.length_drop] at this
      simp only [List.length_cons, List.length_nil] at this
      exact qtd_le l p (by omega)
    · refine ⟨?_, ?_, ?_, ?_, ?_, ?_⟩ <;> (dsimp only; omega)

def itmF (l : List UInt8) (p : Nat) (x : Int × Nat × Int) (y : Nat → Int × Nat × Int) : Rg × Nat × Int :=
  if x.2.2 ≠ 0 then ((0, 0), x.2.1, x.2.2)
  else if x.2.1 = l.length ∨ l.getD x.2.1 0 ≠ 45 then ((x.1, x.1), x.2.1, 0)
  else if (y (x.2.1 + 1)).2.2 ≠ 0 then ((0, 0), (y (x.2.1 + 1)).2.1, (y (x.2.1 + 1)).2.2)
  else if (y (x.2.1 + 1)).1 < x.1 then ((0, 0), p, 20)
  else ((x.1, (y (x.2.1 + 1)).1), (y (x.2.1 + 1)).2.1, 0)
/-- The item at a place. -/
def itm (l : List UInt8) (p : Nat) : Rg × Nat × Int := itmF l p (spl l p) (spl l)
def itt (x : Rg × Nat × Int) : Value := .tuple #[.agg #[.int .i32 x.1.1, .int .i32 x.1.2], .int .i64 (x.2.1 : Nat), .int .i64 x.2.2]

theorem item_cells (w : World) (n : Nat) (a b : Int) (hk : w.heap[n]? = some (.cells #[.int .i32 0, .int .i32 0] 84 (0, 0))) :
    ((w.setCell ⟨n, 0, none⟩ (.int .i32 a)).setCell ⟨n, 1, none⟩ (.int .i32 b)).cell? ⟨n, 0, none⟩ = some (.int .i32 a) ∧ ((w.setCell ⟨n, 0, none⟩ (.int .i32 a)).setCell ⟨n, 1, none⟩ (.int .i32 b)).cell? ⟨n, 1, none⟩ = some (.int .i32 b) := by
  have h1 := Lib.heap_setCell_same (i := 0) hk (.int .i32 a)
  have h2 := Lib.heap_setCell_same (i := 1) h1 (.int .i32 b)
  exact ⟨by rw [cell_of_row _ n 0 _ 84 (0, 0) h2]; rfl, by rw [cell_of_row _ n 1 _ 84 (0, 0) h2]; rfl⟩

set_option maxHeartbeats 2000000 in
theorem item_any (l : List UInt8) (p : Nat) (w : World) (hp : p ≤ l.length) (hl : l.length ≤ 1000000000000) (hT : Lib.Utf8Tabs 0 1 w) (h2 : 2 ≤ w.heap.size) :
    Calls Tryz.prog 97 #[.string ⟨l.toArray⟩, .int .i64 p] w fun e w' => e = .returned (itt (itm l p)) ∧ Below w.heap.size w w' := by
  have HT := hid hT
  have HSZ := hid (show (⟨l.toArray⟩ : ByteArray).size = l.length by show l.toArray.size = _; simp)
  have hbA : Below w.heap.size w (w.alloc (.cells #[.int .i32 0, .int .i32 0] 84)) := (Below.refl _ _).alloc (Nat.le_refl _) _
  have hkA := World.alloc_heap_new w (.cells #[.int .i32 0, .int .i32 0] 84)
  obtain ⟨wA, hwA⟩ : ∃ wA, wA = w.alloc (.cells #[.int .i32 0, .int .i32 0] 84) := ⟨_, rfl⟩
  have hsA : wA.heap.size = w.heap.size + 1 := by rw [hwA]; simp
  rw [← hwA] at hbA hkA
  have hTA := tabs_below hT h2 hbA
  have HTA := hid hTA
  have HS1 := hid (spelling_any l p wA hp hl hTA (by omega))
  clear hTA
  have HS2 := hid (fun q hq w' hT' h2' => spelling_any l q w' hq hl hT' h2')
  obtain ⟨b1, b2, b3, b4, b5, b6⟩ := spl_le l p hp
  have HL2 := hid (fun q hq => spl_le l q hq)
  have HI := hid (show itm l p = itmF l p (spl l p) (spl l) from rfl)
  unfold itmF at HI
  clear hT
  obtain ⟨y, hy⟩ : ∃ y, y = spl l p := ⟨_, rfl⟩
  rw [← hy] at HS1 b1 b2 b3 b4 b5 b6 HI
  clear hy
  obtain ⟨lo, nx, er⟩ := y
  dsimp only at b1 b2 b3 b4 b5 b6
  by_cases c1 : er = 0
  · subst c1
    rw [if_neg (by simp)] at HI
    by_cases c2 : nx = l.length
    · rw [if_pos (.inl c2)] at HI
      subst c2
      clear HS2 HL2
      go_enter Tryz.func97, Tryz.ntmps97
      go_wp2_with fail
      rw [← hwA]
      refine HS1.out.mono ?_
      rintro e w1 ⟨rfl, hb1⟩
      have hk := (hb1.block w.heap.size (by omega)).trans hkA
      have x0 : w1.cell? ⟨w.heap.size, 0, none⟩ = some (.int .i32 0) := by rw [cell_of_row w1 w.heap.size 0 _ 84 (0, 0) hk]; rfl
      have x1 : w1.cell? ⟨w.heap.size, 1, none⟩ = some (.int .i32 0) := by rw [cell_of_row w1 w.heap.size 1 _ 84 (0, 0) hk]; rfl
      have f0 := frozen_of_row w1 w.heap.size 0 _ 84 hk
      have f1 := frozen_of_row w1 w.heap.size 1 _ 84 hk
      have HK := hid hk
      have HB1 := hid (hbA.trans (hb1.mono (by omega)))
      clear hb1 HS1 hk hkA hbA
      unfold spt
      go_wp2
      have hz := item_cells w1 w.heap.size (lo) (lo) HK.out
      refine bodyPost_ret (v := .tuple #[.agg #[.int .i32 (lo), .int .i32 (lo)], .int .i64 ((l.length : Nat)), .int .i64 (0)]) (by simp [results, Tryz.results97, go_sem, hz.1, hz.2]) rfl ⟨by rw [HI.out]; rfl, (HB1.out.setCell (p := ⟨w.heap.size, 0, none⟩) (Nat.le_refl _) _).setCell (p := ⟨w.heap.size, 1, none⟩) (Nat.le_refl _) _⟩
    · have hlt : nx < l.length := by omega
      have c2' : ((nx : Int) == (l.length : Int)) = false := beq_eq_false_iff_ne.2 (by omega)
      have hszk : nx < (⟨l.toArray⟩ : ByteArray).size := by rw [HSZ.out]; exact hlt
      have hq : (⟨l.toArray⟩ : ByteArray)[nx]'hszk = l[nx] := rfl
      have hgd : l.getD nx 0 = l[nx] := by simp [List.getD, List.getElem?_eq_getElem hlt]
      dsimp only at HI
      rw [hgd] at HI
      generalize l[nx] = c at *
      by_cases c3 : c = 45
      · subst c3
        rw [if_neg (by simp [c2])] at HI
        have HS2' := hid (fun w' hT' h2' => HS2.out (nx + 1) (by omega) w' hT' h2')
        obtain ⟨d1, d2, d3, d4, d5, d6⟩ := HL2.out (nx + 1) (by omega)
        clear HS2 HL2
        obtain ⟨z, hz⟩ : ∃ z, z = spl l (nx + 1) := ⟨_, rfl⟩
        rw [← hz] at HS2' d1 d2 d3 d4 d5 d6 HI
        clear hz hgd
        obtain ⟨hi', nz, ez⟩ := z
        dsimp only at d1 d2 d3 d4 d5 d6 HI
        go_enter Tryz.func97, Tryz.ntmps97
        go_wp2_with fail
        rw [← hwA]
        refine HS1.out.mono ?_
        rintro e w1 ⟨rfl, hb1⟩
        have hk := (hb1.block w.heap.size (by omega)).trans hkA
        have HB1 := hid (hbA.trans (hb1.mono (by omega)))
        have hsz1 := hb1.size
        have HS3 := hid (HS2'.out w1 (tabs_below HTA.out (by omega) hb1) (by omega))
        clear hb1 HS1 HS2' hkA hbA
        unfold spt at *
        go_wp2_with fail
        refine HS3.out.mono ?_
        rintro e w2 ⟨rfl, hb2⟩
        replace hk := (hb2.block w.heap.size (by omega)).trans hk
        have x0 : w2.cell? ⟨w.heap.size, 0, none⟩ = some (.int .i32 0) := by rw [cell_of_row w2 w.heap.size 0 _ 84 (0, 0) hk]; rfl
        have x1 : w2.cell? ⟨w.heap.size, 1, none⟩ = some (.int .i32 0) := by rw [cell_of_row w2 w.heap.size 1 _ 84 (0, 0) hk]; rfl
        have f0 := frozen_of_row w2 w.heap.size 0 _ 84 hk
        have f1 := frozen_of_row w2 w.heap.size 1 _ 84 hk
        have HK := hid hk
        have HB2 := hid (HB1.out.trans (hb2.mono HB1.out.size))
        clear hb2 HS3 hk
        by_cases c4 : ez = 0
        · subst c4
          rw [if_neg (by simp)] at HI
          by_cases c5 : hi' < lo
          · rw [if_pos c5] at HI
            go_wp2
            have hz := item_cells w2 w.heap.size (0) (0) HK.out
            refine bodyPost_ret (v := .tuple #[.agg #[.int .i32 (0), .int .i32 (0)], .int .i64 ((p : Nat)), .int .i64 (20)]) (by simp [results, Tryz.results97, go_sem, hz.1, hz.2]) rfl ⟨by rw [HI.out]; rfl, (HB2.out.setCell (p := ⟨w.heap.size, 0, none⟩) (Nat.le_refl _) _).setCell (p := ⟨w.heap.size, 1, none⟩) (Nat.le_refl _) _⟩
          · rw [if_neg c5] at HI
            go_wp2
            have hz := item_cells w2 w.heap.size (lo) (hi') HK.out
            refine bodyPost_ret (v := .tuple #[.agg #[.int .i32 (lo), .int .i32 (hi')], .int .i64 ((nz : Nat)), .int .i64 (0)]) (by simp [results, Tryz.results97, go_sem, hz.1, hz.2]) rfl ⟨by rw [HI.out]; rfl, (HB2.out.setCell (p := ⟨w.heap.size, 0, none⟩) (Nat.le_refl _) _).setCell (p := ⟨w.heap.size, 1, none⟩) (Nat.le_refl _) _⟩
        · rw [if_pos c4] at HI
          have c4' : (ez == 0) = false := beq_eq_false_iff_ne.2 c4
          go_wp2
          have hz := item_cells w2 w.heap.size (0) (0) HK.out
          refine bodyPost_ret (v := .tuple #[.agg #[.int .i32 (0), .int .i32 (0)], .int .i64 ((nz : Nat)), .int .i64 (ez)]) (by simp [results, Tryz.results97, go_sem, hz.1, hz.2]) rfl ⟨by rw [HI.out]; rfl, (HB2.out.setCell (p := ⟨w.heap.size, 0, none⟩) (Nat.le_refl _) _).setCell (p := ⟨w.heap.size, 1, none⟩) (Nat.le_refl _) _⟩
      · rw [if_pos (.inr c3)] at HI
        have c3' : ((c.toNat : Int) == 45) = false := beq_eq_false_iff_ne.2 (fun e => c3 (UInt8.toNat_inj.1 (by show c.toNat = 45; omega)))
        clear HS2 HL2 hgd c3
        go_enter Tryz.func97, Tryz.ntmps97
        go_wp2_with fail
        rw [← hwA]
        refine HS1.out.mono ?_
        rintro e w1 ⟨rfl, hb1⟩
        have hk := (hb1.block w.heap.size (by omega)).trans hkA
        have x0 : w1.cell? ⟨w.heap.size, 0, none⟩ = some (.int .i32 0) := by rw [cell_of_row w1 w.heap.size 0 _ 84 (0, 0) hk]; rfl
        have x1 : w1.cell? ⟨w.heap.size, 1, none⟩ = some (.int .i32 0) := by rw [cell_of_row w1 w.heap.size 1 _ 84 (0, 0) hk]; rfl
        have f0 := frozen_of_row w1 w.heap.size 0 _ 84 hk
        have f1 := frozen_of_row w1 w.heap.size 1 _ 84 hk
        have HK := hid hk
        have HB1 := hid (hbA.trans (hb1.mono (by omega)))
        clear hb1 HS1 hk hkA hbA
        unfold spt
        go_wp2
        have hz := item_cells w1 w.heap.size (lo) (lo) HK.out
        refine bodyPost_ret (v := .tuple #[.agg #[.int .i32 (lo), .int .i32 (lo)], .int .i64 ((nx : Nat)), .int .i64 (0)]) (by simp [results, Tryz.results97, go_sem, hz.1, hz.2]) rfl ⟨by rw [HI.out]; rfl, (HB1.out.setCell (p := ⟨w.heap.size, 0, none⟩) (Nat.le_refl _) _).setCell (p := ⟨w.heap.size, 1, none⟩) (Nat.le_refl _) _⟩
  · rw [if_pos c1] at HI
    have c1' : (er == 0) = false := beq_eq_false_iff_ne.2 c1
    clear HS2 HL2
    go_enter Tryz.func97, Tryz.ntmps97
    go_wp2_with fail
    rw [← hwA]
    refine HS1.out.mono ?_
    rintro e w1 ⟨rfl, hb1⟩
    have hk := (hb1.block w.heap.size (by omega)).trans hkA
    have x0 : w1.cell? ⟨w.heap.size, 0, none⟩ = some (.int .i32 0) := by rw [cell_of_row w1 w.heap.size 0 _ 84 (0, 0) hk]; rfl
    have x1 : w1.cell? ⟨w.heap.size, 1, none⟩ = some (.int .i32 0) := by rw [cell_of_row w1 w.heap.size 1 _ 84 (0, 0) hk]; rfl
    have f0 := frozen_of_row w1 w.heap.size 0 _ 84 hk
    have f1 := frozen_of_row w1 w.heap.size 1 _ 84 hk
    have HK := hid hk
    have HB1 := hid (hbA.trans (hb1.mono (by omega)))
    clear hb1 HS1 hk hkA hbA
    unfold spt
    go_wp2
    have hz := item_cells w1 w.heap.size (0) (0) HK.out
    refine bodyPost_ret (v := .tuple #[.agg #[.int .i32 (0), .int .i32 (0)], .int .i64 ((nx : Nat)), .int .i64 (er)]) (by simp [results, Tryz.results97, go_sem, hz.1, hz.2]) rfl ⟨by rw [HI.out]; rfl, (HB1.out.setCell (p := ⟨w.heap.size, 0, none⟩) (Nat.le_refl _) _).setCell (p := ⟨w.heap.size, 1, none⟩) (Nat.le_refl _) _⟩
end Go.Proofs.YtohhokjlgihbgaaGreatDoor
/- The contract of Parse (package runes). -/
namespace Go.Proofs.YtohhokjlgihbgaaGreatDoor
open Go.RowKit

theorem itm_le (l : List UInt8) (p : Nat) (hp : p ≤ l.length) : (itm l p).2.1 ≤ l.length ∧ ((itm l p).2.2 = 0 → p < (itm l p).2.1) ∧ 0 ≤ (itm l p).2.2 ∧ (itm l p).2.2 ≤ 84 := by
  obtain ⟨b1, b2, b3, b4, b5, b6⟩ := spl_le l p hp
  unfold itm itmF
  split
  · exact ⟨b1, fun h => b4 h, b5, b6⟩
  · rename_i h0
    have h0' : (spl l p).2.2 = 0 := Classical.not_not.1 h0
    split
    · have := b4 h0'
      refine ⟨?_, ?_, ?_, ?_⟩ <;> (dsimp only; omega)
    · rename_i h1
      have hn : ¬ (spl l p).2.1 = l.length := fun e => h1 (.inl e)
      obtain ⟨d1, d2, d3, d4, d5, d6⟩ := spl_le l ((spl l p).2.1 + 1) (by omega)
      have hb4 := b4 h0'
      split
      · exact ⟨d1, fun h => by have := d4 h; dsimp only; omega, d5, d6⟩
      · rename_i h2
        have h2' : (spl l ((spl l p).2.1 + 1)).2.2 = 0 := Classical.not_not.1 h2
        have hd4 := d4 h2'
        split
        · refine ⟨?_, ?_, ?_, ?_⟩ <;> (dsimp only; omega)
        · refine ⟨?_, ?_, ?_, ?_⟩ <;> (dsimp only; omega)

theorem ownsRow_below {w w' : World} {base : Nat} {e : TypeId} {size : Nat} {v : Value} {n : Nat} {xs : List Value} (h : w.ownsRow base e size v n xs) (hb : Below w.heap.size w w') : w'.ownsRow base e size v n xs := by
  refine ⟨h.1, ?_⟩
  rcases h.2 with h0 | ⟨g, cap, cur, hv, hbg, hg, hr⟩
  · exact .inl h0
  · exact .inr ⟨g, cap, cur, hv, hbg, (hb.block g (Array.getElem?_eq_some_iff.1 hg).1).trans hg, hr⟩
/-- What Parse answers: the list, the error and its place. -/
def parF : Nat → List UInt8 → Nat → List Rg → List Rg × Int × Nat
  | 0, _, _, _ => ([], 0, 0)
  | f + 1, l, p, acc =>
    if p = l.length then (nrm acc, 0, 0)
    else if l.getD p 0 = 32 then parF f l (p + 1) acc
    else if (itm l p).2.2 ≠ 0 then ([], (itm l p).2.2, (itm l p).2.1)
    else if (itm l p).2.1 < l.length ∧ l.getD (itm l p).2.1 0 ≠ 32 then ([], 21, (itm l p).2.1)
    else parF f l (itm l p).2.1 (acc ++ [(itm l p).1])
def par (l : List UInt8) : List Rg × Int × Nat := parF (l.length + 1) l 0 []
/-- Reading so far. -/
def Prs (l : List UInt8) (p : Nat) (acc : List Rg) : Prop := ∃ f, l.length - p < f ∧ parF f l p acc = par l
theorem Prs.start (l : List UInt8) : Prs l 0 [] := ⟨l.length + 1, by omega, rfl⟩
theorem Prs.done {l : List UInt8} {p : Nat} {acc : List Rg} (h : Prs l p acc) (hp : p = l.length) : par l = (nrm acc, 0, 0) := by
  obtain ⟨f, h1, h2⟩ := h
  obtain ⟨f, rfl⟩ : ∃ f', f = f' + 1 := ⟨f - 1, by omega⟩
  rw [← h2, parF, if_pos hp]
theorem Prs.blank {l : List UInt8} {p : Nat} {acc : List Rg} (h : Prs l p acc) (hp : p < l.length) (hb : l.getD p 0 = 32) : Prs l (p + 1) acc := by
  obtain ⟨f, h1, h2⟩ := h
  obtain ⟨f, rfl⟩ : ∃ f', f = f' + 1 := ⟨f - 1, by omega⟩
  rw [parF, if_neg (by omega), if_pos hb] at h2
  exact ⟨f, by omega, h2⟩
theorem Prs.wrong {l : List UInt8} {p : Nat} {acc : List Rg} (h : Prs l p acc) (hp : p < l.length) (hb : l.getD p 0 ≠ 32) (he : (itm l p).2.2 ≠ 0) : par l = ([], (itm l p).2.2, (itm l p).2.1) := by
  obtain ⟨f, h1, h2⟩ := h
  obtain ⟨f, rfl⟩ : ∃ f', f = f' + 1 := ⟨f - 1, by omega⟩
  rw [← h2, parF, if_neg (by omega), if_neg hb, if_pos he]
theorem Prs.stuck {l : List UInt8} {p : Nat} {acc : List Rg} (h : Prs l p acc) (hp : p < l.length) (hb : l.getD p 0 ≠ 32) (he : (itm l p).2.2 = 0) (hs : (itm l p).2.1 < l.length ∧ l.getD (itm l p).2.1 0 ≠ 32) : par l = ([], 21, (itm l p).2.1) := by
  obtain ⟨f, h1, h2⟩ := h
  obtain ⟨f, rfl⟩ : ∃ f', f = f' + 1 := ⟨f - 1, by omega⟩
  rw [← h2, parF, if_neg (by omega), if_neg hb, if_neg (fun e => e he), if_pos hs]
theorem Prs.more {l : List UInt8} {p : Nat} {acc : List Rg} (h : Prs l p acc) (hp : p < l.length) (hb : l.getD p 0 ≠ 32) (he : (itm l p).2.2 = 0) (hs : ¬ ((itm l p).2.1 < l.length ∧ l.getD (itm l p).2.1 0 ≠ 32)) : Prs l (itm l p).2.1 (acc ++ [(itm l p).1]) := by
  obtain ⟨f, h1, h2⟩ := h
  obtain ⟨f, rfl⟩ : ∃ f', f = f' + 1 := ⟨f - 1, by omega⟩
  have hm := (itm_le l p (by omega)).2.1 he
  rw [parF, if_neg (by omega), if_neg hb, if_neg (fun e => e he), if_neg hs] at h2
  exact ⟨f, by omega, h2⟩

set_option maxHeartbeats 2000000 in
set_option maxRecDepth 100000 in
theorem parse_any (l : List UInt8) (w : World) (hl : l.length ≤ 100000) (hT : Lib.Utf8Tabs 0 1 w) (h2 : 2 ≤ w.heap.size) :
    Calls Tryz.prog 67 #[.string ⟨l.toArray⟩] w fun e w' => ∃ v, e = .returned (.tuple #[v, .int .i64 (par l).2.1, .int .i64 ((par l).2.2 : Nat)]) ∧ w'.ownsRow w.heap.size 84 2 v (par l).1.length (rgcs (par l).1) ∧ Below w.heap.size w w' := by
  obtain ⟨i0, hi, hz0, hz1, hz2⟩ := info_parts Tryz.info84
  have HSZ := hid (show (⟨l.toArray⟩ : ByteArray).size = l.length by show l.toArray.size = _; simp)
  have HT := hid hT
  clear hT
  go_enter Tryz.func67, Tryz.ntmps67
  go_wp2
  go_step3
  go_wp2
  go_step3
  go_wp2
  go_loopw [5, 6] (fun v x wq => ∃ (p : Nat) (acc : List Rg), p ≤ l.length ∧ x = .int .i64 p ∧ Hid (wq.ownsRow w.heap.size 84 2 v acc.length (rgcs acc)) ∧ Hid (Prs l p acc) ∧ acc.length ≤ p ∧ Hid (Below w.heap.size w wq)) (fun _ x _ => l.length + 1 - (intOf x).toNat)
  case atStart => exact ⟨0, [], by omega, rfl, World.ownsRow_nil _ _ _ _, Prs.start l, by simp, Below.refl _ _⟩
  case round =>
    obtain ⟨p, acc, hp, rfl, HO, HP, hac, HB⟩ := hrel
    obtain ⟨wo, hwo⟩ : ∃ wo, wo = wr := ⟨_, rfl⟩
    rw [← hwo] at HO HB ⊢
    clear hwo
    go_wp2
    go_loopw [6] (fun x wq => ∃ q : Nat, p ≤ q ∧ q ≤ l.length ∧ x = .int .i64 q ∧ Hid (Prs l q acc) ∧ wq = wo) (fun x _ => l.length + 1 - (intOf x).toNat)
    case atStart => exact ⟨p, by omega, hp, rfl, HP, rfl⟩
    case round =>
      obtain ⟨q, hpq, hq, rfl, HQ, hw⟩ := hrel
      obtain rfl := hw.symm
      by_cases c1 : q = l.length
      · have HD := hid (HQ.out.done c1)
        obtain ⟨so, sc, hv, hrd⟩ := rdr_row HO.out
        subst hv
        have HN := hid (norm_any so sc acc wo hrd (by omega))
        subst c1
        clear hrd
        go_wp2_with fail
        refine HN.out.mono ?_
        rintro e w1 ⟨v1, rfl, o1, hb1⟩
        have HO1 := hid o1
        have HB1 := hid (HB.out.trans (hb1.mono HB.out.size))
        clear o1 hb1 HN
        go_wp2
        try rw [Exit.noGoto_ret]
        go_ret3
        refine ⟨v1, ?_, ?_, HB1.out⟩
        · rw [HD.out]; rfl
        · rw [HD.out]; exact ownsRow_base2 HO1.out HB.out.size
      · have hlt : q < l.length := by omega
        have c1' : ((q : Int) == (l.length : Int)) = false := beq_eq_false_iff_ne.2 (by omega)
        have hszq : q < (⟨l.toArray⟩ : ByteArray).size := by rw [HSZ.out]; exact hlt
        have hbq : (⟨l.toArray⟩ : ByteArray)[q]'hszq = l[q] := rfl
        have hgd : l.getD q 0 = l[q] := by simp [List.getD, List.getElem?_eq_getElem hlt]
        by_cases c2 : l[q] = 32
        · have HQ2 := hid (HQ.out.blank hlt (hgd.trans c2))
          rw [c2] at hbq
          clear hgd c2
          go_wp2
          go_roundw
          case rel => exact ⟨q + 1, by omega, by omega, by go_num, HQ2, trivial⟩
          case measure => simp [intOf]; omega
        · have hg2 : l.getD q 0 ≠ 32 := by rw [hgd]; exact c2
          have HW := hid (HQ.out.wrong hlt hg2)
          have HS := hid (HQ.out.stuck hlt hg2)
          have HM := hid (HQ.out.more hlt hg2)
          have hbs := HB.out.size
          obtain ⟨m1, m2, m3, m4⟩ := itm_le l q hq
          have HI := hid (item_any l q wo hq (by omega) (tabs_below HT.out h2 HB.out) (by omega))
          obtain ⟨c, hc⟩ : ∃ c, c = l[q] := ⟨_, rfl⟩
          rw [← hc] at hbq c2
          have c2' : ((c.toNat : Int) == 32) = false := beq_eq_false_iff_ne.2 (fun e => c2 (UInt8.toNat_inj.1 (by show c.toNat = 32; omega)))
          obtain ⟨y, hy⟩ : ∃ y, y = itm l q := ⟨_, rfl⟩
          rw [← hy] at HW HS HM HI m1 m2 m3 m4
          clear hy hc hgd hg2 c2
          obtain ⟨⟨g0, g1⟩, nx, er⟩ := y
          dsimp only at m1 m2 m3 m4 HW HS HM
          go_wp2_with fail
          refine HI.out.mono ?_
          rintro e w1 ⟨rfl, hb1⟩
          have HB1 := hid (HB.out.trans (hb1.mono hbs))
          have hbs1 := hb1.size
          have HO1 := hid (ownsRow_below HO.out hb1)
          clear hb1 HI
          unfold itt
          dsimp only
          by_cases c3 : er = 0
          · subst c3
            have m2' := m2 rfl
            by_cases c4 : nx < l.length
            · have hszn : nx < (⟨l.toArray⟩ : ByteArray).size := by rw [HSZ.out]; exact c4
              have hbn : (⟨l.toArray⟩ : ByteArray)[nx]'hszn = l[nx] := rfl
              have hgn : l.getD nx 0 = l[nx] := by simp [List.getD, List.getElem?_eq_getElem c4]
              by_cases c5 : l[nx] = 32
              · have HM2 := hid (HM.out rfl (fun h => h.2 (hgn.trans c5)))
                rw [c5] at hbn
                clear HW HS HM hgn c5
                have c4' : (nx : Int) < (l.length : Int) := by omega
                go_wp2_with (at_builtin; refine wpList_append_own _ rfl _ _ 47 rfl w.heap.size 84 i0 (.agg #[.int .i32 0, .int .i32 0]) 2 8 Tryz.underlying47 hi hz0 hz1 hz2 rfl (by decide) _ acc.length (rgcs acc) rfl ((HO1.out.alloc _).alloc _) ⟨w1.heap.size + 1, 0, none⟩ 1 1 (rgc (g0, g1)) rfl rfl ?c1 ?c2 ?c3 ?c4 ?c5 ?_)
                case c1 => exact fun j u h => h
                case c2 => exact rgc_one _
                case c3 => unfold maxLen; omega
                case c4 => omega
                case c5 => omega
                intro v2 w2 o2 gr2 _
                have HO2 := hid (show w2.ownsRow w.heap.size 84 2 v2 (acc ++ [(g0, g1)]).length (rgcs (acc ++ [(g0, g1)])) by rw [rgcs_snoc, len_snoc]; exact o2)
                have HB2 := hid (((HB1.out.alloc (by omega) (.cells #[.int .i32 g0, .int .i32 g1] 84)).alloc (by simp; omega) (.cells #[.int .i32 g0, .int .i32 g1] 84)).grown gr2 (by simp; omega) (fun j hj => (HO1.out.lt j hj).1))
                clear o2 gr2
                go_wp2
                go_roundw
                case rel => exact ⟨nx, acc ++ [(g0, g1)], m1, rfl, HO2, HM2, by rw [len_snoc]; omega, HB2⟩
                case measure => simp [intOf]; omega
              · have HS2 := hid (HS.out rfl ⟨c4, by rw [hgn]; exact c5⟩)
                obtain ⟨d, hd⟩ : ∃ d, d = l[nx] := ⟨_, rfl⟩
                rw [← hd] at hbn c5
                have c5' : ((d.toNat : Int) == 32) = false := beq_eq_false_iff_ne.2 (fun e => c5 (UInt8.toNat_inj.1 (by show d.toNat = 32; omega)))
                have c4' : (nx : Int) < (l.length : Int) := by omega
                clear HW HS HM hgn c5 hd
                go_wp2
                try rw [Exit.noGoto_ret]
                go_ret3
                refine ⟨.slice none 0 0, ?_, ?_, HB1.out.alloc (by omega) _⟩
                · rw [HS2.out]; rfl
                · rw [HS2.out]; exact World.ownsRow_nil _ _ _ _
            · have HM2 := hid (HM.out rfl (fun h => c4 h.1))
              clear HW HS HM
              have c4' : ¬ (nx : Int) < (l.length : Int) := by omega
              go_wp2_with (at_builtin; refine wpList_append_own _ rfl _ _ 47 rfl w.heap.size 84 i0 (.agg #[.int .i32 0, .int .i32 0]) 2 8 Tryz.underlying47 hi hz0 hz1 hz2 rfl (by decide) _ acc.length (rgcs acc) rfl ((HO1.out.alloc _).alloc _) ⟨w1.heap.size + 1, 0, none⟩ 1 1 (rgc (g0, g1)) rfl rfl ?c1 ?c2 ?c3 ?c4 ?c5 ?_)
              case c1 => exact fun j u h => h
              case c2 => exact rgc_one _
              case c3 => unfold maxLen; omega
              case c4 => omega
              case c5 => omega
              intro v2 w2 o2 gr2 _
              have HO2 := hid (show w2.ownsRow w.heap.size 84 2 v2 (acc ++ [(g0, g1)]).length (rgcs (acc ++ [(g0, g1)])) by rw [rgcs_snoc, len_snoc]; exact o2)
              have HB2 := hid (((HB1.out.alloc (by omega) (.cells #[.int .i32 g0, .int .i32 g1] 84)).alloc (by simp; omega) (.cells #[.int .i32 g0, .int .i32 g1] 84)).grown gr2 (by simp; omega) (fun j hj => (HO1.out.lt j hj).1))
              clear o2 gr2
              go_wp2
              go_roundw
              case rel => exact ⟨nx, acc ++ [(g0, g1)], m1, rfl, HO2, HM2, by rw [len_snoc]; omega, HB2⟩
              case measure => simp [intOf]; omega
          · have HW2 := hid (HW.out c3)
            have c3' : (er == 0) = false := beq_eq_false_iff_ne.2 c3
            clear HW HS HM
            go_wp2
            try rw [Exit.noGoto_ret]
            go_ret3
            refine ⟨.slice none 0 0, ?_, ?_, HB1.out.alloc (by omega) _⟩
            · rw [HW2.out]; rfl
            · rw [HW2.out]; exact World.ownsRow_nil _ _ _ _
end Go.Proofs.YtohhokjlgihbgaaGreatDoor
/- The spelling of a set, and that it is read as the set: the mathematics. -/
namespace Go.Proofs.YtohhokjlgihbgaaGreatDoor
open Go.RowKit

/-- A hexadecimal digit, and so many of a number's lowest. -/
def dgU (d : Nat) : UInt8 := UInt8.ofNat (if d < 10 then 48 + d else 55 + d)
def hxL : Nat → Nat → List UInt8
  | 0, _ => []
  | k + 1, n => hxL k (n / 16) ++ [dgU (n % 16)]
theorem dgU_toNat (d : Nat) (h : d < 16) : (dgU d).toNat = if d < 10 then 48 + d else 55 + d := by
  unfold dgU
  split <;> (rw [UInt8.toNat_ofNat']; omega)
theorem dgU_hx (d : Nat) (h : d < 16) : isHx (dgU d) = true := by
  rw [isHx_iff, dgU_toNat d h]
  split <;> omega
theorem dgU_val (d : Nat) (h : d < 16) : hxV (dgU d) = d := by
  unfold hxV
  rw [dgU_toNat d h]
  split <;> split <;> omega
theorem hxL_len : ∀ (k n : Nat), (hxL k n).length = k
  | 0, _ => rfl
  | k + 1, n => by rw [hxL, List.length_append, hxL_len k]; rfl
theorem hxL_cons : ∀ (k n : Nat), hxL (k + 1) n = dgU (n / 16 ^ k % 16) :: hxL k n
  | 0, n => by simp [hxL]
  | k + 1, n => by
    rw [hxL, hxL_cons k (n / 16), hxL, Nat.div_div_eq_div_mul, Nat.pow_succ, Nat.mul_comm (16 ^ k) 16]; rfl
theorem hxL_all : ∀ (k n : Nat), ∀ c ∈ hxL k n, isHx c = true
  | 0, _, c, h => by cases h
  | k + 1, n, c, h => by
    rw [hxL, List.mem_append] at h
    rcases h with h | h
    · exact hxL_all k _ c h
    · simp at h; subst h; exact dgU_hx _ (by omega)
theorem hxs_snoc : ∀ (t : List UInt8) (a : Nat) (c : UInt8), hxs a (t ++ [c]) = hxs a t * 16 + hxV c
  | [], _, _ => rfl
  | x :: t, a, c => by
    show hxs (a * 16 + hxV x) (t ++ [c]) = hxs (a * 16 + hxV x) t * 16 + hxV c
    exact hxs_snoc t _ c
theorem hxL_val : ∀ (k n : Nat), n < 16 ^ k → hxs 0 (hxL k n) = n
  | 0, n, h => by simp at h; subst h; rfl
  | k + 1, n, h => by
    rw [hxL, hxs_snoc, hxL_val k (n / 16) (by rw [Nat.pow_succ] at h; omega), dgU_val _ (by omega)]
    omega
theorem hxL_pad : ∀ (m k n : Nat), n < 16 ^ k → hxL (k + m) n = List.replicate m 48 ++ hxL k n
  | 0, _, _, _ => rfl
  | m + 1, k, n, h => by
    have h2 : n < 16 ^ (k + m) := Nat.lt_of_lt_of_le h (Nat.pow_le_pow_right (by omega) (by omega))
    rw [← Nat.add_assoc, hxL_cons, hxL_pad m k n h, Nat.div_eq_of_lt h2, List.replicate_succ]; rfl
/-- How many digits a rune's number is spelled with. -/
def wdt (n : Nat) : Nat := if n < 65536 then 4 else if n < 1048576 then 5 else 6
def hex (n : Nat) : List UInt8 := hxL (wdt n) n
theorem wdt_bd (n : Nat) : 4 ≤ wdt n ∧ wdt n ≤ 6 := by unfold wdt; split <;> (try split) <;> omega
theorem wdt_pow (n : Nat) (h : n ≤ 1114111) : n < 16 ^ wdt n := by
  unfold wdt
  split
  · show n < 65536; omega
  · split
    · show n < 1048576; omega
    · show n < 16777216; omega
/-- A rune's spelling, a range's, a set's. -/
def cod (n : Nat) : List UInt8 := [85, 43] ++ hex n
theorem cod_len (n : Nat) : (cod n).length = 2 + wdt n := by unfold cod hex; rw [List.length_append, hxL_len]; rfl
def prI (g : Rg) : List UInt8 := cod g.1.toNat ++ if g.1 = g.2 then [] else 45 :: cod g.2.toNat
def prA (a : List UInt8) (l : List Rg) : List UInt8 := l.foldl (fun t g => t ++ ((if t = [] then [] else [32]) ++ prI g)) a
def prt (l : List Rg) : List UInt8 := prA [] l
theorem prt_snoc (l : List Rg) (g : Rg) : prt (l ++ [g]) = prt l ++ ((if prt l = [] then [] else [32]) ++ prI g) := by
  unfold prt prA; rw [List.foldl_append]; rfl
theorem prI_ne (g : Rg) : prI g ≠ [] := by unfold prI cod; simp
theorem prt_ne : ∀ l : List Rg, l ≠ [] → prt l ≠ [] := fun l h => by
  rcases List.eq_nil_or_concat l with rfl | ⟨Q, z, rfl⟩
  · exact absurd rfl h
  · rw [List.concat_eq_append, prt_snoc]
    intro e
    exact prI_ne z (List.append_eq_nil_iff.1 (List.append_eq_nil_iff.1 e).2).2
theorem prt_nil_iff (l : List Rg) : prt l = [] ↔ l = [] := ⟨fun h => Classical.byContradiction fun hl => prt_ne l hl h, fun h => by subst h; rfl⟩

theorem takeWhile_pre (a b : List UInt8) (ha : ∀ c ∈ a, isHx c = true) (hb : ∀ c, b.head? = some c → isHx c = false) : (a ++ b).takeWhile isHx = a := by
  induction a with
  | nil =>
    cases b with
    | nil => rfl
    | cons c b => rw [List.nil_append, List.takeWhile_cons, if_neg (by rw [hb c rfl]; decide)]
  | cons x a ih =>
    rw [List.cons_append, List.takeWhile_cons, if_pos (ha x (by simp)), ih (fun c hc => ha c (by simp [hc]))]
/-- A number that is spelled at a place is read there. -/
theorem spl_cod (p q : List UInt8) (n : Nat) (hn : n ≤ 1114111) (hq : ∀ c, q.head? = some c → isHx c = false) : spl (p ++ (cod n ++ q)) p.length = ((n : Int), p.length + 2 + wdt n, 0) := by
  have hd : (p ++ (cod n ++ q)).drop p.length = cod n ++ q := List.drop_left
  have hd2 : (p ++ (cod n ++ q)).drop (p.length + 2) = hex n ++ q := by rw [← List.drop_drop, hd]; rfl
  have hx : hxn (p ++ (cod n ++ q)) (p.length + 2) = wdt n := by
    unfold hxn
    rw [hd2]
    show ((hxL (wdt n) n ++ q).takeWhile isHx).length = _
    rw [takeWhile_pre _ _ (hxL_all _ _) hq]
    exact hxL_len _ _
  have ht : ((p ++ (cod n ++ q)).drop (p.length + 2)).take (wdt n) = hex n := by
    rw [hd2, List.take_append_of_le_length (by unfold hex; rw [hxL_len]; exact Nat.le_refl _), List.take_of_length_le (by unfold hex; rw [hxL_len]; exact Nat.le_refl _)]
  have hw := wdt_bd n
  have hv : hxs 0 (hex n) = n := hxL_val _ _ (wdt_pow n hn)
  unfold spl
  rw [if_pos (by rw [hd]; rfl)]
  unfold cdd
  rw [hx, if_neg (by omega), ht, hv, if_neg (by omega)]
theorem itm_prI (p q : List UInt8) (g : Rg) (h0 : 0 ≤ g.1) (h1 : g.1 ≤ g.2) (h2 : g.2 ≤ top) (hq : ∀ c, q.head? = some c → c = 32) : itm (p ++ (prI g ++ q)) p.length = (g, p.length + (prI g).length, 0) := by
  unfold top at h2
  have hq2 : ∀ c, q.head? = some c → isHx c = false := fun c hc => by rw [hq c hc]; decide
  by_cases he : g.1 = g.2
  · have e : prI g = cod g.1.toNat := by unfold prI; rw [if_pos he, List.append_nil]
    rw [e]
    have hs := spl_cod p q g.1.toNat (by omega) hq2
    unfold itm itmF
    rw [hs, if_neg (by exact fun h => h rfl)]
    have hc : p.length + 2 + wdt g.1.toNat = (p ++ (cod g.1.toNat ++ q)).length ∨ (p ++ (cod g.1.toNat ++ q)).getD (p.length + 2 + wdt g.1.toNat) 0 ≠ 45 := by
      cases q with
      | nil => left; rw [List.append_nil, List.length_append, cod_len]; omega
      | cons c q =>
        right
        have e2 : p ++ (cod g.1.toNat ++ c :: q) = (p ++ cod g.1.toNat) ++ c :: q := by rw [List.append_assoc]
        rw [e2, List.getD_eq_getElem?_getD, List.getElem?_append_right (by rw [List.length_append, cod_len]; omega)]
        rw [show p.length + 2 + wdt g.1.toNat - (p ++ cod g.1.toNat).length = 0 by rw [List.length_append, cod_len]; omega]
        rw [hq c rfl]
        show (32 : UInt8) ≠ 45
        decide
    rw [if_pos hc, cod_len, Nat.add_assoc]
    have eg : ((g.1.toNat : Nat) : Int) = g.1 := by omega
    dsimp only
    rw [eg]
    exact Prod.ext (Prod.ext rfl he) rfl
  · have e : prI g = cod g.1.toNat ++ 45 :: cod g.2.toNat := by unfold prI; rw [if_neg he]
    have e1 : p ++ (prI g ++ q) = p ++ (cod g.1.toNat ++ (45 :: (cod g.2.toNat ++ q))) := by rw [e]; simp
    have e2 : p ++ (prI g ++ q) = (p ++ (cod g.1.toNat ++ [45])) ++ (cod g.2.toNat ++ q) := by rw [e]; simp
    have hs1 : spl (p ++ (prI g ++ q)) p.length = ((g.1.toNat : Int), p.length + 2 + wdt g.1.toNat, 0) := by
      rw [e1]; exact spl_cod p _ g.1.toNat (by omega) (fun c hc => by cases hc; decide)
    have hl : (p ++ (cod g.1.toNat ++ [45])).length = p.length + 2 + wdt g.1.toNat + 1 := by rw [List.length_append, List.length_append, cod_len]; simp; omega
    have hs2 : spl (p ++ (prI g ++ q)) (p.length + 2 + wdt g.1.toNat + 1) = ((g.2.toNat : Int), p.length + 2 + wdt g.1.toNat + 1 + 2 + wdt g.2.toNat, 0) := by
      have h := spl_cod (p ++ (cod g.1.toNat ++ [45])) q g.2.toNat (by omega) hq2
      rw [← e2, hl] at h
      exact h
    have hge : (p ++ (prI g ++ q)).getD (p.length + 2 + wdt g.1.toNat) 0 = 45 := by
      have e3 : p ++ (prI g ++ q) = (p ++ cod g.1.toNat) ++ (45 :: (cod g.2.toNat ++ q)) := by rw [e1, List.append_assoc]
      rw [e3, List.getD_eq_getElem?_getD, List.getElem?_append_right (by rw [List.length_append, cod_len]; omega)]
      rw [show p.length + 2 + wdt g.1.toNat - (p ++ cod g.1.toNat).length = 0 by rw [List.length_append, cod_len]; omega]
      rfl
    have hlen : (p ++ (prI g ++ q)).length = p.length + 2 + wdt g.1.toNat + 1 + 2 + wdt g.2.toNat + q.length := by
      rw [e2, List.length_append, hl, List.length_append, cod_len]; omega
    unfold itm itmF
    rw [hs1, if_neg (by exact fun h => h rfl)]
    dsimp only
    rw [if_neg (by rintro (h | h); omega; exact h hge), hs2, if_neg (by exact fun h => h rfl)]
    dsimp only
    rw [if_neg (by omega)]
    have eg1 : ((g.1.toNat : Nat) : Int) = g.1 := by omega
    have eg2 : ((g.2.toNat : Nat) : Int) = g.2 := by omega
    rw [eg1, eg2, e, List.length_append, List.length_cons, cod_len, cod_len]
    refine Prod.ext rfl (Prod.ext ?_ rfl)
    show p.length + 2 + wdt g.1.toNat + 1 + 2 + wdt g.2.toNat = p.length + (2 + wdt g.1.toNat + (2 + wdt g.2.toNat + 1))
    omega
/-- What is to come of a spelling behind some ranges. -/
def prR : List Rg → List UInt8
  | [] => []
  | g :: l => 32 :: (prI g ++ prR l)
theorem prR_head (l : List Rg) : ∀ c, (prR l).head? = some c → c = 32 := fun c h => by
  cases l with
  | nil => cases h
  | cons g l => cases h; rfl
theorem prA_more : ∀ (l : List Rg) (a : List UInt8), a ≠ [] → prA a l = a ++ prR l
  | [], a, _ => by show a = a ++ []; simp
  | g :: l, a, h => by
    show prA (a ++ ((if a = [] then [] else [32]) ++ prI g)) l = _
    rw [if_neg h, prA_more l _ (by simp [h])]
    show a ++ ([32] ++ prI g) ++ prR l = a ++ (32 :: (prI g ++ prR l))
    simp
theorem prt_cons (g : Rg) (l : List Rg) : prt (g :: l) = prI g ++ prR l := by
  show prA ([] ++ ((if ([] : List UInt8) = [] then [] else [32]) ++ prI g)) l = _
  rw [if_pos rfl, List.nil_append, List.nil_append]
  exact prA_more l _ (prI_ne g)
def okG (l : List Rg) : Prop := ∀ g ∈ l, 0 ≤ g.1 ∧ g.1 ≤ g.2 ∧ g.2 ≤ top
theorem prs_more : ∀ (l : List Rg) (p : List UInt8) (acc : List Rg) (T : List UInt8), okG l → T = p ++ prR l → Prs T p.length acc → par T = (nrm (acc ++ l), 0, 0)
  | [], p, acc, T, _, hT, hP => by
    rw [List.append_nil]
    exact hP.done (by rw [hT]; simp [prR])
  | g :: l, p, acc, T, ho, hT, hP => by
    obtain ⟨g0, g1, g2⟩ := ho g (by simp)
    have hT2 : T = (p ++ [32]) ++ (prI g ++ prR l) := by rw [hT]; simp [prR]
    have hlt : p.length < T.length := by rw [hT]; simp [prR]
    have hb : T.getD p.length 0 = 32 := by rw [hT, List.getD_eq_getElem?_getD, List.getElem?_append_right (Nat.le_refl _), Nat.sub_self]; rfl
    have hP1 := hP.blank hlt hb
    have hl1 : (p ++ [32]).length = p.length + 1 := by simp
    have hi : itm T (p.length + 1) = (g, p.length + 1 + (prI g).length, 0) := by
      have h := itm_prI (p ++ [32]) (prR l) g g0 g1 g2 (prR_head l)
      rw [← hT2, hl1] at h
      exact h
    have hpos : 0 < (prI g).length := List.length_pos_iff.2 (prI_ne g)
    have hlen : T.length = p.length + 1 + (prI g).length + (prR l).length := by rw [hT2]; simp only [List.length_append, List.length_cons, List.length_nil]; omega
    have hne : T.getD (p.length + 1) 0 ≠ 32 := by
      rw [hT2, List.getD_eq_getElem?_getD, List.getElem?_append_right (by rw [hl1]; exact Nat.le_refl _), hl1, Nat.sub_self]
      show (85 : UInt8) ≠ 32
      decide
    have hP2 := hP1.more (by omega) hne (by rw [hi]) (by
      rw [hi]
      rintro ⟨h1, h2⟩
      apply h2
      have e3 : T = (p ++ ([32] ++ prI g)) ++ prR l := by rw [hT2]; simp
      have hl3 : (p ++ ([32] ++ prI g)).length = p.length + 1 + (prI g).length := by simp; omega
      dsimp only at h1 ⊢
      rw [e3, List.getD_eq_getElem?_getD, List.getElem?_append_right (by rw [hl3]; exact Nat.le_refl _), hl3, Nat.sub_self]
      cases l with
      | nil => rw [hlen] at h1; simp [prR] at h1
      | cons x l => rfl)
    rw [hi] at hP2
    have hfin := prs_more l (p ++ ([32] ++ prI g)) (acc ++ [g]) T (fun x hx => ho x (by simp [hx])) (by rw [hT2]; simp) (by
      have hl3 : (p ++ ([32] ++ prI g)).length = p.length + 1 + (prI g).length := by simp; omega
      rw [hl3]; exact hP2)
    rw [hfin]
    simp
theorem par_prt (l : List Rg) (h : nf l) : par (prt l) = (l, 0, 0) := by
  have ho : okG l := fun g hg => by
    obtain ⟨j, hj⟩ := List.getElem?_of_mem hg
    exact nf_at h hj
  have hn : nrm l = l := ((nrm_same l).2 h).symm
  cases l with
  | nil => rfl
  | cons g l =>
    obtain ⟨g0, g1, g2⟩ := ho g (by simp)
    have hT := prt_cons g l
    have hP := Prs.start (prt (g :: l))
    have hi : itm (prt (g :: l)) 0 = (g, (prI g).length, 0) := by
      have h := itm_prI [] (prR l) g g0 g1 g2 (prR_head l)
      rw [List.nil_append, ← hT] at h
      simpa using h
    have hpos : 0 < (prI g).length := List.length_pos_iff.2 (prI_ne g)
    have hlen : (prt (g :: l)).length = (prI g).length + (prR l).length := by rw [hT, List.length_append]
    have hne : (prt (g :: l)).getD 0 0 ≠ 32 := by
      rw [hT]
      show (85 : UInt8) ≠ 32
      decide
    have hP2 := hP.more (by omega) hne (by rw [hi]) (by
      rw [hi]
      rintro ⟨h1, h2⟩
      apply h2
      dsimp only at h1 ⊢
      rw [hT, List.getD_eq_getElem?_getD, List.getElem?_append_right (Nat.le_refl _), Nat.sub_self]
      cases l with
      | nil => rw [hlen] at h1; simp [prR] at h1
      | cons x l => rfl)
    rw [hi] at hP2
    have hfin := prs_more l (prI g) ([] ++ [g]) (prt (g :: l)) (fun x hx => ho x (by simp [hx])) hT hP2
    rw [hfin]
    show (nrm (g :: l), 0, 0) = (g :: l, 0, 0)
    rw [hn]
end Go.Proofs.YtohhokjlgihbgaaGreatDoor
/- The contract of the document's Hex. -/
namespace Go.Proofs.YtohhokjlgihbgaaGreatDoor
open Go.RowKit

theorem wdt_go {n j : Nat} (h : j < wdt n) : 0 < n / 16 ^ j ∨ j < 4 := by
  by_cases c : j < 4
  · exact .inr c
  · left
    unfold wdt at h
    split at h
    · omega
    · split at h
      · have : j = 4 := by omega
        subst this
        show 0 < n / 65536
        omega
      · have : j = 4 ∨ j = 5 := by omega
        rcases this with rfl | rfl
        · show 0 < n / 65536; omega
        · show 0 < n / 1048576; omega
theorem wdt_stop {n : Nat} (h : n ≤ 1114111) : n / 16 ^ wdt n = 0 := Nat.div_eq_of_lt (wdt_pow n h)
theorem dgs_at (d : Nat) (h : d < 16) (l : List UInt8) : (⟨#[48, 49, 50, 51, 52, 53, 54, 55, 56, 57, 65, 66, 67, 68, 69, 70]⟩ : ByteArray).extract d (d + 1) ++ ⟨l.toArray⟩ = ⟨(dgU d :: l).toArray⟩ := by
  have e : (⟨#[48, 49, 50, 51, 52, 53, 54, 55, 56, 57, 65, 66, 67, 68, 69, 70]⟩ : ByteArray).extract d (d + 1) = ⟨#[dgU d]⟩ := by
    have hall : ∀ d, d < 16 → (⟨#[48, 49, 50, 51, 52, 53, 54, 55, 56, 57, 65, 66, 67, 68, 69, 70]⟩ : ByteArray).extract d (d + 1) = ⟨#[dgU d]⟩ := by decide
    exact hall d h
  rw [e]
  apply ByteArray.ext
  simp
set_option maxHeartbeats 1000000 in
set_option maxRecDepth 100000 in
theorem rhex_any (n : Nat) (w : World) (hn : n ≤ 1114111) :
    Calls Tryz.prog 105 #[.int .i32 (n : Int)] w fun e w' => e = .returned (.string ⟨(hex n).toArray⟩) ∧ w' = w := by
  have hwd := wdt_bd n
  go_enter Tryz.func105, Tryz.ntmps105
  go_wp2
  go_loopw [0, 4] (fun r s wr => ∃ (j q : Nat), r = .int .i32 (q : Int) ∧ s = .string ⟨(hxL j n).toArray⟩ ∧ j ≤ wdt n ∧ q ≤ 1114111 ∧ Hid (q = n / 16 ^ j) ∧ wr = w) (fun r s _ => match s with | .string b => wdt n - b.size | _ => 0)
  case atStart => exact ⟨0, n, rfl, rfl, by omega, hn, by simp [Hid], rfl⟩
  case round =>
    obtain ⟨j, q, rfl, rfl, hj, hq, HQ, hw⟩ := hrel
    obtain rfl := hw.symm
    have hlen : (hxL j n).length = j := hxL_len j n
    by_cases c : j < wdt n
    · have hd : q % 16 < 16 := by omega
      have HC := hid (show (⟨#[48, 49, 50, 51, 52, 53, 54, 55, 56, 57, 65, 66, 67, 68, 69, 70]⟩ : ByteArray).extract (q % 16) (q % 16 + 1) ++ ⟨(hxL j n).toArray⟩ = ⟨(hxL (j + 1) n).toArray⟩ by rw [dgs_at _ hd, hxL_cons, HQ.out])
      have HQ2 := hid (show q / 16 = n / 16 ^ (j + 1) by rw [HQ.out, Nat.div_div_eq_div_mul, Nat.pow_succ])
      by_cases c1 : 0 < q
      · have c1' : (0 : Int) < (q : Int) := by omega
        go_wp2
        refine ⟨⟨j + 1, q / 16, congrArg (Value.int .i32) (by omega), congrArg Value.string HC.out, by omega, by omega, HQ2, trivial⟩, ?_⟩
        rw [HC.out]
        show wdt n - (hxL (j + 1) n).toArray.size < wdt n - (hxL j n).toArray.size
        rw [List.size_toArray, List.size_toArray, hxL_len, hlen]
        omega
      · have c2 : j < 4 := by rcases wdt_go c with h | h; rw [← HQ.out] at h; omega; exact h
        have c1' : ¬ (0 : Int) < (q : Int) := by omega
        go_wp2
        refine ⟨⟨j + 1, q / 16, congrArg (Value.int .i32) (by omega), congrArg Value.string HC.out, by omega, by omega, HQ2, trivial⟩, ?_⟩
        rw [HC.out]
        show wdt n - (hxL (j + 1) n).toArray.size < wdt n - (hxL j n).toArray.size
        rw [List.size_toArray, List.size_toArray, hxL_len, hlen]
        omega
    · have e : j = wdt n := by omega
      have HS := hid (wdt_stop hn)
      have hq0 : q = 0 := by have h := HQ.out; rw [e, HS.out] at h; exact h
      subst hq0
      have c2 : ¬ (j : Int) < 4 := by omega
      have HE := hid e
      clear e
      go_wp2
      go_ret
      exact ⟨by rw [HE.out]; rfl, rfl⟩
end Go.Proofs.YtohhokjlgihbgaaGreatDoor
/- A byte put ahead of a text moves what Parse reads behind it by one place; a blank ahead changes nothing of what it tells. -/
namespace Go.Proofs.YtohhokjlgihbgaaGreatDoor

def sh1 (x : Int × Nat × Int) : Int × Nat × Int := (x.1, x.2.1 + 1, x.2.2)
theorem hxn_cons (b : UInt8) (l : List UInt8) (p : Nat) : hxn (b :: l) (p + 1) = hxn l p := rfl
theorem getD_cons1 (b : UInt8) (l : List UInt8) (p : Nat) : (b :: l).getD (p + 1) 0 = l.getD p 0 := rfl
theorem cdd_cons (b : UInt8) (l : List UInt8) (p : Nat) : cdd (b :: l) (p + 1) = sh1 (cdd l p) := by
  have e1 : hxn (b :: l) (p + 1 + 2) = hxn l (p + 2) := rfl
  have e2 : (b :: l).drop (p + 1 + 2) = l.drop (p + 2) := rfl
  unfold cdd
  rw [e1, e2]
  split
  · rfl
  · split
    · rfl
    · unfold sh1
      refine Prod.ext rfl (Prod.ext ?_ rfl)
      show p + 1 + 2 + _ = p + 2 + _ + 1
      omega
theorem qtd_cons (b : UInt8) (l : List UInt8) (p : Nat) : qtd (b :: l) (p + 1) = sh1 (qtd l p) := by
  have e2 : (b :: l).drop (p + 1 + 1) = l.drop (p + 1) := rfl
  unfold qtd
  rw [e2]
  obtain ⟨n, hn⟩ : ∃ n, n = (dec (l.drop (p + 1))).2 := ⟨_, rfl⟩
  rw [← hn]
  have e3 : (b :: l).getD (p + 1 + 1 + n) 0 = l.getD (p + 1 + n) 0 := by
    rw [show p + 1 + 1 + n = (p + 1 + n) + 1 by omega]
    rfl
  have e4 : (p + 1 + 1 + n = (b :: l).length) = (p + 1 + n = l.length) := by
    rw [List.length_cons]
    exact propext ⟨fun h => by omega, fun h => by omega⟩
  simp only [e3, e4]
  split
  · rfl
  · split
    · rfl
    · unfold sh1
      refine Prod.ext rfl (Prod.ext ?_ rfl)
      show p + 1 + 1 + n + 1 = p + 1 + n + 1 + 1
      omega
theorem spl_cons (b : UInt8) (l : List UInt8) (p : Nat) : spl (b :: l) (p + 1) = sh1 (spl l p) := by
  have e1 : (b :: l).drop (p + 1) = l.drop p := rfl
  unfold spl
  rw [e1]
  split
  · exact cdd_cons b l p
  · split
    · exact qtd_cons b l p
    · rfl
theorem itm_cons (b : UInt8) (l : List UInt8) (p : Nat) : itm (b :: l) (p + 1) = ((itm l p).1, (itm l p).2.1 + 1, (itm l p).2.2) := by
  unfold itm itmF
  rw [spl_cons]
  obtain ⟨x, hx⟩ : ∃ x, x = spl l p := ⟨_, rfl⟩
  rw [← hx]
  have e1 : (sh1 x).2.1 = x.2.1 + 1 := rfl
  have e2 : (sh1 x).1 = x.1 := rfl
  have e3 : (sh1 x).2.2 = x.2.2 := rfl
  rw [e1, e2, e3, spl_cons b l (x.2.1 + 1)]
  obtain ⟨y, hy⟩ : ∃ y, y = spl l (x.2.1 + 1) := ⟨_, rfl⟩
  rw [← hy]
  have f1 : (sh1 y).2.1 = y.2.1 + 1 := rfl
  have f2 : (sh1 y).1 = y.1 := rfl
  have f3 : (sh1 y).2.2 = y.2.2 := rfl
  rw [f1, f2, f3]
  have e4 : (x.2.1 + 1 = (b :: l).length) = (x.2.1 = l.length) := by
    rw [List.length_cons]
    exact propext ⟨fun h => by omega, fun h => by omega⟩
  simp only [e4, getD_cons1]
  split
  · rfl
  · split
    · rfl
    · split
      · rfl
      · split
        · rfl
        · rfl
theorem parF_cons (b : UInt8) (l : List UInt8) : ∀ (f p : Nat) (acc : List Rg), (parF f (b :: l) (p + 1) acc).1 = (parF f l p acc).1 ∧ (parF f (b :: l) (p + 1) acc).2.1 = (parF f l p acc).2.1
  | 0, _, _ => ⟨rfl, rfl⟩
  | f + 1, p, acc => by
    have e4 : (p + 1 = (b :: l).length) = (p = l.length) := by
      rw [List.length_cons]
      exact propext ⟨fun h => by omega, fun h => by omega⟩
    unfold parF
    simp only [e4, getD_cons1, itm_cons]
    obtain ⟨x, hx⟩ : ∃ x, x = itm l p := ⟨_, rfl⟩
    rw [← hx]
    have e5 : (x.2.1 + 1 < (b :: l).length) = (x.2.1 < l.length) := by
      rw [List.length_cons]
      exact propext ⟨fun h => by omega, fun h => by omega⟩
    simp only [e5]
    split
    · exact ⟨rfl, rfl⟩
    · split
      · exact parF_cons b l f (p + 1) acc
      · split
        · exact ⟨rfl, rfl⟩
        · split
          · exact ⟨rfl, rfl⟩
          · exact parF_cons b l f _ _
theorem par_blank (l : List UInt8) : (par (32 :: l)).1 = (par l).1 ∧ (par (32 :: l)).2.1 = (par l).2.1 := by
  have e : par (32 :: l) = parF (l.length + 1) (32 :: l) (0 + 1) [] := by
    show parF (l.length + 1 + 1) (32 :: l) 0 [] = _
    conv => lhs; unfold parF
    rw [if_neg (by simp), if_pos (show (32 :: l).getD 0 0 = 32 from rfl)]
  rw [e]
  exact parF_cons 32 l _ 0 []
end Go.Proofs.YtohhokjlgihbgaaGreatDoor
