/- The contracts of size and At (package runes). -/
import Derived.Test.YtfahbdlcokoghabGreatDoorNot
namespace Go.Proofs.YtfahbdlcokoghabGreatDoor
open Go.RowKit

theorem size_any (a b : Int) (w : World) (h0 : 0 ≤ a) (h1 : a ≤ b) (h2 : b ≤ 1114111) :
    Calls Tryz.prog 24 #[.agg #[.int .i32 a, .int .i32 b]] w fun e w' => e = .returned (.int .i64 (b - a + 1)) ∧ Below w.heap.size w w' := by
  have e1 : IntKind.i32.wrap (b - a) = b - a := by rw [IntKind.wrap_i32]; omega
  have e2 : IntKind.i64.wrap (b - a) = b - a := by rw [IntKind.wrap_i64]; omega
  have e3 : IntKind.i64.wrap (b - a + 1) = b - a + 1 := by rw [IntKind.wrap_i64]; omega
  go_enter Tryz.func24, Tryz.ntmps24
  go_wp2
  go_ret
  exact ⟨rfl, (Below.refl _ _).alloc (Nat.le_refl _) _⟩
/-- The rune of a number, in a normal form. -/
def atF : List Rg → Int → Option Int
  | [], _ => none
  | g :: t, i => if i < g.2 - g.1 + 1 then some (g.1 + i) else atF t (i - (g.2 - g.1 + 1))
def atN (l : List Rg) (i : Int) : Option Int := if i < 0 then none else atF (nrm l) i
def two (o : Option Int) : Value := .tuple #[.int .i32 (o.getD 0), .bool o.isSome]
theorem atF_yes {s : List Rg} {k : Nat} {j : Int} (hk : k < s.length) (hc : j < s[k].2 - s[k].1 + 1) : atF (s.drop k) j = some (s[k].1 + j) := by
  rw [List.drop_eq_getElem_cons hk, atF, if_pos hc]
theorem atF_no {s : List Rg} {k : Nat} {j : Int} (hk : k < s.length) (hc : ¬ j < s[k].2 - s[k].1 + 1) : atF (s.drop k) j = atF (s.drop (k + 1)) (j - (s[k].2 - s[k].1 + 1)) := by
  rw [List.drop_eq_getElem_cons hk, atF, if_neg hc]

set_option maxRecDepth 100000 in
set_option maxHeartbeats 3000000 in
theorem at_any (ao : Option Addr) (ac : Nat) (l : List Rg) (i : Int) (w : World) (ha : RdR w ao l) (hl : l.length ≤ 100000) (hi0 : -9223372036854775808 ≤ i) (hi1 : i < 9223372036854775808) :
    Calls Tryz.prog 14 #[.slice ao l.length ac, .int .i64 i] w fun e w' => e = .returned (two (atN l i)) ∧ Below w.heap.size w w' := by
  by_cases hin : i < 0
  · have HN := hid (show atN l i = none by unfold atN; rw [if_pos hin])
    go_enter Tryz.func14, Tryz.ntmps14
    go_wp2
    go_ret2
    exact ⟨by rw [HN.out]; rfl, Below.refl _ _⟩
  · have HSO := hid (norm_any ao ac l w ha hl)
    have HAT := hid (show atF (nrm l) i = atN l i by unfold atN; rw [if_neg hin])
    clear ha
    go_enter Tryz.func14, Tryz.ntmps14
    go_wp2_with fail
    refine HSO.out.mono ?_
    rintro e Wr ⟨v, rfl, o1, hB⟩
    obtain ⟨so, sc, rfl, hrd⟩ := rdr_row o1
    have hsl := nrm_len l
    have HNF := hid (nrm_nf l)
    obtain ⟨s, hs⟩ : ∃ s, nrm l = s := ⟨_, rfl⟩
    rw [hs] at HAT HNF hrd hsl ⊢
    have HRD := hid hrd
    have HB0 := hid hB
    have hws := hB.size
    have hs5 : s.length ≤ 100000 := by omega
    clear hrd hB HSO hsl o1 hs
    go_wp2
    go_loopw [1, 13] (fun x n wq => ∃ (k : Nat) (j : Int), k ≤ s.length ∧ n = .int .i64 k ∧ x = .int .i64 j ∧ 0 ≤ j ∧ j ≤ i ∧ Hid (atF (s.drop k) j = atF s i) ∧ Hid (Below Wr.heap.size Wr wq)) (fun _ n _ => s.length - (intOf n).toNat)
    case atStart => exact ⟨0, i, by omega, rfl, rfl, by omega, by omega, rfl, Below.refl _ _⟩
    case round =>
      obtain ⟨k, j, hk, rfl, rfl, hj0, hj1, HJ, HB⟩ := hrel
      have hbs := HB.out.size
      by_cases hlt : k < s.length
      · obtain ⟨gs, rfl, hgs, y0, y1⟩ := HRD.out k s[k] (List.getElem?_eq_getElem hlt)
        obtain ⟨b1, b2, b3⟩ := nf_at HNF.out (List.getElem?_eq_getElem hlt)
        unfold top at b3
        replace y0 := (HB.out.cell (p := gs.add (k * 2)) (by rw [add_blk]; exact hgs)).trans y0
        replace y1 := (HB.out.cell (p := ⟨(gs.add (k * 2)).block, (gs.add (k * 2)).off + 1, none⟩) (show (gs.add (k * 2)).block < _ by rw [add_blk]; exact hgs)).trans y1
        have i3 : (k : Int) < (s.length : Int) := by omega
        have hgw : gs.block < wr.heap.size := by omega
        have HY := hid (atF_yes (j := j) hlt)
        have HN := hid (atF_no (j := j) hlt)
        generalize s[k].1 = f0 at *
        generalize s[k].2 = f1 at *
        go_wp2_with fail
        refine (size_any f0 f1 _ b1 b2 b3).mono ?_
        rintro e w2 ⟨rfl, hb2⟩
        have HB2 := hid ((HB.out.alloc hbs (.cells #[.int .i32 f0, .int .i32 f1] 33)).trans (hb2.mono (by simp; omega)))
        have hbx : w2.heap[wr.heap.size]? = some (.cells #[.int .i32 f0, .int .i32 f1] 33 (0, 0)) := by
          rw [hb2.block wr.heap.size (by simp)]
          show (wr.heap.push _)[wr.heap.size]? = _
          simp
        have x0 : w2.cell? ⟨wr.heap.size, 0, none⟩ = some (.int .i32 f0) := by rw [cell_of_row w2 wr.heap.size 0 _ 33 (0, 0) hbx]; rfl
        have x1 : w2.cell? ⟨wr.heap.size, 1, none⟩ = some (.int .i32 f1) := by rw [cell_of_row w2 wr.heap.size 1 _ 33 (0, 0) hbx]; rfl
        clear hb2 hbx
        by_cases hc : j < f1 - f0 + 1
        · have HZ := hid ((HJ.out.symm.trans (HY.out hc)))
          have e1 : IntKind.i32.wrap j = j := by rw [IntKind.wrap_i32]; omega
          have e2 : IntKind.i32.wrap (f0 + j) = f0 + j := by rw [IntKind.wrap_i32]; omega
          clear HY HN
          go_wp2
          go_ret2
          exact ⟨by rw [← HAT.out, HZ.out]; rfl, HB0.out.trans (HB2.out.mono HB0.out.size)⟩
        · have HZ := hid ((HN.out (by omega)).symm.trans HJ.out)
          have e3 : IntKind.i64.wrap (j - (f1 - f0 + 1)) = j - (f1 - f0 + 1) := by rw [IntKind.wrap_i64]; omega
          clear HY HN
          go_wp2_with fail
          refine (size_any f0 f1 _ b1 b2 b3).mono ?_
          rintro e w3 ⟨rfl, hb3⟩
          have HB3 := hid (HB2.out.trans (hb3.mono HB2.out.size))
          clear hb3
          go_wp2
          go_roundw
          case rel => exact ⟨k + 1, j - (f1 - f0 + 1), by omega, by go_num, by go_num, by omega, by omega, HZ, HB3⟩
          case measure => simp [intOf]; omega
      · have HZ := hid (show atF s i = none by rw [← HJ.out, List.drop_of_length_le (by omega)]; rfl)
        go_wp2
        go_ret2
        exact ⟨by rw [← HAT.out, HZ.out]; rfl, HB0.out.trans (HB.out.mono HB0.out.size)⟩
end Go.Proofs.YtfahbdlcokoghabGreatDoor

