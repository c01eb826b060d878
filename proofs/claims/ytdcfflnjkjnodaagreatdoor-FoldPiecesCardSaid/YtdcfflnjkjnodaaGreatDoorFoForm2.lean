/- The contract of appendForm (package fold) at every rune. -/
import Derived.Test.YtdcfflnjkjnodaaGreatDoorFoForm
namespace Go.Proofs.YtdcfflnjkjnodaaGreatDoor
open Go.RowKit
namespace Fo
theorem rowb_below {w w' : World} {B : Nat} {v : Value} {T : List UInt8} (h : OwB B v T w) (hb : Below w.heap.size w w') : OwB B v T w' := by
  refine ⟨h.1, ?_⟩
  rcases h.2 with h0 | ⟨g, cap, cur, hv, h1, hg, h2⟩
  · exact .inl h0
  · exact .inr ⟨g, cap, cur, hv, h1, (hb.block g (Array.getElem?_eq_some_iff.1 hg).1).trans hg, h2⟩
set_option maxHeartbeats 8000000 in
set_option maxRecDepth 100000 in
theorem form_no (B p g K k : Nat) (v : Value) (T l : List UInt8) (r : Int) (w : World) (hk : k < 4) (hx : spF r = none) (hL : LtAt w p g K) (ho : OwB B v T w) (hT : T.length ≤ 900000000) (hl : l.length ≤ 1000000000) (hl0 : l ≠ []) (hr0 : 0 ≤ r) (hr1 : r ≤ 1114111) (ho0 : 0 ≤ (ofR r).1 ∧ (ofR r).1 ≤ 1114111) (ho1 : 0 ≤ (ofR r).2 ∧ (ofR r).2 ≤ 1114111) (hB : B ≤ w.heap.size) :
    Calls Tryz.prog 31 #[.pointer (some ⟨p, 0, none⟩), v, .string ⟨l.toArray⟩, .int .i32 r, .int .i64 k] w fun e w' => ∃ v', e = .returned v' ∧ OwB B v' (T ++ arn l r (if k = 0 ∨ k = 3 then (ofR r).1 else (ofR r).2)) w' ∧ Grw B w w' := by
  have hlk := look_any K r w (by omega) (by omega) hL.map
  rw [hx] at hlk
  obtain ⟨p0, p1⟩ := hL.cells
  have HL := hid hL
  have HO := hid ho
  clear hL ho hx
  have hlk2 : (Instr.lookup 48 (.map (some K)) (.int .i32 r) true).run Tryz.prog w = .ok (.tuple #[.agg #[.int .i32 0, .int .i32 0, .int .i32 0, .int .i64 0, .int .i32 0, .int .i32 0, .int .i32 0, .int .i64 0, .int .i32 0, .int .i32 0, .int .i32 0, .int .i64 0, .int .i32 0, .int .i32 0, .int .i32 0, .int .i64 0], .bool false]) w := by
    rw [hlk]
    rfl
  clear hlk
  obtain ⟨o1, he1⟩ : ∃ o1 : Obj, o1 = .cells #[.int .i32 0, .int .i32 0, .int .i32 0, .int .i64 0, .int .i32 0, .int .i32 0, .int .i32 0, .int .i64 0, .int .i32 0, .int .i32 0, .int .i32 0, .int .i64 0, .int .i32 0, .int .i32 0, .int .i32 0, .int .i64 0] 89 := ⟨_, rfl⟩
  have HO1 := hid (show OwB B v T (w.alloc o1) from World.ownsRow.alloc HO.out o1)
  have HG1 := hid (show Grw B w (w.alloc o1) from Grw.of_below below_box hB)
  have HL1 := hid (HL.out.keep HG1.out.others)
  have hc0 : (w.alloc o1).cell? ⟨p, 0, none⟩ = some (.slice (some ⟨g, 0, none⟩) 23 23) := HL1.out.cells.1
  rw [he1] at HO1 HG1 HL1 hc0
  clear he1 o1
  have HOF := hid (And.intro ho0 ho1)
  clear ho0 ho1
  obtain ⟨sm, hsm⟩ : ∃ y, y = (ofR r).1 := ⟨_, rfl⟩
  obtain ⟨gr, hgr⟩ : ∃ y, y = (ofR r).2 := ⟨_, rfl⟩
  have HS := hid (And.intro hsm hgr)
  rw [← hsm, ← hgr] at HOF ⊢
  clear hsm hgr
  obtain rfl | rfl | rfl | rfl : k = 0 ∨ k = 1 ∨ k = 2 ∨ k = 3 := by omega
  · rw [show ((0 : Nat) : Int) = 0 from rfl, if_pos (by simp)]
    obtain ⟨q0, q1⟩ := HOF.out.1
    go_enter Tryz.func31, Tryz.ntmps31
    go_wp2_with fail
    refine (of_any g r _ hr0 hr1 HL1.out.prs).mono ?_
    rintro e w1 ⟨rfl, be⟩
    rw [← HS.out.1, ← HS.out.2]
    have HG2 := hid (HG1.out.trans (Grw.of_below be (Nat.le_trans hB HG1.out.below.size)))
    have HO2 := hid (show OwB B v T w1 from rowb_below HO1.out be)
    have hB2 : B ≤ w1.heap.size := Nat.le_trans hB HG2.out.below.size
    clear be HO1 HG1 HL1 hc0
    go_wp2_with fail
    refine (arn_any B v T l r sm _ HO2.out (by omega) hl hl0 q0 q1 hB2).mono ?_
    rintro e w2 ⟨v', rfl, h2, h3⟩
    have H2 := hid h2
    have H3 := hid (HG2.out.trans h3)
    clear h2 h3
    go_wp2
    go_ret
    exact ⟨v', rfl, H2.out, H3.out⟩
  · rw [show ((1 : Nat) : Int) = 1 from rfl, if_neg (by simp)]
    obtain ⟨q0, q1⟩ := HOF.out.2
    go_enter Tryz.func31, Tryz.ntmps31
    go_wp2_with fail
    refine (of_any g r _ hr0 hr1 HL1.out.prs).mono ?_
    rintro e w1 ⟨rfl, be⟩
    rw [← HS.out.1, ← HS.out.2]
    have HG2 := hid (HG1.out.trans (Grw.of_below be (Nat.le_trans hB HG1.out.below.size)))
    have HO2 := hid (show OwB B v T w1 from rowb_below HO1.out be)
    have hB2 : B ≤ w1.heap.size := Nat.le_trans hB HG2.out.below.size
    clear be HO1 HG1 HL1 hc0
    go_wp2_with fail
    refine (arn_any B v T l r gr _ HO2.out (by omega) hl hl0 q0 q1 hB2).mono ?_
    rintro e w2 ⟨v', rfl, h2, h3⟩
    have H2 := hid h2
    have H3 := hid (HG2.out.trans h3)
    clear h2 h3
    go_wp2
    go_ret
    exact ⟨v', rfl, H2.out, H3.out⟩
  · rw [show ((2 : Nat) : Int) = 2 from rfl, if_neg (by simp)]
    obtain ⟨q0, q1⟩ := HOF.out.2
    go_enter Tryz.func31, Tryz.ntmps31
    go_wp2_with fail
    refine (of_any g r _ hr0 hr1 HL1.out.prs).mono ?_
    rintro e w1 ⟨rfl, be⟩
    rw [← HS.out.1, ← HS.out.2]
    have HG2 := hid (HG1.out.trans (Grw.of_below be (Nat.le_trans hB HG1.out.below.size)))
    have HO2 := hid (show OwB B v T w1 from rowb_below HO1.out be)
    have hB2 : B ≤ w1.heap.size := Nat.le_trans hB HG2.out.below.size
    clear be HO1 HG1 HL1 hc0
    go_wp2_with fail
    refine (arn_any B v T l r gr _ HO2.out (by omega) hl hl0 q0 q1 hB2).mono ?_
    rintro e w2 ⟨v', rfl, h2, h3⟩
    have H2 := hid h2
    have H3 := hid (HG2.out.trans h3)
    clear h2 h3
    go_wp2
    go_ret
    exact ⟨v', rfl, H2.out, H3.out⟩
  · rw [show ((3 : Nat) : Int) = 3 from rfl, if_pos (by simp)]
    obtain ⟨q0, q1⟩ := HOF.out.1
    go_enter Tryz.func31, Tryz.ntmps31
    go_wp2_with fail
    refine (of_any g r _ hr0 hr1 HL1.out.prs).mono ?_
    rintro e w1 ⟨rfl, be⟩
    rw [← HS.out.1, ← HS.out.2]
    have HG2 := hid (HG1.out.trans (Grw.of_below be (Nat.le_trans hB HG1.out.below.size)))
    have HO2 := hid (show OwB B v T w1 from rowb_below HO1.out be)
    have hB2 : B ≤ w1.heap.size := Nat.le_trans hB HG2.out.below.size
    clear be HO1 HG1 HL1 hc0
    go_wp2_with fail
    refine (arn_any B v T l r sm _ HO2.out (by omega) hl hl0 q0 q1 hB2).mono ?_
    rintro e w2 ⟨v', rfl, h2, h3⟩
    have H2 := hid h2
    have H3 := hid (HG2.out.trans h3)
    clear h2 h3
    go_wp2
    go_ret
    exact ⟨v', rfl, H2.out, H3.out⟩
theorem form_any (B p g K k : Nat) (v : Value) (T l : List UInt8) (r : Int) (w : World) (hk : k < 4) (hL : LtAt w p g K) (ho : OwB B v T w) (hT : T.length ≤ 900000000) (hl : l.length ≤ 1000000000) (hl0 : l ≠ []) (hr0 : 0 ≤ r) (hr1 : r ≤ 1114111) (ho0 : 0 ≤ (ofR r).1 ∧ (ofR r).1 ≤ 1114111) (ho1 : 0 ≤ (ofR r).2 ∧ (ofR r).2 ≤ 1114111) (hB : B ≤ w.heap.size) :
    Calls Tryz.prog 31 #[.pointer (some ⟨p, 0, none⟩), v, .string ⟨l.toArray⟩, .int .i32 r, .int .i64 k] w fun e w' => ∃ v', e = .returned v' ∧ OwB B v' (T ++ fbs l r k) w' ∧ Grw B w w' := by
  unfold fbs
  cases hx : spF r with
  | some x => exact form_sp B p g K k v T l r x w hk hx hL ho hT hr0 hr1 hB
  | none => exact form_no B p g K k v T l r w hk hx hL ho hT hl hl0 hr0 hr1 ho0 ho1 hB
end Fo
end Go.Proofs.YtdcfflnjkjnodaaGreatDoor
