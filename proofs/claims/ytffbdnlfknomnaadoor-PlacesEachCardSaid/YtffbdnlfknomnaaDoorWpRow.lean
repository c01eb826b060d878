/- Boxes in memory, and the contracts of what package wrap asks of one box. -/
import Derived.Test.YtffbdnlfknomnaaDoorProg
import Derived.Test.YtffbdnlfknomnaaDoorWpMath
import Derived.Deep.AppendLies
import Derived.WalkKit
import Derived.WalkSpells
import Derived.WalkLawsBesides
import Derived.Deep.QuietTactic
import Derived.BigQuiet
import Derived.WalkSmall
import Derived.RangeFuncBox
import Derived.Test.YtffbdnlfknomnaaDoorMix
namespace Go.Proofs.YtffbdnlfknomnaaDoor
open Go.RowKit

theorem hid {p : Prop} (h : p) : Hid p := h
theorem add_blk (a : Addr) (k : Nat) : (a.add k).block = a.block := by unfold Addr.add; split <;> rfl
theorem below_box {w : World} {o : Obj} : Below w.heap.size w (w.alloc o) := (Below.refl _ _).alloc (Nat.le_refl _) _
theorem box_trans {w W : World} {o : Obj} (h : Below (w.heap.size + 1) (w.alloc o) W) : Below w.heap.size w W := below_box.trans (h.mono (by omega))
theorem box_self {w : World} {o : Obj} : Below (w.heap.size + 1) (w.alloc o) (w.alloc o) := Below.refl _ _
theorem below_drN {n : Nat} {w w' : World} (h : Below n w w') (k : Nat) : Below n w (w'.drewN k) := h.trans ⟨rfl, rfl, rfl, Nat.le_refl _, fun _ _ => rfl⟩
/-- A slice of boxes, nil or not, reads as a list. -/
def RdB (w : World) (ao : Option Addr) (L : List Bx) : Prop :=
  ∀ (k : Nat) (x : Bx), L[k]? = some x → ∃ a : Addr, ao = some a ∧ a.block < w.heap.size ∧ w.cell? (a.add (k * 4)) = some (.int .i64 x.w) ∧ w.cell? ⟨(a.add (k * 4)).block, (a.add (k * 4)).off + 1, none⟩ = some (.int .i64 x.b) ∧
    w.cell? ⟨(a.add (k * 4)).block, (a.add (k * 4)).off + 2, none⟩ = some (.int .i64 x.h) ∧ w.cell? ⟨(a.add (k * 4)).block, (a.add (k * 4)).off + 3, none⟩ = some (.bool x.m)
theorem RdB.below {w w' : World} {ao : Option Addr} {L : List Bx} (h : RdB w ao L) (hb : Below w.heap.size w w') : RdB w' ao L := fun k x hk => by
  obtain ⟨a, h1, h2, h3, h4, h5, h6⟩ := h k x hk
  have hl : (a.add (k * 4)).block < w.heap.size := by rw [add_blk]; exact h2
  exact ⟨a, h1, Nat.lt_of_lt_of_le h2 hb.size, (hb.cell (p := a.add (k * 4)) hl).trans h3, (hb.cell (p := ⟨(a.add (k * 4)).block, (a.add (k * 4)).off + 1, none⟩) hl).trans h4,
    (hb.cell (p := ⟨(a.add (k * 4)).block, (a.add (k * 4)).off + 2, none⟩) hl).trans h5, (hb.cell (p := ⟨(a.add (k * 4)).block, (a.add (k * 4)).off + 3, none⟩) hl).trans h6⟩
theorem bx_get {L : List Bx} {i : Nat} (h : i < L.length) : L[i]? = some (bx L i) := by
  unfold bx
  rw [List.getElem?_eq_getElem h]
  rfl
theorem RdB.at {w : World} {ao : Option Addr} {L : List Bx} (h : RdB w ao L) {i : Nat} (hi : i < L.length) : ∃ a : Addr, ao = some a ∧ a.block < w.heap.size ∧ w.cell? (a.add (i * 4)) = some (.int .i64 (bx L i).w) ∧ w.cell? ⟨(a.add (i * 4)).block, (a.add (i * 4)).off + 1, none⟩ = some (.int .i64 (bx L i).b) ∧
    w.cell? ⟨(a.add (i * 4)).block, (a.add (i * 4)).off + 2, none⟩ = some (.int .i64 (bx L i).h) ∧ w.cell? ⟨(a.add (i * 4)).block, (a.add (i * 4)).off + 3, none⟩ = some (.bool (bx L i).m) := h i _ (bx_get hi)
/-- The cells of a sheet that was boxed. -/
def Sht (W : World) (B : Nat) (lo : Option Addr) (n c : Nat) (wd fi re ho : Int) : Prop :=
  W.heap[B]? = some (.cells #[.slice lo n c, .int .i64 wd, .int .i64 fi, .int .i64 re, .int .i64 ho] 70 (0, 0))
theorem Sht.cell {W : World} {B : Nat} {lo : Option Addr} {n c : Nat} {wd fi re ho : Int} (h : Sht W B lo n c wd fi re ho) : W.cell? ⟨B, 0, none⟩ = some (.slice lo n c) ∧ W.cell? ⟨B, 1, none⟩ = some (.int .i64 wd) ∧ W.cell? ⟨B, 2, none⟩ = some (.int .i64 fi) ∧ W.cell? ⟨B, 3, none⟩ = some (.int .i64 re) ∧ W.cell? ⟨B, 4, none⟩ = some (.int .i64 ho) := by
  unfold Sht at h
  refine ⟨?_, ?_, ?_, ?_, ?_⟩ <;> simp [World.cell?, h]
theorem Sht.new (w : World) (lo : Option Addr) (n c : Nat) (wd fi re ho : Int) : Sht (w.alloc (.cells #[.slice lo n c, .int .i64 wd, .int .i64 fi, .int .i64 re, .int .i64 ho] 70)) w.heap.size lo n c wd fi re ho := by
  unfold Sht
  exact World.alloc_heap_new w _
theorem Sht.lt {W : World} {B : Nat} {lo : Option Addr} {n c : Nat} {wd fi re ho : Int} (h : Sht W B lo n c wd fi re ho) : B < W.heap.size := (Array.getElem?_eq_some_iff.1 h).1
theorem Sht.kept {W W' : World} {B : Nat} {lo : Option Addr} {n c : Nat} {wd fi re ho : Int} (h : Sht W B lo n c wd fi re ho) (hb : Below W.heap.size W W') : Sht W' B lo n c wd fi re ho := (hb.block _ h.lt).trans h
theorem Sht.dr {W : World} {B : Nat} {lo : Option Addr} {n c : Nat} {wd fi re ho : Int} (h : Sht W B lo n c wd fi re ho) : Sht W.drew B lo n c wd fi re ho := h
theorem RdB.dr {w : World} {ao : Option Addr} {L : List Bx} (h : RdB w ao L) : RdB w.drew ao L := h
set_option maxHeartbeats 1000000 in
theorem ends_any (lo : Option Addr) (n c : Nat) (wd fi re ho : Int) (L : List Bx) (i : Nat) (w : World) (hn : n = L.length) (hr : RdB w lo L) (hi : i < n) (hl : n ≤ 4096) :
    Calls Tryd.prog 56 #[.agg #[.slice lo n c, .int .i64 wd, .int .i64 fi, .int .i64 re, .int .i64 ho], .int .i64 i] w fun e w' => e = .returned (.bool (en L i)) ∧ Below w.heap.size w w' := by
  obtain ⟨a, rfl, ha, a0, a1, a2, a3⟩ := (hr.below (below_box (o := .cells #[.slice lo n c, .int .i64 wd, .int .i64 fi, .int .i64 re, .int .i64 ho] 70))).at (hn ▸ hi)
  have HB := hid (below_box (w := w) (o := .cells #[.slice (some a) n c, .int .i64 wd, .int .i64 fi, .int .i64 re, .int .i64 ho] 70))
  have i0 : (0 : Int) ≤ (i : Int) := by omega
  have i1 : (i : Int) < (n : Int) := by omega
  cases hm : (bx L i).m with
  | true =>
    have HV := hid (show en L i = true by unfold en; rw [hm]; rfl)
    rw [hm] at a3
    clear hm hr hn a0 a1 a2
    go_enter Tryd.func56, Tryd.ntmps56
    go_wp2
    go_ret
    exact ⟨by rw [HV.out]; rfl, HB.out⟩
  | false =>
    by_cases he : i + 1 = n
    · have HV := hid (show en L i = true by unfold en; rw [hm, ← hn]; simp [he])
      rw [hm] at a3
      have b1 : ((i : Int) == (n : Int) - 1) = true := by rw [beq_iff_eq]; omega
      clear hm hr hn a0 a1 a2 he
      go_enter Tryd.func56, Tryd.ntmps56
      go_wp2
      go_ret
      exact ⟨by rw [HV.out]; rfl, HB.out⟩
    · have HV := hid (show en L i = false by unfold en; rw [hm, ← hn]; simp [he])
      rw [hm] at a3
      have b1 : ((i : Int) == (n : Int) - 1) = false := by rw [beq_eq_false_iff_ne]; omega
      clear hm hr hn a0 a1 a2 he
      go_enter Tryd.func56, Tryd.ntmps56
      go_wp2
      go_ret
      exact ⟨by rw [HV.out]; rfl, HB.out⟩
end Go.Proofs.YtffbdnlfknomnaaDoor
