/- The contracts of the functions that Live and Sure hand on: whether a state takes; whether it fails. -/
import Derived.Test.YtmgoedcaeemilaaDoorRows7
namespace Go.Proofs.YtmgoedcaeemilaaDoor
open Go.RowKit

def lvB (T : List Int) (s : Nat) : Bool := decide (T[s]? = some 1)
def flB (R : Rw) (T : List Int) (s : Nat) : Bool := decide (T[s]? = some 0 ∨ -1 ∈ (R[s]?).getD [])
/-- The box that holds an automaton. -/
def BoxAt (w : World) (P : Nat) (v0 v1 v2 : Value) : Prop := P < w.heap.size ∧ w.cell? ⟨P, 0, none⟩ = some v0 ∧ w.cell? ⟨P, 1, none⟩ = some v1 ∧ w.cell? ⟨P, 2, none⟩ = some v2
theorem BoxAt.below {w w' : World} {P : Nat} {v0 v1 v2 : Value} (h : BoxAt w P v0 v1 v2) (hb : Below w.heap.size w w') : BoxAt w' P v0 v1 v2 :=
  ⟨Nat.lt_of_lt_of_le h.1 hb.size, (hb.cell (p := ⟨P, 0, none⟩) h.1).trans h.2.1, (hb.cell (p := ⟨P, 1, none⟩) h.1).trans h.2.2.1, (hb.cell (p := ⟨P, 2, none⟩) h.1).trans h.2.2.2⟩
set_option maxHeartbeats 2000000 in
theorem live1_any (P : Nat) (c : Int) (no to : Option Addr) (n nc m tc : Nat) (R : Rw) (T : List Int) (s : Nat) (w : World) (hd : DRd w no n to m R T) (hb : BoxAt w P (.int .i64 c) (.slice no n nc) (.slice to m tc)) (hs : s < m) :
    Calls Tryd.prog 63 #[.int .i64 (s : Int), .pointer (some ⟨P, 0, none⟩)] w fun e w' => e = .returned (.bool (lvB T s)) ∧ w' = w := by
  obtain ⟨_, b0, b1, b2⟩ := hb
  obtain ⟨t, a, ht, rfl, ha, a0⟩ := hd.tk hs
  have hml := hd.ml
  unfold most at hml
  have i1 : (s : Int) < (m : Int) := by omega
  have i0 : (0 : Int) ≤ (s : Int) := by omega
  clear hd hs
  by_cases t1 : t = 1
  · have HX := hid (show lvB T s = true from decide_eq_true (by rw [ht, t1]))
    have t1' : (t == 1) = true := beq_iff_eq.2 t1
    clear t1 ht
    go_enter Tryd.func63, Tryd.ntmps63
    go_wp2
    go_ret
    exact ⟨by rw [HX.out]; rfl, rfl⟩
  · have HX := hid (show lvB T s = false from decide_eq_false (fun h => by rw [ht] at h; exact t1 (Option.some.inj h)))
    have t1' : (t == 1) = false := beq_eq_false_iff_ne.2 t1
    clear t1 ht
    go_enter Tryd.func63, Tryd.ntmps63
    go_wp2
    go_ret
    exact ⟨by rw [HX.out]; rfl, rfl⟩
theorem mem_of_at {l : List Int} {k : Nat} {z : Int} (h : l[k]? = some z) : z ∈ l := List.mem_of_getElem? h
set_option maxHeartbeats 4000000 in
theorem sure1_any (P : Nat) (c : Int) (no to : Option Addr) (n nc m tc : Nat) (R : Rw) (T : List Int) (s : Nat) (w : World) (hd : DRd w no n to m R T) (hb : BoxAt w P (.int .i64 c) (.slice no n nc) (.slice to m tc)) (hs : s < m) (hn : s < n) :
    Calls Tryd.prog 66 #[.int .i64 (s : Int), .pointer (some ⟨P, 0, none⟩)] w fun e w' => e = .returned (.bool (flB R T s)) ∧ w' = w := by
  obtain ⟨_, b0, b1, b2⟩ := hb
  obtain ⟨t, a, ht, rfl, ha, a0⟩ := hd.tk hs
  obtain ⟨row, b, co, cc, hr, rfl, hb, r0, hI, hrl⟩ := hd.row hn
  have hml := hd.ml
  have hnl := hd.nl
  unfold most at hml hnl hrl
  obtain ⟨l, hl⟩ : ∃ l, l = row.length := ⟨_, rfl⟩
  rw [← hl] at r0 hrl
  have HL := hid hl
  have HI := hid hI
  have HR := hid hr
  have HT := hid ht
  have i1 : (s : Int) < (m : Int) := by omega
  have i0 : (0 : Int) ≤ (s : Int) := by omega
  have i2 : (s : Int) < (n : Int) := by omega
  clear hd hs hl hI hr ht
  go_enter Tryd.func66, Tryd.ntmps66
  go_wp2
  go_loop [12] (fun x => ∃ j : Nat, x = .int .i64 j ∧ j ≤ l ∧ Hid (∀ (i : Nat) (z : Int), i < j → row[i]? = some z → z ≠ -1)) (fun x => l - (intOf x).toNat)
  case atStart => exact ⟨0, rfl, Nat.zero_le _, fun i z hi => (by omega)⟩
  case round =>
    obtain ⟨j, rfl, hj, HJ⟩ := hrel
    by_cases hjl : j < l
    · obtain ⟨z, d, hz, rfl, hd, d0⟩ := HI.out.at (k := j) (by rw [← HL.out]; exact hjl)
      have HZ := hid hz
      clear hz
      have i5 : (j : Int) < (l : Int) := by omega
      by_cases z1 : z = -1
      · have HX := hid (show flB R T s = true from decide_eq_true (.inr (by rw [HR.out]; rw [← z1]; exact mem_of_at HZ.out)))
        have z1' : (z == -1) = true := beq_iff_eq.2 z1
        clear z1
        go_wp2
        go_ret
        exact ⟨by rw [HX.out]; rfl, rfl⟩
      · have HJ2 := hid (show ∀ (i : Nat) (y : Int), i < j + 1 → row[i]? = some y → y ≠ -1 from fun i y hi hy => by
          by_cases e : i = j
          · subst e; rw [HZ.out] at hy; cases hy; exact z1
          · exact HJ.out i y (by omega) hy)
        have z1' : (z == -1) = false := beq_eq_false_iff_ne.2 z1
        clear z1
        go_wp2
        go_round
        case rel => exact ⟨j + 1, by go_num, by omega, HJ2⟩
        case measure => simp [intOf]; omega
    · have i5 : ¬ (j : Int) < (l : Int) := by omega
      have HNM := hid (show ¬ -1 ∈ row from fun h => by
        obtain ⟨i, hi⟩ := List.mem_iff_getElem?.1 h
        exact HJ.out i (-1) (by have := (List.getElem?_eq_some_iff.1 hi).1; have := HL.out; omega) hi rfl)
      by_cases t0 : t = 0
      · have HX := hid (show flB R T s = true from decide_eq_true (.inl (by rw [HT.out, t0])))
        have t0' : (t == 0) = true := beq_iff_eq.2 t0
        clear t0
        go_wp2
        go_ret
        exact ⟨by rw [HX.out]; rfl, rfl⟩
      · have HX := hid (show flB R T s = false from decide_eq_false (fun h => by
          rcases h with h | h
          · rw [HT.out] at h; exact t0 (Option.some.inj h)
          · rw [HR.out] at h; exact HNM.out h))
        have t0' : (t == 0) = false := beq_eq_false_iff_ne.2 t0
        clear t0
        go_wp2
        go_ret
        exact ⟨by rw [HX.out]; rfl, rfl⟩
end Go.Proofs.YtmgoedcaeemilaaDoor
