/- The contracts of let, lastIn, only, every (package nfa). -/
import Derived.Test.YteacehfihogmpaaDoorMch
import Derived.Test.YteacehfihogmpaaDoorMix
namespace Go.Proofs.YteacehfihogmpaaDoor
open Go.RowKit

section
variable {B : Nat} {w : World} {P wt ft ib n : Nat} {ws fs : Nat → Option Addr × Nat} {WL : List (List Wy)} {FL : List (List Int)} {I : List Int} {sets : Int}
set_option maxHeartbeats 1000000 in
theorem let_noC (t : Nat) (c2 : w.cell? ⟨P, 2, none⟩ = some (.slice (some ⟨ib, 0, none⟩) n n)) (c3 : w.cell? ⟨P, 3, none⟩ = some (.int .i64 sets)) (ht : t < n) (ci : w.cell? ⟨ib, t, none⟩ = some (.int .i64 sets)) :
    Calls Tryd.prog 104 #[.pointer (some ⟨P, 0, none⟩), .int .i64 t] w fun e w' => e = .returned (.bool false) ∧ ∃ k, w' = w.drewN k := by
  have i0 : (0 : Int) ≤ (t : Int) := by omega
  have i1 : (t : Int) < (n : Int) := by omega
  go_enter Tryd.func104, Tryd.ntmps104
  go_wp2_with fail
  go_quiet (fail)
  go_wp2
  go_ret
  exact ⟨rfl, _, rfl⟩
theorem let_no (t : Nat) (h : MAt B w P wt ft ib n ws fs WL FL I sets) (ht : t < n) (hI : I[t]? = some sets) :
    Calls Tryd.prog 104 #[.pointer (some ⟨P, 0, none⟩), .int .i64 t] w fun e w' => e = .returned (.bool false) ∧ ∃ k, w' = w.drewN k := let_noC t h.c2 h.c3 ht (h.ci hI)
set_option maxHeartbeats 1000000 in
theorem let_yesC (t : Nat) (z : Int) (c2 : w.cell? ⟨P, 2, none⟩ = some (.slice (some ⟨ib, 0, none⟩) n n)) (c3 : w.cell? ⟨P, 3, none⟩ = some (.int .i64 sets)) (ht : t < n) (ci : w.cell? ⟨ib, t, none⟩ = some (.int .i64 z)) (hne : z ≠ sets) (fz : w.frozen? ⟨ib, t, none⟩ = false) :
    Calls Tryd.prog 104 #[.pointer (some ⟨P, 0, none⟩), .int .i64 t] w fun e w' => e = .returned (.bool true) ∧ ∃ k, w' = (w.drewN k).setCell ⟨ib, t, none⟩ (.int .i64 sets) := by
  have b1 : (z == sets) = false := beq_eq_false_iff_ne.2 hne
  have i0 : (0 : Int) ≤ (t : Int) := by omega
  have i1 : (t : Int) < (n : Int) := by omega
  go_enter Tryd.func104, Tryd.ntmps104
  go_wp2_with fail
  go_quiet (fail)
  go_wp2_with fail
  refine wp_region_mix [(0, true), (1, true), (2, true), (3, true), (4, true), (5, true), (6, true), (7, true), (8, true), (9, true), (10, false)] (fun w' => w'.cell? ⟨P, 2, none⟩ = some (.slice (some ⟨ib, 0, none⟩) n n) ∧ w'.cell? ⟨P, 3, none⟩ = some (.int .i64 sets)) (fun j => j == 10) (by kernel_rfl) (by kernel_rfl) (fun j hj => by have := beq_iff_eq.1 hj; subst this; decide) rfl (by kernel_rfl) ⟨c2, c3⟩ ?_
  iterate 10 (refine mix_free ?_ rfl (by kernel_rfl) (fun w' hS => ?_) ?_; (rotate_left; (obtain ⟨s1, s2⟩ := hS; go_simp; with_reducible rfl); rotate_left))
  refine mix_go rfl (by kernel_rfl) fun KK hKK => ?_
  go_simp
  refine hKK _ _ (fun h => by cases h) ?_
  refine mix_end (NoPanic.normal ?_)
  go_wp2
  go_ret
  exact ⟨rfl, nq + 1, rfl⟩
theorem let_yes (t : Nat) (h : MAt B w P wt ft ib n ws fs WL FL I sets) (ht : t < n) (hI : I[t]? ≠ some sets) :
    Calls Tryd.prog 104 #[.pointer (some ⟨P, 0, none⟩), .int .i64 t] w fun e w' => e = .returned (.bool true) ∧ ∃ k, w' = (w.drewN k).setCell ⟨ib, t, none⟩ (.int .i64 sets) := by
  have hl := h.len
  obtain ⟨z, hz⟩ : ∃ z, I[t]? = some z := ⟨_, List.getElem?_eq_getElem (by omega)⟩
  exact let_yesC t z h.c2 h.c3 ht (h.ci hz) (fun e => hI (by rw [hz, e])) (h.fzI t)
set_option maxHeartbeats 1000000 in
theorem lastIn_any (t : Nat) (z : Int) (h : MAt B w P wt ft ib n ws fs WL FL I sets) (ht : t < n) (hz : I[t]? = some z) :
    Calls Tryd.prog 66 #[.pointer (some ⟨P, 0, none⟩), .int .i64 t] w fun e w' => e = .returned (.bool (z == sets)) ∧ ∃ k, w' = w.drewN k := by
  have c2 := h.c2
  have c3 := h.c3
  have ci := h.ci hz
  have i0 : (0 : Int) ≤ (t : Int) := by omega
  have i1 : (t : Int) < (n : Int) := by omega
  clear h hz
  go_enter Tryd.func66, Tryd.ntmps66
  go_wp2_with fail
  go_quiet (fail)
  go_wp2
  go_ret
  exact ⟨rfl, _, rfl⟩
end
theorem every_any (t : Int) (w : World) : Calls Tryd.prog 69 #[.int .i64 t] w fun e w' => e = .returned (.bool true) ∧ w' = w := by
  go_enter Tryd.func69, Tryd.ntmps69
  go_wp2
  go_ret
  exact ⟨rfl, rfl⟩
/-- The set of one class. -/
def onl (c : Int) : Nat := if 0 ≤ c ∧ c < 64 then 2 ^ c.toNat else 0
theorem only_any (c : Int) (w : World) : Calls Tryd.prog 68 #[.int .i64 c] w fun e w' => e = .returned (.int .u64 (onl c)) ∧ w' = w := by
  by_cases h0 : c < 0
  · have HO := hid (show onl c = 0 by unfold onl; rw [if_neg (by omega)])
    go_enter Tryd.func68, Tryd.ntmps68
    go_wp2
    go_ret
    exact ⟨by rw [HO.out]; rfl, rfl⟩
  · by_cases h1 : 64 ≤ c
    · have HO := hid (show onl c = 0 by unfold onl; rw [if_neg (by omega)])
      go_enter Tryd.func68, Tryd.ntmps68
      go_wp2
      go_ret
      exact ⟨by rw [HO.out]; rfl, rfl⟩
    · have HO := hid (show onl c = 2 ^ c.toNat by unfold onl; rw [if_pos (by omega)])
      go_enter Tryd.func68, Tryd.ntmps68
      go_wp2
      go_ret
      refine ⟨?_, rfl⟩
      have hlt : (2 : Int) ^ c.toNat < 18446744073709551616 := by
        have h2 : (2 : Nat) ^ c.toNat < 2 ^ 64 := Nat.pow_lt_pow_right (by decide) (by omega)
        have h3 : ((2 ^ c.toNat : Nat) : Int) < ((2 ^ 64 : Nat) : Int) := by exact_mod_cast h2
        simpa using h3
      have hge : (0 : Int) ≤ (2 : Int) ^ c.toNat := Int.pow_nonneg (by decide)
      have e : IntKind.u64.wrap ((2 : Int) ^ c.toNat) = (onl c : Int) := by
        rw [HO.out, IntKind.wrap_u64]
        rw [Int.emod_eq_of_lt hge hlt]
        simp
      show Ending.returned (Value.int IntKind.u64 (IntKind.u64.wrap (2 ^ c.toNat))) = _
      rw [e]
end Go.Proofs.YteacehfihogmpaaDoor
