/- Trail, rune by rune from the end; the names of classes. -/
import Derived.Test.YtkophiklkgefnaaDoorTxMath
import Derived.Test.YtkophiklkgefnaaDoorWhTrl
import Derived.Test.YtkophiklkgefnaaDoorDbAny
namespace Go.Proofs.YtkophiklkgefnaaDoor.Ln
open Go.RowKit

theorem trl_start (l : List UInt8) : trl l = trl (l.take (plc l (rl l).length)) := by rw [plc_all l _ (Nat.le_refl _), List.take_length]
theorem trl_more (l : List UInt8) (k : Nat) (x : Nat × Nat) (h : (rl l)[k]? = some x) (hc : amg [4, 1, 2, 3, 5] (lncls x.1) = true) : trl (l.take (plc l (k + 1))) = trl (l.take (plc l k)) := by
  obtain ⟨h1, h2, h3⟩ := take_last l k x h
  unfold trl
  rw [wthL_yes _ _ h1 (by unfold lnlast; rw [if_neg h1, h2]; exact hc), h3]
theorem trl_stop (l : List UInt8) (k : Nat) (x : Nat × Nat) (h : (rl l)[k]? = some x) (hc : amg [4, 1, 2, 3, 5] (lncls x.1) = false) : (trl (l.take (plc l (k + 1)))).length = plc l (k + 1) := by
  obtain ⟨h1, h2, h3⟩ := take_last l k x h
  unfold trl
  rw [wthL_no _ _ (by unfold lnlast; rw [if_neg h1, h2]; exact hc), List.length_take]
  have := plc_le l (k + 1)
  omega
theorem lncls_bd (r : Nat) (h : r ≤ 1114111) : ∃ c : Nat, lncls (r : Int) = (c : Int) ∧ c < 26 := by
  refine ⟨_, Dc.ln_get (r : Int) (by omega) (by omega), ?_⟩
  have e := Dc.gtp_lt Dc.lnW _ Dc.ln_cov Dc.ln_cls (r : Int) (by omega) (by omega)
  exact e
/-- Of which class a name is. -/
theorem lnN_eq (c : Nat) (h : c < 26) (k : Nat) (hk : k < 26) : (Dc.lnN (c : Int) == Dc.lnN (k : Int)) = decide (c = k) := by
  have H : ∀ a : Fin 26, ∀ b : Fin 26, (Dc.lnN ((a : Nat) : Int) == Dc.lnN ((b : Nat) : Int)) = decide ((a : Nat) = (b : Nat)) := by decide +kernel
  exact H ⟨c, h⟩ ⟨k, hk⟩
theorem trl_cls (c : Nat) (h : c < 26) (hm : amg [4, 1, 2, 3, 5] (c : Int) = true) : c = 4 ∨ c = 1 ∨ c = 2 ∨ c = 3 ∨ c = 5 := by
  have H : ∀ a : Fin 26, amg [4, 1, 2, 3, 5] ((a : Nat) : Int) = true → (a : Nat) = 4 ∨ (a : Nat) = 1 ∨ (a : Nat) = 2 ∨ (a : Nat) = 3 ∨ (a : Nat) = 5 := by decide +kernel
  exact H ⟨c, h⟩ hm
theorem trl_ncls (c : Nat) (hm : ¬ amg [4, 1, 2, 3, 5] (c : Int) = true) : c ≠ 4 ∧ c ≠ 1 ∧ c ≠ 2 ∧ c ≠ 3 ∧ c ≠ 5 := by
  refine ⟨?_, ?_, ?_, ?_, ?_⟩ <;> (rintro rfl; exact hm (by decide))
theorem lnN_ne (c : Nat) (h : c < 26) (k : Nat) (hk : k < 26) (hne : c ≠ k) (b : List UInt8) (hb : Dc.lnN (k : Int) = b) : (Dc.lnN (c : Int) == b) = false := by
  rw [← hb, lnN_eq c h k hk]
  exact decide_eq_false hne
end Go.Proofs.YtkophiklkgefnaaDoor.Ln
