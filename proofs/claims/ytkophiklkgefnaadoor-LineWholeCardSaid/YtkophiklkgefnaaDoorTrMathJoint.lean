/- The contract of Trail (package line): the length of the text but for the blank runes and line ends behind it. -/
import Derived.Test.YtkophiklkgefnaaDoorLnFun2
import Derived.Test.YtkophiklkgefnaaDoorRMath
import Derived.Test.YtkophiklkgefnaaDoorDcE
import Derived.Test.YtkophiklkgefnaaDoorDbAny
namespace Go.Proofs.YtkophiklkgefnaaDoor.Ln
open Go.RowKit

/-- A text but for what may be left off at a line's end. -/
def trl (l : List UInt8) : List UInt8 := wthL [4, 1, 2, 3, 5] l
theorem trail_any (l : List UInt8) (w : World) (ht : Tb w) (hl : l.length ≤ 1000000000) :
    Calls Tryd.prog 25 #[.string ⟨l.toArray⟩] w fun e w' => e = .returned (.int .i64 ((trl l).length : Nat)) ∧ Below w.heap.size w w' := by
  have HT := hid ht
  clear ht
  go_enter Tryd.func25, Tryd.ntmps25
  go_wp2_with fail
  refine (without_lit l [4, 1, 2, 3, 5] w HT.out hl (by decide) (by decide)).mono ?_
  rintro e w1 ⟨rfl, be⟩
  have HB := hid be
  obtain ⟨b, hb⟩ : ∃ b, b = wthL [4, 1, 2, 3, 5] l := ⟨_, rfl⟩
  have HV := hid (show (trl l).length = b.length by rw [hb]; rfl)
  rw [← hb]
  clear hb be
  go_wp2
  go_ret
  exact ⟨by rw [HV.out]; simp, HB.out⟩
end Go.Proofs.YtkophiklkgefnaaDoor.Ln
/- The document's runes of a text, said by the list of runes and widths; a text but for its last rune. -/
namespace Go.Proofs.YtkophiklkgefnaaDoor

/-- The entries of a list of runes with widths, from a place on. -/
def ent : Nat → List (Nat × Nat) → List Dc.Trp
  | _, [] => []
  | p, x :: X => ((x.1 : Int), p, p + x.2) :: ent (p + x.2) X
theorem cls_ent (l : List UInt8) : ∀ (n p : Nat), l.length - p ≤ n → p ≤ l.length → Dc.cls l.length (Dc.plr l p) = ent p (rl (l.drop p))
  | 0, p, h, hp => by
    rw [Dc.plr_end l p (by omega), List.drop_of_length_le (by omega)]
    rfl
  | n + 1, p, h, hp => by
    by_cases hlt : p < l.length
    · have hne := drop_ne l p hlt
      have w1 := wid_ge l p hlt
      have w2 := wid_le l p hlt
      have ih := cls_ent l n (p + wid l p) (by omega) w2
      rw [Dc.plr_step l p hlt, decode_place l p hlt, rl_cons _ hne, List.drop_drop]
      show Dc.cls l.length ((p, ((dec (l.drop p)).1 : Int)) :: Dc.plr l (p + wid l p)) = (((dec (l.drop p)).1 : Int), p, p + wid l p) :: ent (p + wid l p) (rl (l.drop (p + wid l p)))
      rw [Dc.cls, ih]
      congr 3
      by_cases h5 : p + wid l p < l.length
      · rw [Dc.plr_step l _ h5]; rfl
      · rw [Dc.plr_end l _ h5]; show l.length = _; omega
    · rw [Dc.plr_end l p hlt, List.drop_of_length_le (by omega)]
      rfl
theorem txt_ent (l : List UInt8) : Dc.txt l = ent 0 (rl l) := by
  have h := cls_ent l l.length 0 (by omega) (by omega)
  rw [List.drop_zero] at h
  exact h
theorem ent_len : ∀ (X : List (Nat × Nat)) (p : Nat), (ent p X).length = X.length
  | [], _ => rfl
  | x :: X, p => by rw [ent, List.length_cons, List.length_cons, ent_len X]
theorem ent_at : ∀ (X : List (Nat × Nat)) (p k : Nat) (x : Nat × Nat), X[k]? = some x → (ent p X)[k]? = some ((x.1 : Int), p + psm (X.take k), p + psm (X.take (k + 1)))
  | [], _, _, _, h => by cases h
  | y :: X, p, 0, x, h => by cases h; simp [ent, psm]
  | y :: X, p, k + 1, x, h => by
    have ih := ent_at X (p + y.2) k x (by simpa using h)
    rw [ent, List.getElem?_cons_succ, ih, List.take_succ_cons, List.take_succ_cons, psm_cons, psm_cons]
    simp only [Option.some.injEq, Prod.mk.injEq, true_and]
    omega
theorem txt_len (l : List UInt8) : (Dc.txt l).length = (rl l).length := by rw [txt_ent, ent_len]
/-- The place behind k runes. -/
def plc (l : List UInt8) (k : Nat) : Nat := psm ((rl l).take k)
theorem plc_zero (l : List UInt8) : plc l 0 = 0 := rfl
theorem plc_all (l : List UInt8) (k : Nat) (h : (rl l).length ≤ k) : plc l k = l.length := by
  unfold plc
  rw [List.take_of_length_le h, rl_sum l.length l (Nat.le_refl _)]
theorem psm_mono (X : List (Nat × Nat)) : ∀ (k : Nat), psm (X.take k) ≤ psm X := fun k => by
  conv => rhs; rw [← List.take_append_drop k X, psm_app]
  omega
theorem plc_le (l : List UInt8) (k : Nat) : plc l k ≤ l.length := by
  have h := psm_mono (rl l) k
  rw [rl_sum l.length l (Nat.le_refl _)] at h
  exact h
theorem plc_succ (l : List UInt8) (k : Nat) (x : Nat × Nat) (h : (rl l)[k]? = some x) : plc l (k + 1) = plc l k + x.2 := by
  obtain ⟨hk, rfl⟩ := List.getElem?_eq_some_iff.1 h
  unfold plc
  rw [List.take_succ_eq_append_getElem hk, psm_app, psm_cons, psm_nil]
  rfl
theorem txt_at (l : List UInt8) (k : Nat) (x : Nat × Nat) (h : (rl l)[k]? = some x) : (Dc.txt l)[k]? = some ((x.1 : Int), plc l k, plc l (k + 1)) := by
  rw [txt_ent, ent_at (rl l) 0 k x h]
  simp [plc]
theorem rl_take (l : List UInt8) (k : Nat) (h : k ≤ (rl l).length) : rl (l.take (plc l k)) = (rl l).take k := (rl_cut k l h).1
theorem rl_drop (l : List UInt8) (k : Nat) (h : k ≤ (rl l).length) : rl (l.drop (plc l k)) = (rl l).drop k := (rl_cut k l h).2
theorem rl_ne {l : List UInt8} (h : l ≠ []) : rl l ≠ [] := by rw [rl_cons l h]; exact fun e => by cases e
theorem rl_rune (l : List UInt8) : ∀ x ∈ rl l, x.1 ≤ 1114111 := by
  have H : ∀ (n : Nat) (l : List UInt8), l.length ≤ n → ∀ x ∈ rl l, x.1 ≤ 1114111 := by
    intro n
    induction n with
    | zero => intro l h x hx; rw [List.length_eq_zero_iff.1 (by omega : l.length = 0)] at hx; cases hx
    | succ n ih =>
      intro l h x hx
      by_cases hl : l = []
      · subst hl; cases hx
      · rw [rl_cons l hl] at hx
        have w1 := dec_ge l hl
        rcases List.mem_cons.1 hx with rfl | hx
        · exact dec_rune l hl
        · exact ih (l.drop (dec l).2) (by rw [List.length_drop]; have : l.length ≠ 0 := fun e => hl (List.length_eq_zero_iff.1 e); omega) x hx
  exact H l.length l (Nat.le_refl _)
/-- The beginning of k + 1 runes: its last rune, and what is left without it. -/
theorem take_last (l : List UInt8) (k : Nat) (x : Nat × Nat) (h : (rl l)[k]? = some x) : l.take (plc l (k + 1)) ≠ [] ∧ decLast (l.take (plc l (k + 1))) = x ∧ ltl (l.take (plc l (k + 1))) = l.take (plc l k) := by
  obtain ⟨hk, hx⟩ := List.getElem?_eq_some_iff.1 h
  have h1 := rl_take l (k + 1) (by omega)
  have h2 : l.take (plc l (k + 1)) ≠ [] := fun e => by
    rw [e, rl_nil, List.take_succ_eq_append_getElem hk] at h1
    have h9 := congrArg List.length h1
    rw [List.length_append] at h9
    simp at h9
  have h3 := rl_snoc _ h2
  rw [h1, List.take_succ_eq_append_getElem hk] at h3
  have h4 : (rl l).take k = rl (ltl (l.take (plc l (k + 1)))) ∧ [(rl l)[k]] = [decLast (l.take (plc l (k + 1)))] := List.append_inj' h3 rfl
  have h5 : decLast (l.take (plc l (k + 1))) = x := by
    have h6 := h4.2
    simp only [List.cons.injEq, and_true] at h6
    rw [← h6, hx]
  refine ⟨h2, h5, ?_⟩
  have h7 := plc_succ l k x h
  have h8 := plc_le l (k + 1)
  unfold ltl
  rw [h5, List.length_take, List.take_take]
  congr 1
  omega
end Go.Proofs.YtkophiklkgefnaaDoor
/- Trail, rune by rune from the end; the names of classes. -/
namespace Go.Proofs.YtkophiklkgefnaaDoor.Ln
open Go.RowKit

theorem trl_start (l : List UInt8) : trl l = trl (l.take (plc l (rl l).length)) := by rw [plc_all l _ (Nat.le_refl _), List.take_length]
theorem trl_more (l : List UInt8) (k : Nat) (x : Nat × Nat) (h : (rl l)[k]? = some x) (hc : amg [4, 1, 2, 3, 5] (lncls x.1) = true) : trl (l.take (plc l (k + 1))) = trl (l.take (plc l k)) := by
  obtain ⟨h1, h2, h3⟩ := take_last l k x h
  unfold trl
  rw [wthL_yes _ _ h1 (by unfold lnlast; rw [if_neg h1, h2]; exact hc), h3]
theorem trl_stop (l : List UInt8) (k : Nat) (x : Nat × Nat) (h : (rl l)[k]? = some x) (hc : amg [4, 1, 2, 3, 5] (lncls x.1) = false) : (trl (l.take (plc l (k + 1)))).length = plc l (k + 1) := by
  obtain ⟨h1, h2, h3⟩ := take_last l k x h
  unfold trl
  rw [wthL_no _ _ (by unfold lnlast; rw [if_neg h1, h2]; exact hc), List.length_take]
  have := plc_le l (k + 1)
  omega
theorem lncls_bd (r : Nat) (h : r ≤ 1114111) : ∃ c : Nat, lncls (r : Int) = (c : Int) ∧ c < 26 := by
  refine ⟨_, Dc.ln_get (r : Int) (by omega) (by omega), ?_⟩
  have e := Dc.gtp_lt Dc.lnW _ Dc.ln_cov Dc.ln_cls (r : Int) (by omega) (by omega)
  exact e
/-- Of which class a name is. -/
theorem lnN_eq (c : Nat) (h : c < 26) (k : Nat) (hk : k < 26) : (Dc.lnN (c : Int) == Dc.lnN (k : Int)) = decide (c = k) := by
  have H : ∀ a : Fin 26, ∀ b : Fin 26, (Dc.lnN ((a : Nat) : Int) == Dc.lnN ((b : Nat) : Int)) = decide ((a : Nat) = (b : Nat)) := by decide +kernel
  exact H ⟨c, h⟩ ⟨k, hk⟩
theorem trl_cls (c : Nat) (h : c < 26) (hm : amg [4, 1, 2, 3, 5] (c : Int) = true) : c = 4 ∨ c = 1 ∨ c = 2 ∨ c = 3 ∨ c = 5 := by
  have H : ∀ a : Fin 26, amg [4, 1, 2, 3, 5] ((a : Nat) : Int) = true → (a : Nat) = 4 ∨ (a : Nat) = 1 ∨ (a : Nat) = 2 ∨ (a : Nat) = 3 ∨ (a : Nat) = 5 := by decide +kernel
  exact H ⟨c, h⟩ hm
theorem trl_ncls (c : Nat) (hm : ¬ amg [4, 1, 2, 3, 5] (c : Int) = true) : c ≠ 4 ∧ c ≠ 1 ∧ c ≠ 2 ∧ c ≠ 3 ∧ c ≠ 5 := by
  refine ⟨?_, ?_, ?_, ?_, ?_⟩ <;> (rintro rfl; exact hm (by decide))
theorem lnN_ne (c : Nat) (h : c < 26) (k : Nat) (hk : k < 26) (hne : c ≠ k) (b : List UInt8) (hb : Dc.lnN (k : Int) = b) : (Dc.lnN (c : Int) == b) = false := by
  rw [← hb, lnN_eq c h k hk]
  exact decide_eq_false hne
end Go.Proofs.YtkophiklkgefnaaDoor.Ln
