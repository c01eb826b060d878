/- The runs of a set in a text, rune by rune: the mathematics. -/
import Derived.Test.YtfahbdlcokoghabDoorRRunes
import Derived.Test.YtfahbdlcokoghabDoorKeep
import Derived.Test.YtfahbdlcokoghabDoorNormWalk
namespace Go.Proofs.YtfahbdlcokoghabDoor
open Go.RowKit

/-- Where the run that is open at the end began. -/
def endO (p : Int → Bool) : Option Nat → List (Nat × Int) → Option Nat
  | f, [] => f
  | none, x :: t => if p x.2 then endO p (some x.1) t else endO p none t
  | some f, x :: t => if p x.2 then endO p (some f) t else endO p none t
/-- The runs that are shut. -/
def clo (p : Int → Bool) : Option Nat → List (Nat × Int) → List (Nat × Nat)
  | _, [] => []
  | none, x :: t => if p x.2 then clo p (some x.1) t else clo p none t
  | some f, x :: t => if p x.2 then clo p (some f) t else (f, x.1) :: clo p none t
def tlo (e : Nat) : Option Nat → List (Nat × Nat)
  | none => []
  | some f => [(f, e)]
theorem rnF_split (p : Int → Bool) (N : Nat) : ∀ (xs : List (Nat × Int)) (f : Option Nat), rnF p N f xs = clo p f xs ++ tlo N (endO p f xs)
  | [], none => rfl
  | [], some f => rfl
  | x :: t, none => by
    unfold rnF clo endO
    split
    · exact rnF_split p N t (some x.1)
    · exact rnF_split p N t none
  | x :: t, some f => by
    unfold rnF clo endO
    split
    · exact rnF_split p N t (some f)
    · rw [rnF_split p N t none]; rfl
theorem endO_snoc (p : Int → Bool) (x : Nat × Int) : ∀ (xs : List (Nat × Int)) (f : Option Nat), endO p f (xs ++ [x]) = if p x.2 then some ((endO p f xs).getD x.1) else none
  | [], none => by
    show (if p x.2 then endO p (some x.1) [] else endO p none []) = _
    rfl
  | [], some f => by
    show (if p x.2 then endO p (some f) [] else endO p none []) = _
    rfl
  | y :: t, none => by
    rw [List.cons_append]
    unfold endO
    split
    · exact endO_snoc p x t (some y.1)
    · exact endO_snoc p x t none
  | y :: t, some f => by
    rw [List.cons_append]
    unfold endO
    split
    · exact endO_snoc p x t (some f)
    · exact endO_snoc p x t none
theorem clo_snoc (p : Int → Bool) (x : Nat × Int) : ∀ (xs : List (Nat × Int)) (f : Option Nat), clo p f (xs ++ [x]) = if p x.2 then clo p f xs else clo p f xs ++ tlo x.1 (endO p f xs)
  | [], none => by
    show (if p x.2 then clo p (some x.1) [] else clo p none []) = _
    unfold endO clo tlo
    split <;> rfl
  | [], some f => by
    show (if p x.2 then clo p (some f) [] else (f, x.1) :: clo p none []) = _
    unfold endO clo tlo
    split <;> rfl
  | y :: t, none => by
    rw [List.cons_append]
    unfold clo endO
    split
    · exact clo_snoc p x t (some y.1)
    · exact clo_snoc p x t none
  | y :: t, some f => by
    rw [List.cons_append]
    unfold clo endO
    split
    · exact clo_snoc p x t (some f)
    · rw [clo_snoc p x t none]
      split
      · rfl
      · rfl
/-- The runs of a beginning of a text that ends at a place. -/
def rnE (p : Int → Bool) (e : Nat) (xs : List (Nat × Int)) : List (Nat × Nat) := clo p none xs ++ tlo e (endO p none xs)
theorem rnE_all (p : Int → Bool) (l : List UInt8) : rnl p l = rnE p l.length (plr l 0) := rnF_split p l.length (plr l 0) none
theorem rnE_no (p : Int → Bool) (e : Nat) (xs : List (Nat × Int)) (x : Nat × Int) (h : p x.2 = false) : rnE p e (xs ++ [x]) = rnE p x.1 xs := by
  unfold rnE
  rw [clo_snoc, endO_snoc, h]
  simp [tlo]
theorem rnE_new (p : Int → Bool) (e : Nat) (xs : List (Nat × Int)) (x : Nat × Int) (h : p x.2 = true) (ho : endO p none xs = none) : rnE p e (xs ++ [x]) = rnE p x.1 xs ++ [(x.1, e)] := by
  unfold rnE
  rw [clo_snoc, endO_snoc, h, ho]
  simp [tlo]
theorem rnE_more (p : Int → Bool) (e : Nat) (xs : List (Nat × Int)) (x : Nat × Int) (f : Nat) (h : p x.2 = true) (ho : endO p none xs = some f) : rnE p e (xs ++ [x]) = clo p none xs ++ [(f, e)] ∧ rnE p x.1 xs = clo p none xs ++ [(f, x.1)] := by
  unfold rnE
  rw [clo_snoc, endO_snoc, h, ho]
  simp [tlo]
theorem endO_last (p : Int → Bool) (xs : List (Nat × Int)) (z : Nat × Int) : (endO p none (xs ++ [z])).isSome = p z.2 := by
  rw [endO_snoc]
  cases p z.2 <;> rfl

/-- The places of a text rise. -/
def upF : Nat → Nat → List (Nat × Int) → Prop
  | _, _, [] => True
  | b, N, x :: t => b ≤ x.1 ∧ x.1 < N ∧ upF (x.1 + 1) N t
theorem upF_mono : ∀ {xs : List (Nat × Int)} {b c N : Nat}, upF b N xs → c ≤ b → upF c N xs
  | [], _, _, _, _, _ => trivial
  | x :: t, b, c, N, h, hc => ⟨by have := h.1; omega, h.2⟩
theorem plr_up (l : List UInt8) : ∀ (n t : Nat), l.length - t ≤ n → upF t l.length (plr l t)
  | 0, t, h => by rw [plr_end l t (by omega)]; trivial
  | n + 1, t, h => by
    by_cases ht : t < l.length
    · have hw := Lib.width_pos ⟨l.toArray⟩ t
      have ih := plr_up l n (t + (Utf8.decode ⟨l.toArray⟩ t).2) (by omega)
      rw [plr_step l t ht]
      exact ⟨Nat.le_refl _, ht, upF_mono ih (by show t + 1 ≤ _; omega)⟩
    · rw [plr_end l t ht]; trivial
theorem upF_app : ∀ {xs : List (Nat × Int)} {b N : Nat} {x : Nat × Int} {ys : List (Nat × Int)}, upF b N (xs ++ x :: ys) → upF b x.1 xs ∧ b ≤ x.1 ∧ x.1 < N ∧ upF (x.1 + 1) N ys
  | [], b, N, x, ys, h => ⟨trivial, h.1, h.2.1, h.2.2⟩
  | y :: t, b, N, x, ys, h => by
    have ih := upF_app h.2.2
    have := h.1
    have h2 := ih.2.1
    exact ⟨⟨h.1, by omega, ih.1⟩, by omega, ih.2.2⟩
theorem nxt_bd {b N : Nat} : ∀ {ys : List (Nat × Int)}, upF b N ys → b ≤ N → b ≤ nxt N ys ∧ nxt N ys ≤ N
  | [], _, h => ⟨h, Nat.le_refl _⟩
  | _ :: _, h, _ => ⟨h.1, Nat.le_of_lt h.2.1⟩
theorem endO_bd (p : Int → Bool) : ∀ {xs : List (Nat × Int)} {f : Option Nat} {b N s : Nat}, upF b N xs → b ≤ N → (∀ g, f = some g → g ≤ b) → endO p f xs = some s → s ≤ N
  | [], f, b, N, s, _, hb, hf, h => by have := hf s h; omega
  | x :: t, none, b, N, s, hu, hb, hf, h => by
    unfold endO at h
    have h1 := hu.2.1
    split at h
    · exact endO_bd p hu.2.2 h1 (fun g e => by cases e; omega) h
    · exact endO_bd p hu.2.2 h1 (fun g e => by cases e) h
  | x :: t, some f, b, N, s, hu, hb, hf, h => by
    unfold endO at h
    have h1 := hu.2.1
    have h0 := hu.1
    have h2 := hf f rfl
    split at h
    · exact endO_bd p hu.2.2 h1 (fun g e => by cases e; omega) h
    · exact endO_bd p hu.2.2 h1 (fun g e => by cases e) h
theorem cls_get (e : Nat) : ∀ (xs ys : List (Nat × Int)) (x : Nat × Int), (cls e (xs ++ x :: ys))[xs.length]? = some (x.2, x.1, nxt e ys)
  | [], ys, x => rfl
  | z :: xs, ys, x => by
    rw [List.cons_append, cls, List.length_cons, List.getElem?_cons_succ]
    exact cls_get e xs ys x
/-- A rune of a text, with what is ahead and behind. -/
theorem txt_at (l : List UInt8) (k : Nat) (hk : k < (txt l).length) : ∃ (xs ys : List (Nat × Int)) (x : Nat × Int), plr l 0 = xs ++ x :: ys ∧ xs.length = k ∧ (txt l)[k]? = some (x.2, x.1, nxt l.length ys) ∧ upF 0 x.1 xs ∧ x.1 < nxt l.length ys ∧ nxt l.length ys ≤ l.length := by
  unfold txt at hk ⊢
  rw [cls_len] at hk
  have e : plr l 0 = (plr l 0).take k ++ (plr l 0)[k] :: (plr l 0).drop (k + 1) := by
    rw [← List.drop_eq_getElem_cons hk, List.take_append_drop]
  have hl : ((plr l 0).take k).length = k := by rw [List.length_take]; omega
  have hu := plr_up l l.length 0 (by omega)
  rw [e] at hu
  obtain ⟨u1, _, u3, u4⟩ := upF_app hu
  have hn := nxt_bd u4 (by omega)
  refine ⟨_, _, _, e, hl, ?_, u1, by omega, hn.2⟩
  have h := cls_get l.length ((plr l 0).take k) ((plr l 0).drop (k + 1)) (plr l 0)[k]
  rw [← e, hl] at h
  exact h
/-- The place where the rest begins. -/
theorem pre_end (l : List UInt8) (k : Nat) (hk : ¬ k < (txt l).length) (xs ys : List (Nat × Int)) (h : plr l 0 = xs ++ ys) (hx : xs.length = k) : ys = [] ∧ xs = plr l 0 := by
  unfold txt at hk
  rw [cls_len, h, List.length_append] at hk
  have : ys = [] := List.length_eq_zero_iff.1 (by omega)
  subst this
  exact ⟨rfl, by rw [h, List.append_nil]⟩
theorem pre_next {l : List UInt8} {xs ys xs' ys' : List (Nat × Int)} {x : Nat × Int} (h : plr l 0 = xs ++ ys) (h' : plr l 0 = xs' ++ x :: ys') (hl : xs'.length = xs.length) : xs' = xs ∧ ys = x :: ys' := by
  rw [h] at h'
  obtain ⟨h1, h2⟩ := List.append_inj h' hl.symm
  exact ⟨h1.symm, h2⟩
theorem hasR_nrmB (r : Int) (g : List Rg) : hasR r g = hasB r (nrm g) := by
  refine Bool.eq_iff_iff.2 ?_
  rw [hasR_iff, hasB_iff, nrm_in]
end Go.Proofs.YtfahbdlcokoghabDoor

