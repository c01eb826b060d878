/- The runes of a text with their places, and the runs of a set in a text: the mathematics. -/
import Derived.Test.YtfahbdlcokoghabGreatDoorFind
import Derived.Lib.TrimU
namespace Go.Proofs.YtfahbdlcokoghabGreatDoor
open Go.RowKit

/-- The runes of a text from a place on, each with its place. -/
def plrF : Nat → List UInt8 → Nat → List (Nat × Int)
  | 0, _, _ => []
  | n + 1, l, t => if t < l.length then (t, ((Utf8.decode ⟨l.toArray⟩ t).1 : Int)) :: plrF n l (t + (Utf8.decode ⟨l.toArray⟩ t).2) else []
def plr (l : List UInt8) (t : Nat) : List (Nat × Int) := plrF (l.length - t) l t
theorem plrF_any (l : List UInt8) : ∀ (n m t : Nat), l.length - t ≤ n → l.length - t ≤ m → plrF n l t = plrF m l t
  | 0, 0, _, _, _ => rfl
  | 0, m + 1, t, h, _ => by unfold plrF; rw [if_neg (by omega)]
  | n + 1, 0, t, _, h => by unfold plrF; rw [if_neg (by omega)]
  | n + 1, m + 1, t, h, h' => by
    unfold plrF
    have hw := Lib.width_pos ⟨l.toArray⟩ t
    split
    · rw [plrF_any l n m (t + (Utf8.decode ⟨l.toArray⟩ t).2) (by omega) (by omega)]
    · rfl
theorem plr_step (l : List UInt8) (t : Nat) (h : t < l.length) : plr l t = (t, ((Utf8.decode ⟨l.toArray⟩ t).1 : Int)) :: plr l (t + (Utf8.decode ⟨l.toArray⟩ t).2) := by
  have hw := Lib.width_pos ⟨l.toArray⟩ t
  unfold plr
  rw [show l.length - t = (l.length - t - 1) + 1 by omega]
  conv => lhs; unfold plrF
  rw [if_pos h, plrF_any l (l.length - t - 1) (l.length - (t + (Utf8.decode ⟨l.toArray⟩ t).2)) _ (by omega) (by omega)]
theorem plr_end (l : List UInt8) (t : Nat) (h : ¬ t < l.length) : plr l t = [] := by
  unfold plr
  rw [show l.length - t = 0 by omega]; rfl
theorem plr_len (l : List UInt8) : ∀ (n t : Nat), l.length - t ≤ n → (plr l t).length ≤ l.length - t
  | 0, t, h => by rw [plr_end l t (by omega)]; simp
  | n + 1, t, h => by
    by_cases ht : t < l.length
    · have hw := Lib.width_pos ⟨l.toArray⟩ t
      have := plr_len l n (t + (Utf8.decode ⟨l.toArray⟩ t).2) (by omega)
      rw [plr_step l t ht]
      simp; omega
    · rw [plr_end l t ht]; simp

/-- The runs of a set: where each begins and ends; the place where the open one began. -/
def rnF (p : Int → Bool) (N : Nat) : Option Nat → List (Nat × Int) → List (Nat × Nat)
  | none, [] => []
  | some f, [] => [(f, N)]
  | none, x :: t => if p x.2 then rnF p N (some x.1) t else rnF p N none t
  | some f, x :: t => if p x.2 then rnF p N (some f) t else (f, x.1) :: rnF p N none t
def rnl (p : Int → Bool) (l : List UInt8) : List (Nat × Nat) := rnF p l.length none (plr l 0)

/-- Two places of a text, the second not ahead of the first. -/
abbrev Tw (l : List UInt8) := { x : Nat × Nat // x.1 ≤ x.2 ∧ x.2 ≤ l.length }
def tws (l : List UInt8) (xs : List (Nat × Nat)) : List (Tw l) := xs.filterMap fun x => if h : x.1 ≤ x.2 ∧ x.2 ≤ l.length then some ⟨x, h⟩ else none
theorem tws_cons (l : List UInt8) (x : Nat × Nat) (t : List (Nat × Nat)) (h : x.1 ≤ x.2 ∧ x.2 ≤ l.length) : tws l (x :: t) = ⟨x, h⟩ :: tws l t := by
  unfold tws
  rw [List.filterMap_cons]
  simp only [h, and_self, dite_true]
theorem tws_len (l : List UInt8) (xs : List (Nat × Nat)) : (tws l xs).length ≤ xs.length := List.length_filterMap_le ..
theorem rnF_len (p : Int → Bool) (N : Nat) : ∀ (xs : List (Nat × Int)) (f : Option Nat), (rnF p N f xs).length ≤ xs.length + 1
  | [], none => by simp [rnF]
  | [], some f => by simp [rnF]
  | x :: t, none => by
    unfold rnF
    split
    · have := rnF_len p N t (some x.1); simp; omega
    · have := rnF_len p N t none; simp; omega
  | x :: t, some f => by
    unfold rnF
    split
    · have := rnF_len p N t (some f); simp; omega
    · have := rnF_len p N t none; simp; omega
theorem rnl_len (p : Int → Bool) (l : List UInt8) : (tws l (rnl p l)).length ≤ l.length + 1 := by
  have h1 := tws_len l (rnl p l)
  have h2 := rnF_len p l.length (plr l 0) none
  have h3 := plr_len l l.length 0 (by omega)
  unfold rnl at h1 ⊢
  omega
/-- What is to come of the runs, at a place, with what is open. -/
def rst (p : Int → Bool) (l : List UInt8) (f : Option Nat) (t : Nat) : List (Tw l) := tws l (rnF p l.length f (plr l t))
theorem rst_in0 (p : Int → Bool) (l : List UInt8) (t : Nat) (h : t < l.length) (hp : p ((Utf8.decode ⟨l.toArray⟩ t).1 : Int) = true) : rst p l none t = rst p l (some t) (t + (Utf8.decode ⟨l.toArray⟩ t).2) := by
  unfold rst; rw [plr_step l t h, rnF, if_pos hp]
theorem rst_in1 (p : Int → Bool) (l : List UInt8) (f t : Nat) (h : t < l.length) (hp : p ((Utf8.decode ⟨l.toArray⟩ t).1 : Int) = true) : rst p l (some f) t = rst p l (some f) (t + (Utf8.decode ⟨l.toArray⟩ t).2) := by
  unfold rst; rw [plr_step l t h, rnF, if_pos hp]
theorem rst_out0 (p : Int → Bool) (l : List UInt8) (t : Nat) (h : t < l.length) (hp : p ((Utf8.decode ⟨l.toArray⟩ t).1 : Int) = false) : rst p l none t = rst p l none (t + (Utf8.decode ⟨l.toArray⟩ t).2) := by
  unfold rst; rw [plr_step l t h, rnF, if_neg (by rw [hp]; decide)]
theorem rst_out1 (p : Int → Bool) (l : List UInt8) (f t : Nat) (h : t < l.length) (hf : f ≤ t) (hp : p ((Utf8.decode ⟨l.toArray⟩ t).1 : Int) = false) : rst p l (some f) t = ⟨(f, t), hf, by show t ≤ l.length; omega⟩ :: rst p l none (t + (Utf8.decode ⟨l.toArray⟩ t).2) := by
  unfold rst
  rw [plr_step l t h, rnF, if_neg (by rw [hp]; decide)]
  exact tws_cons l (f, t) _ ⟨hf, by show t ≤ l.length; omega⟩
theorem rst_end0 (p : Int → Bool) (l : List UInt8) (t : Nat) (h : ¬ t < l.length) : rst p l none t = [] := by
  unfold rst; rw [plr_end l t h]; rfl
theorem rst_end1 (p : Int → Bool) (l : List UInt8) (f t : Nat) (h : ¬ t < l.length) (hf : f ≤ l.length) : rst p l (some f) t = [⟨(f, l.length), hf, Nat.le_refl _⟩] := by
  unfold rst
  rw [plr_end l t h, rnF]
  exact tws_cons l (f, l.length) [] ⟨hf, Nat.le_refl _⟩
/-- The place where a run began, as the program keeps it. -/
def frI : Option Nat → Int
  | none => -1
  | some f => f
end Go.Proofs.YtfahbdlcokoghabGreatDoor

