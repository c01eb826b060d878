/- The spelling of a set, the mathematics: digits, and how many of them stand at a place. -/
import Derived.Test.YtfahbdlcokoghabGreatDoorRows2
namespace Go.Proofs.YtfahbdlcokoghabGreatDoor

def isHx (c : UInt8) : Bool := (decide (48 ≤ c.toNat) && decide (c.toNat ≤ 57)) || (decide (65 ≤ c.toNat) && decide (c.toNat ≤ 70))
theorem isHx_iff (c : UInt8) : isHx c = true ↔ (48 ≤ c.toNat ∧ c.toNat ≤ 57) ∨ (65 ≤ c.toNat ∧ c.toNat ≤ 70) := by
  unfold isHx; simp
def hxV (c : UInt8) : Nat := if c.toNat ≤ 57 then c.toNat - 48 else c.toNat - 55
def hxs : Nat → List UInt8 → Nat
  | a, [] => a
  | a, c :: t => hxs (a * 16 + hxV c) t
theorem hxV_lt {c : UInt8} (h : isHx c = true) : hxV c < 16 := by
  rw [isHx_iff] at h
  unfold hxV
  split <;> omega
theorem hxs_le : ∀ (t : List UInt8) (a : Nat), (∀ c, c ∈ t → isHx c = true) → hxs a t < (a + 1) * 16 ^ t.length
  | [], a, _ => by simp [hxs]
  | c :: t, a, h => by
    have h1 := hxV_lt (h c (by simp))
    have h2 := hxs_le t (a * 16 + hxV c) (fun d hd => h d (by simp [hd]))
    have h3 : (a * 16 + hxV c + 1) * 16 ^ t.length ≤ ((a + 1) * 16) * 16 ^ t.length := Nat.mul_le_mul_right _ (by omega)
    rw [show hxs a (c :: t) = hxs (a * 16 + hxV c) t from rfl, List.length_cons, Nat.pow_succ]
    rw [Nat.mul_comm (16 ^ t.length) 16, ← Nat.mul_assoc]
    omega
theorem hxs_mono : ∀ (t : List UInt8) (a : Nat), a ≤ hxs a t
  | [], a => Nat.le_refl _
  | c :: t, a => by
    have := hxs_mono t (a * 16 + hxV c)
    rw [show hxs a (c :: t) = hxs (a * 16 + hxV c) t from rfl]
    omega

/-- How many digits stand at a place. -/
def hxn (l : List UInt8) (b : Nat) : Nat := ((l.drop b).takeWhile isHx).length
theorem hxn_yes {l : List UInt8} {e : Nat} (he : e < l.length) (h : isHx l[e] = true) : hxn l e = hxn l (e + 1) + 1 := by
  unfold hxn
  rw [List.drop_eq_getElem_cons he, List.takeWhile_cons, if_pos h, List.length_cons]
theorem hxn_no {l : List UInt8} {e : Nat} (he : e < l.length) (h : ¬ isHx l[e] = true) : hxn l e = 0 := by
  unfold hxn
  rw [List.drop_eq_getElem_cons he, List.takeWhile_cons, if_neg h]; rfl
theorem hxn_end {l : List UInt8} {e : Nat} (he : ¬ e < l.length) : hxn l e = 0 := by
  unfold hxn
  rw [List.drop_of_length_le (by omega)]; rfl
theorem hxn_le (l : List UInt8) (b : Nat) : hxn l b ≤ l.length - b := by
  unfold hxn
  have := (List.takeWhile_prefix (l := l.drop b) isHx).length_le
  simpa using this
theorem hxn_take (l : List UInt8) (b : Nat) : (l.drop b).take (hxn l b) = (l.drop b).takeWhile isHx := by
  exact (List.prefix_iff_eq_take.1 (List.takeWhile_prefix (l := l.drop b) isHx)).symm
theorem hxn_all (l : List UInt8) (b : Nat) : ∀ c, c ∈ (l.drop b).take (hxn l b) → isHx c = true := fun c hc => by
  rw [hxn_take] at hc
  exact List.all_eq_true.1 (List.all_takeWhile (p := isHx) (l := l.drop b)) c hc

/-- The number that is spelled at a place by U+ and digits: the rune, the place behind it, no error; or 0, the place and the error. -/
def cdd (l : List UInt8) (at' : Nat) : Int × Nat × Int :=
  if hxn l (at' + 2) < 4 ∨ 6 < hxn l (at' + 2) then (0, at', 21)
  else if 1114111 < hxs 0 ((l.drop (at' + 2)).take (hxn l (at' + 2))) then (0, at', 22)
  else ((hxs 0 ((l.drop (at' + 2)).take (hxn l (at' + 2))) : Nat), at' + 2 + hxn l (at' + 2), 0)
end Go.Proofs.YtfahbdlcokoghabGreatDoor

