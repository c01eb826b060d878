/- ChMath, PtMath: parts of the proof, joined. -/
import Derived.Test.YtbajepdkgeldlaaGreatDoorProg
namespace Go.Proofs.YtbajepdkgeldlaaGreatDoor.Br
inductive Chn : Nat -> Nat -> List (Nat × Nat) -> Prop where
 | nil (p : Nat) : Chn p p []
 | cons {p t e : Nat} {P : List (Nat × Nat)} : p < t -> Chn t e P -> Chn p e ((p, t) :: P)
def bds (p : Nat) (P : List (Nat × Nat)) : List Nat := p :: P.map (·.2)
def abv (z : Int) (e : Nat) : List Nat -> Nat
 | [] => e
 | x :: D => if z < (x : Int) then x else abv z e D
def arn (z : Int) : List Nat -> Nat × Nat
 | x :: y :: D => if (x : Int) <= z /\ z < (y : Int) then (x, y) else arn z (y :: D)
 | _ => (0, 0)
theorem bds_cons (p t : Nat) (P : List (Nat × Nat)) : bds p ((p, t) :: P) = p :: bds t P := rfl
theorem Chn.le {p e : Nat} {P : List (Nat × Nat)} (h : Chn p e P) : p <= e := by
 induction h with
 | nil => exact Nat.le_refl _
 | cons h1 _ ih => omega
theorem Chn.mem {p e : Nat} {P : List (Nat × Nat)} (h : Chn p e P) {f t : Nat} (hm : (f, t) ∈ P) : p <= f /\ f < t /\ t <= e := by
 induction h with
 | nil => cases hm
 | cons h1 h2 ih =>
  have := h2.le
  cases hm with
  | head => exact ⟨Nat.le_refl _, h1, this⟩
  | tail _ hm => have := ih hm; omega
theorem Chn.abv_in {p e : Nat} {P : List (Nat × Nat)} (h : Chn p e P) {f t : Nat} {z : Int} (hm : (f, t) ∈ P) (h1 : (f : Int) <= z) (h2 : z < t) (d : Nat) : abv z d (bds p P) = t := by
 induction h with
 | nil => cases hm
 | @cons p q e P k1 k2 ih =>
  rw [bds_cons, abv]
  cases hm with
  | head =>
   rw [if_neg (by omega)]
   unfold bds abv
   rw [if_pos h2]
  | tail _ hm =>
   have := k2.mem hm
   rw [if_neg (by omega)]
   exact ih hm
theorem abv_low {p : Nat} {P : List (Nat × Nat)} {z : Int} (h1 : z < p) (d : Nat) : abv z d (bds p P) = p := by
 unfold bds abv
 rw [if_pos h1]
theorem Chn.abv_high {p e : Nat} {P : List (Nat × Nat)} (h : Chn p e P) {z : Int} (h1 : (e : Int) <= z) (d : Nat) : abv z d (bds p P) = d := by
 induction h with
 | nil => unfold bds abv; rw [if_neg (by omega)]; rfl
 | cons k1 k2 ih =>
  have := k2.le
  rw [bds_cons, abv, if_neg (by omega)]
  exact ih h1
theorem Chn.arn_in {p e : Nat} {P : List (Nat × Nat)} (h : Chn p e P) {f t : Nat} {z : Int} (hm : (f, t) ∈ P) (h1 : (f : Int) <= z) (h2 : z < t) : arn z (bds p P) = (f, t) := by
 induction h with
 | nil => cases hm
 | @cons p q e P k1 k2 ih =>
  rw [bds_cons]
  unfold bds arn
  cases hm with
  | head => rw [if_pos ⟨h1, h2⟩]
  | tail _ hm =>
   have := k2.mem hm
   rw [if_neg (by omega)]
   exact ih hm
theorem Chn.arn_out {p e : Nat} {P : List (Nat × Nat)} (h : Chn p e P) {z : Int} (hz : z < p \/ (e : Int) <= z) : arn z (bds p P) = (0, 0) := by
 induction h with
 | nil => rfl
 | cons k1 k2 ih =>
  have := k2.le
  rw [bds_cons]
  unfold bds arn
  rw [if_neg (by omega)]
  exact ih (by omega)
theorem Chn.is_in {p e : Nat} {P : List (Nat × Nat)} (h : Chn p e P) {f t : Nat} {z : Int} (hm : (f, t) ∈ P) (h1 : (f : Int) <= z) (h2 : z < t) : (bds p P).any (fun x => (x : Int) == z) = decide ((f : Int) = z) := by
 have low : ∀ {p e : Nat} {P : List (Nat × Nat)} (h : Chn p e P), z < p -> (bds p P).any (fun x => (x : Int) == z) = false := by
  intro p e P h
  induction h with
  | nil => intro hz; simp [bds]; omega
  | cons k1 k2 ih => intro hz; rw [bds_cons, List.any_cons, ih (by omega)]; simp; omega
 induction h with
 | nil => cases hm
 | @cons p q e P k1 k2 ih =>
  rw [bds_cons, List.any_cons]
  cases hm with
  | head => rw [low k2 h2]; simp; rfl
  | tail _ hm =>
   have := k2.mem hm
   rw [ih hm, show ((p : Int) == z) = false by simp; omega, Bool.false_or]
theorem Chn.is_out {p e : Nat} {P : List (Nat × Nat)} (h : Chn p e P) {z : Int} (hz : z < p \/ (e : Int) <= z) : (bds p P).any (fun x => (x : Int) == z) = decide ((e : Int) = z) := by
 induction h with
 | nil => simp [bds]; rfl
 | @cons p q e P k1 k2 ih =>
  have := k2.le
  rw [bds_cons, List.any_cons, ih (by omega), show ((p : Int) == z) = false by simp; omega, Bool.false_or]
end Go.Proofs.YtbajepdkgeldlaaGreatDoor.Br
namespace Go.Proofs.YtbajepdkgeldlaaGreatDoor
namespace Pt
inductive Star (R : Nat -> Nat -> Prop) : Nat -> Nat -> Prop where
 | refl (i : Nat) : Star R i i
 | step {i j k : Nat} : R i j -> Star R j k -> Star R i k
def Cmp (R S : Nat -> Nat -> Prop) (i k : Nat) : Prop := ∃ j, R i j /\ S j k
inductive Pat where
 | mk (op : Int) (cls : List Int) (kids : List Pat)
mutual
def led (c : List Int) : Pat -> Nat -> Nat -> Prop
 | .mk op cls kids => fun i k =>
  if op = 1 then k = i + 1 /\ ∃ z, c[i]? = some z /\ z ∈ cls
  else if op = 2 then ledT c kids i k
  else if op = 3 then ledO c kids i k
  else if op = 4 then Star (ledH c kids) i k
  else if op = 5 then Cmp (ledH c kids) (Star (ledH c kids)) i k
  else if op = 6 then i = k \/ ledH c kids i k
  else i = k
def ledT (c : List Int) : List Pat -> Nat -> Nat -> Prop
 | [] => fun i k => i = k
 | p :: ps => Cmp (led c p) (ledT c ps)
def ledO (c : List Int) : List Pat -> Nat -> Nat -> Prop
 | [] => fun _ _ => False
 | p :: ps => fun i k => led c p i k \/ ledO c ps i k
def ledH (c : List Int) : List Pat -> Nat -> Nat -> Prop
 | [] => fun _ _ => False
 | p :: _ => led c p
end
theorem ledT_nil (c : List Int) : ledT c [] = fun i k => i = k := by rw [ledT]
theorem ledT_cons (c : List Int) (p : Pat) (ps : List Pat) : ledT c (p :: ps) = Cmp (led c p) (ledT c ps) := by rw [ledT]
end Pt
end Go.Proofs.YtbajepdkgeldlaaGreatDoor
