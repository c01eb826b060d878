/- Norm at this program; the contract of Not (package runes). -/
import Derived.Test.YtohhokjlgihbgaaGreatDoorCPut
import Derived.Test.YtohhokjlgihbgaaGreatDoorCCompare
import Derived.Lib.TrimU
namespace Go.Proofs.YtohhokjlgihbgaaGreatDoor
open Go.RowKit

theorem sort_says : SortSays := fun B g cap l w h hB hgB hg hl hv => sort_row B g cap l w h hB hgB hg hl hv
theorem norm_any (ao : Option Addr) (ac : Nat) (l : List Rg) (w : World) (ha : RdR w ao l) (hl : l.length ≤ 100000) :
    Calls Tryz.prog 83 #[.slice ao l.length ac] w fun e w' => ∃ v, e = .returned v ∧ w'.ownsRow w.heap.size 84 2 v (nrm l).length (rgcs (nrm l)) ∧ Below w.heap.size w w' := norm_of sort_says ao ac l w ha hl
theorem mrgF_len : ∀ (l : List Rg) (lo hi : Int), (mrgF lo hi l).length ≤ l.length + 1
  | [], _, _ => by simp [mrgF]
  | g :: t, lo, hi => by
    unfold mrgF
    split
    · have := mrgF_len t g.1 g.2; simp; omega
    · have := mrgF_len t lo (max hi g.2); simp; omega
theorem ins_len : ∀ (l : List Rg) (x : Rg), (ins x l).length = l.length + 1
  | [], _ => rfl
  | y :: t, x => by
    unfold ins
    split
    · simp [ins_len t x]
    · simp
theorem isort_len : ∀ (l s : List Rg), (l.foldl (fun s x => ins x s) s).length = l.length + s.length
  | [], s => by simp
  | x :: l, s => by rw [List.foldl_cons, isort_len l, ins_len]; simp; omega
theorem nrm_len (l : List Rg) : (nrm l).length ≤ l.length := by
  have h1 : (cut l).length ≤ l.length := by unfold cut; exact Nat.le_trans (List.length_filter_le _ _) (by simp)
  have h2 : (isort (cut l)).length = (cut l).length := by unfold isort; rw [isort_len]; simp
  unfold nrm
  generalize isort (cut l) = s at *
  cases s with
  | nil => simp [mrg]
  | cons g t => have := mrgF_len t g.1 g.2; simp at h2; show (mrgF g.1 g.2 t).length ≤ _; omega
theorem nf_at : ∀ {l : List Rg} {b : Int} {j : Nat} {g : Rg}, nfF b l → l[j]? = some g → b ≤ g.1 ∧ g.1 ≤ g.2 ∧ g.2 ≤ top
  | [], _, _, _, _, h => by cases h
  | x :: l, b, 0, g, hs, h => by cases h; exact ⟨hs.1, hs.2.1, hs.2.2.1⟩
  | x :: l, b, j + 1, g, hs, h => by
    have h1 := nf_at hs.2.2.2 (show l[j]? = some g from h)
    have := hs.1
    have := hs.2.1
    exact ⟨by omega, h1.2⟩
/-- The other side of what a list means. -/
def nt (l : List Rg) : List Rg := ntF 0 (nrm l)
theorem nt_nf (l : List Rg) : nf (nt l) := ntF_nf (nrm_nf l) (by omega) (Int.le_refl _) (Int.le_refl _)
theorem nt_in (l : List Rg) (r : Int) : isin r (nt l) ↔ 0 ≤ r ∧ r ≤ top ∧ ¬ means r l := by
  unfold nt
  rw [ntF_in r (nrm_nf l) (Int.le_refl _), nrm_in]
/-- Turning over so far. -/
def Ntm (n O : List Rg) (k : Nat) (lo : Int) : Prop := O ++ ntF lo (n.drop k) = ntF 0 n
theorem Ntm.yes {n O : List Rg} {k : Nat} {lo : Int} (hk : k < n.length) (h : Ntm n O k lo) (hc : lo < n[k].1) : Ntm n (O ++ [(lo, n[k].1 - 1)]) (k + 1) (n[k].2 + 1) := by
  unfold Ntm at *
  rw [← h, List.drop_eq_getElem_cons hk]
  conv => rhs; rw [ntF]
  rw [if_pos hc]
  simp
theorem Ntm.no {n O : List Rg} {k : Nat} {lo : Int} (hk : k < n.length) (h : Ntm n O k lo) (hc : ¬ lo < n[k].1) : Ntm n O (k + 1) (n[k].2 + 1) := by
  unfold Ntm at *
  rw [← h, List.drop_eq_getElem_cons hk]
  conv => rhs; rw [ntF]
  rw [if_neg hc]
theorem Ntm.done {n O : List Rg} {k : Nat} {lo : Int} (hk : ¬ k < n.length) (h : Ntm n O k lo) : (lo ≤ top → O ++ [(lo, top)] = ntF 0 n) ∧ (¬ lo ≤ top → O = ntF 0 n) := by
  unfold Ntm at h
  rw [List.drop_of_length_le (by omega)] at h
  rw [show ntF lo [] = if lo ≤ top then [(lo, top)] else [] from rfl] at h
  constructor
  · intro hl; rw [if_pos hl] at h; exact h
  · intro hl; rw [if_neg hl] at h; simpa using h
/-- Appending one range: what the walks hand on. -/
theorem app_news (w : World) (g : Rg) (m : Nat) (hm : w.heap.size = m) : ∀ j u, (rgc g)[j]? = some u → (w.alloc (.cells #[.int .i32 g.1, .int .i32 g.2] 84)).cell? ((⟨m, 0, none⟩ : Addr).add j) = some u := by
  subst hm; exact news_r w g 84

end Go.Proofs.YtohhokjlgihbgaaGreatDoor
/- The contracts of size and At (package runes). -/
namespace Go.Proofs.YtohhokjlgihbgaaGreatDoor
open Go.RowKit

/-- The rune of a number, in a normal form. -/
def atF : List Rg → Int → Option Int
  | [], _ => none
  | g :: t, i => if i < g.2 - g.1 + 1 then some (g.1 + i) else atF t (i - (g.2 - g.1 + 1))
def atN (l : List Rg) (i : Int) : Option Int := if i < 0 then none else atF (nrm l) i
def two (o : Option Int) : Value := .tuple #[.int .i32 (o.getD 0), .bool o.isSome]
theorem atF_yes {s : List Rg} {k : Nat} {j : Int} (hk : k < s.length) (hc : j < s[k].2 - s[k].1 + 1) : atF (s.drop k) j = some (s[k].1 + j) := by
  rw [List.drop_eq_getElem_cons hk, atF, if_pos hc]
theorem atF_no {s : List Rg} {k : Nat} {j : Int} (hk : k < s.length) (hc : ¬ j < s[k].2 - s[k].1 + 1) : atF (s.drop k) j = atF (s.drop (k + 1)) (j - (s[k].2 - s[k].1 + 1)) := by
  rw [List.drop_eq_getElem_cons hk, atF, if_neg hc]

end Go.Proofs.YtohhokjlgihbgaaGreatDoor
/- The contract of find (package runes): the range of a normal form in which a number lies, by halves. -/
namespace Go.Proofs.YtohhokjlgihbgaaGreatDoor
open Go.RowKit

def cmpR (a b r : Int) : Int := if b < r then -1 else if r < a then 1 else 0
theorem nf_rise : ∀ {l : List Rg} {b : Int} {i j : Nat} {g h : Rg}, nfF b l → i < j → l[i]? = some g → l[j]? = some h → g.2 < h.1
  | [], _, _, _, _, _, _, _, h, _ => by cases h
  | x :: l, b, 0, j + 1, g, h, hs, _, e1, e2 => by
    cases e1
    have := (nf_at hs.2.2.2 (show l[j]? = some h from e2)).1
    omega
  | x :: l, b, i + 1, j + 1, g, h, hs, hij, e1, e2 => nf_rise hs.2.2.2 (by omega) (show l[i]? = some g from e1) (show l[j]? = some h from e2)
  | x :: l, b, i, 0, g, h, hs, hij, e1, e2 => by omega

end Go.Proofs.YtohhokjlgihbgaaGreatDoor
/- The runes of a text with their places, and the runs of a set in a text: the mathematics. -/
namespace Go.Proofs.YtohhokjlgihbgaaGreatDoor
open Go.RowKit

/-- The runes of a text from a place on, each with its place. -/
def plrF : Nat → List UInt8 → Nat → List (Nat × Int)
  | 0, _, _ => []
  | n + 1, l, t => if t < l.length then (t, ((Utf8.decode ⟨l.toArray⟩ t).1 : Int)) :: plrF n l (t + (Utf8.decode ⟨l.toArray⟩ t).2) else []
def plr (l : List UInt8) (t : Nat) : List (Nat × Int) := plrF (l.length - t) l t
theorem plrF_any (l : List UInt8) : ∀ (n m t : Nat), l.length - t ≤ n → l.length - t ≤ m → plrF n l t = plrF m l t
  | 0, 0, _, _, _ => rfl
  | 0, m + 1, t, h, _ => by unfold plrF; rw [if_neg (by omega)]
  | n + 1, 0, t, _, h => by unfold plrF; rw [if_neg (by omega)]
  | n + 1, m + 1, t, h, h' => by
    unfold plrF
    have hw := Lib.width_pos ⟨l.toArray⟩ t
    split
    · rw [plrF_any l n m (t + (Utf8.decode ⟨l.toArray⟩ t).2) (by omega) (by omega)]
    · rfl
theorem plr_step (l : List UInt8) (t : Nat) (h : t < l.length) : plr l t = (t, ((Utf8.decode ⟨l.toArray⟩ t).1 : Int)) :: plr l (t + (Utf8.decode ⟨l.toArray⟩ t).2) := by
  have hw := Lib.width_pos ⟨l.toArray⟩ t
  unfold plr
  rw [show l.length - t = (l.length - t - 1) + 1 by omega]
  conv => lhs; unfold plrF
  rw [if_pos h, plrF_any l (l.length - t - 1) (l.length - (t + (Utf8.decode ⟨l.toArray⟩ t).2)) _ (by omega) (by omega)]
theorem plr_end (l : List UInt8) (t : Nat) (h : ¬ t < l.length) : plr l t = [] := by
  unfold plr
  rw [show l.length - t = 0 by omega]; rfl
theorem plr_len (l : List UInt8) : ∀ (n t : Nat), l.length - t ≤ n → (plr l t).length ≤ l.length - t
  | 0, t, h => by rw [plr_end l t (by omega)]; simp
  | n + 1, t, h => by
    by_cases ht : t < l.length
    · have hw := Lib.width_pos ⟨l.toArray⟩ t
      have := plr_len l n (t + (Utf8.decode ⟨l.toArray⟩ t).2) (by omega)
      rw [plr_step l t ht]
      simp; omega
    · rw [plr_end l t ht]; simp

/-- The runs of a set: where each begins and ends; the place where the open one began. -/
def rnF (p : Int → Bool) (N : Nat) : Option Nat → List (Nat × Int) → List (Nat × Nat)
  | none, [] => []
  | some f, [] => [(f, N)]
  | none, x :: t => if p x.2 then rnF p N (some x.1) t else rnF p N none t
  | some f, x :: t => if p x.2 then rnF p N (some f) t else (f, x.1) :: rnF p N none t
def rnl (p : Int → Bool) (l : List UInt8) : List (Nat × Nat) := rnF p l.length none (plr l 0)

/-- Two places of a text, the second not ahead of the first. -/
abbrev Tw (l : List UInt8) := { x : Nat × Nat // x.1 ≤ x.2 ∧ x.2 ≤ l.length }
def tws (l : List UInt8) (xs : List (Nat × Nat)) : List (Tw l) := xs.filterMap fun x => if h : x.1 ≤ x.2 ∧ x.2 ≤ l.length then some ⟨x, h⟩ else none
theorem tws_cons (l : List UInt8) (x : Nat × Nat) (t : List (Nat × Nat)) (h : x.1 ≤ x.2 ∧ x.2 ≤ l.length) : tws l (x :: t) = ⟨x, h⟩ :: tws l t := by
  unfold tws
  rw [List.filterMap_cons]
  simp only [h, and_self, dite_true]
theorem tws_len (l : List UInt8) (xs : List (Nat × Nat)) : (tws l xs).length ≤ xs.length := List.length_filterMap_le ..
theorem rnF_len (p : Int → Bool) (N : Nat) : ∀ (xs : List (Nat × Int)) (f : Option Nat), (rnF p N f xs).length ≤ xs.length + 1
  | [], none => by simp [rnF]
  | [], some f => by simp [rnF]
  | x :: t, none => by
    unfold rnF
    split
    · have := rnF_len p N t (some x.1); simp; omega
    · have := rnF_len p N t none; simp; omega
  | x :: t, some f => by
    unfold rnF
    split
    · have := rnF_len p N t (some f); simp; omega
    · have := rnF_len p N t none; simp; omega
theorem rnl_len (p : Int → Bool) (l : List UInt8) : (tws l (rnl p l)).length ≤ l.length + 1 := by
  have h1 := tws_len l (rnl p l)
  have h2 := rnF_len p l.length (plr l 0) none
  have h3 := plr_len l l.length 0 (by omega)
  unfold rnl at h1 ⊢
  omega
/-- What is to come of the runs, at a place, with what is open. -/
def rst (p : Int → Bool) (l : List UInt8) (f : Option Nat) (t : Nat) : List (Tw l) := tws l (rnF p l.length f (plr l t))
theorem rst_in0 (p : Int → Bool) (l : List UInt8) (t : Nat) (h : t < l.length) (hp : p ((Utf8.decode ⟨l.toArray⟩ t).1 : Int) = true) : rst p l none t = rst p l (some t) (t + (Utf8.decode ⟨l.toArray⟩ t).2) := by
  unfold rst; rw [plr_step l t h, rnF, if_pos hp]
theorem rst_in1 (p : Int → Bool) (l : List UInt8) (f t : Nat) (h : t < l.length) (hp : p ((Utf8.decode ⟨l.toArray⟩ t).1 : Int) = true) : rst p l (some f) t = rst p l (some f) (t + (Utf8.decode ⟨l.toArray⟩ t).2) := by
  unfold rst; rw [plr_step l t h, rnF, if_pos hp]
theorem rst_out0 (p : Int → Bool) (l : List UInt8) (t : Nat) (h : t < l.length) (hp : p ((Utf8.decode ⟨l.toArray⟩ t).1 : Int) = false) : rst p l none t = rst p l none (t + (Utf8.decode ⟨l.toArray⟩ t).2) := by
  unfold rst; rw [plr_step l t h, rnF, if_neg (by rw [hp]; decide)]
theorem rst_out1 (p : Int → Bool) (l : List UInt8) (f t : Nat) (h : t < l.length) (hf : f ≤ t) (hp : p ((Utf8.decode ⟨l.toArray⟩ t).1 : Int) = false) : rst p l (some f) t = ⟨(f, t), hf, by show t ≤ l.length; omega⟩ :: rst p l none (t + (Utf8.decode ⟨l.toArray⟩ t).2) := by
  unfold rst
  rw [plr_step l t h, rnF, if_neg (by rw [hp]; decide)]
  exact tws_cons l (f, t) _ ⟨hf, by show t ≤ l.length; omega⟩
theorem rst_end0 (p : Int → Bool) (l : List UInt8) (t : Nat) (h : ¬ t < l.length) : rst p l none t = [] := by
  unfold rst; rw [plr_end l t h]; rfl
theorem rst_end1 (p : Int → Bool) (l : List UInt8) (f t : Nat) (h : ¬ t < l.length) (hf : f ≤ l.length) : rst p l (some f) t = [⟨(f, l.length), hf, Nat.le_refl _⟩] := by
  unfold rst
  rw [plr_end l t h, rnF]
  exact tws_cons l (f, l.length) [] ⟨hf, Nat.le_refl _⟩
/-- The place where a run began, as the program keeps it. -/
def frI : Option Nat → Int
  | none => -1
  | some f => f
end Go.Proofs.YtohhokjlgihbgaaGreatDoor
