/- Norm at this program; the contract of Not (package runes). -/
import Derived.Test.YtohhokjlgihbgaaGreatDoorFPut
import Derived.Test.YtohhokjlgihbgaaGreatDoorFCompare
import Derived.Lib.TrimU
namespace Go.Proofs.YtohhokjlgihbgaaGreatDoor
open Go.RowKit

theorem sort_says : SortSays := fun B g cap l w h hB hgB hg hl hv => sort_row B g cap l w h hB hgB hg hl hv
theorem norm_any (ao : Option Addr) (ac : Nat) (l : List Rg) (w : World) (ha : RdR w ao l) (hl : l.length ≤ 100000) :
    Calls Tryz.prog 83 #[.slice ao l.length ac] w fun e w' => ∃ v, e = .returned v ∧ w'.ownsRow w.heap.size 84 2 v (nrm l).length (rgcs (nrm l)) ∧ Below w.heap.size w w' := norm_of sort_says ao ac l w ha hl
theorem mrgF_len : ∀ (l : List Rg) (lo hi : Int), (mrgF lo hi l).length ≤ l.length + 1
  | [], _, _ => by simp [mrgF]
  | g :: t, lo, hi => by
    unfold mrgF
    split
    · have := mrgF_len t g.1 g.2; simp; omega
    · have := mrgF_len t lo (max hi g.2); simp; omega
theorem ins_len : ∀ (l : List Rg) (x : Rg), (ins x l).length = l.length + 1
  | [], _ => rfl
  | y :: t, x => by
    unfold ins
    split
    · simp [ins_len t x]
    · simp
theorem isort_len : ∀ (l s : List Rg), (l.foldl (fun s x => ins x s) s).length = l.length + s.length
  | [], s => by simp
  | x :: l, s => by rw [List.foldl_cons, isort_len l, ins_len]; simp; omega
theorem nrm_len (l : List Rg) : (nrm l).length ≤ l.length := by
  have h1 : (cut l).length ≤ l.length := by unfold cut; exact Nat.le_trans (List.length_filter_le _ _) (by simp)
  have h2 : (isort (cut l)).length = (cut l).length := by unfold isort; rw [isort_len]; simp
  unfold nrm
  generalize isort (cut l) = s at *
  cases s with
  | nil => simp [mrg]
  | cons g t => have := mrgF_len t g.1 g.2; simp at h2; show (mrgF g.1 g.2 t).length ≤ _; omega
theorem nf_at : ∀ {l : List Rg} {b : Int} {j : Nat} {g : Rg}, nfF b l → l[j]? = some g → b ≤ g.1 ∧ g.1 ≤ g.2 ∧ g.2 ≤ top
  | [], _, _, _, _, h => by cases h
  | x :: l, b, 0, g, hs, h => by cases h; exact ⟨hs.1, hs.2.1, hs.2.2.1⟩
  | x :: l, b, j + 1, g, hs, h => by
    have h1 := nf_at hs.2.2.2 (show l[j]? = some g from h)
    have := hs.1
    have := hs.2.1
    exact ⟨by omega, h1.2⟩
/-- The other side of what a list means. -/
def nt (l : List Rg) : List Rg := ntF 0 (nrm l)
theorem nt_nf (l : List Rg) : nf (nt l) := ntF_nf (nrm_nf l) (by omega) (Int.le_refl _) (Int.le_refl _)
theorem nt_in (l : List Rg) (r : Int) : isin r (nt l) ↔ 0 ≤ r ∧ r ≤ top ∧ ¬ means r l := by
  unfold nt
  rw [ntF_in r (nrm_nf l) (Int.le_refl _), nrm_in]
/-- Turning over so far. -/
def Ntm (n O : List Rg) (k : Nat) (lo : Int) : Prop := O ++ ntF lo (n.drop k) = ntF 0 n
theorem Ntm.yes {n O : List Rg} {k : Nat} {lo : Int} (hk : k < n.length) (h : Ntm n O k lo) (hc : lo < n[k].1) : Ntm n (O ++ [(lo, n[k].1 - 1)]) (k + 1) (n[k].2 + 1) := by
  unfold Ntm at *
  rw [← h, List.drop_eq_getElem_cons hk]
  conv => rhs; rw [ntF]
  rw [if_pos hc]
  simp
theorem Ntm.no {n O : List Rg} {k : Nat} {lo : Int} (hk : k < n.length) (h : Ntm n O k lo) (hc : ¬ lo < n[k].1) : Ntm n O (k + 1) (n[k].2 + 1) := by
  unfold Ntm at *
  rw [← h, List.drop_eq_getElem_cons hk]
  conv => rhs; rw [ntF]
  rw [if_neg hc]
theorem Ntm.done {n O : List Rg} {k : Nat} {lo : Int} (hk : ¬ k < n.length) (h : Ntm n O k lo) : (lo ≤ top → O ++ [(lo, top)] = ntF 0 n) ∧ (¬ lo ≤ top → O = ntF 0 n) := by
  unfold Ntm at h
  rw [List.drop_of_length_le (by omega)] at h
  rw [show ntF lo [] = if lo ≤ top then [(lo, top)] else [] from rfl] at h
  constructor
  · intro hl; rw [if_pos hl] at h; exact h
  · intro hl; rw [if_neg hl] at h; simpa using h
/-- Appending one range: what the walks hand on. -/
theorem app_news (w : World) (g : Rg) (m : Nat) (hm : w.heap.size = m) : ∀ j u, (rgc g)[j]? = some u → (w.alloc (.cells #[.int .i32 g.1, .int .i32 g.2] 84)).cell? ((⟨m, 0, none⟩ : Addr).add j) = some u := by
  subst hm; exact news_r w g 84

end Go.Proofs.YtohhokjlgihbgaaGreatDoor
/- The contracts of size and At (package runes). -/
namespace Go.Proofs.YtohhokjlgihbgaaGreatDoor
open Go.RowKit

/-- The rune of a number, in a normal form. -/
def atF : List Rg → Int → Option Int
  | [], _ => none
  | g :: t, i => if i < g.2 - g.1 + 1 then some (g.1 + i) else atF t (i - (g.2 - g.1 + 1))
def atN (l : List Rg) (i : Int) : Option Int := if i < 0 then none else atF (nrm l) i
def two (o : Option Int) : Value := .tuple #[.int .i32 (o.getD 0), .bool o.isSome]
theorem atF_yes {s : List Rg} {k : Nat} {j : Int} (hk : k < s.length) (hc : j < s[k].2 - s[k].1 + 1) : atF (s.drop k) j = some (s[k].1 + j) := by
  rw [List.drop_eq_getElem_cons hk, atF, if_pos hc]
theorem atF_no {s : List Rg} {k : Nat} {j : Int} (hk : k < s.length) (hc : ¬ j < s[k].2 - s[k].1 + 1) : atF (s.drop k) j = atF (s.drop (k + 1)) (j - (s[k].2 - s[k].1 + 1)) := by
  rw [List.drop_eq_getElem_cons hk, atF, if_neg hc]

end Go.Proofs.YtohhokjlgihbgaaGreatDoor
/- The contract of find (package runes): the range of a normal form in which a number lies, by halves. -/
namespace Go.Proofs.YtohhokjlgihbgaaGreatDoor
open Go.RowKit

def cmpR (a b r : Int) : Int := if b < r then -1 else if r < a then 1 else 0
theorem nf_rise : ∀ {l : List Rg} {b : Int} {i j : Nat} {g h : Rg}, nfF b l → i < j → l[i]? = some g → l[j]? = some h → g.2 < h.1
  | [], _, _, _, _, _, _, _, h, _ => by cases h
  | x :: l, b, 0, j + 1, g, h, hs, _, e1, e2 => by
    cases e1
    have := (nf_at hs.2.2.2 (show l[j]? = some h from e2)).1
    omega
  | x :: l, b, i + 1, j + 1, g, h, hs, hij, e1, e2 => nf_rise hs.2.2.2 (by omega) (show l[i]? = some g from e1) (show l[j]? = some h from e2)
  | x :: l, b, i, 0, g, h, hs, hij, e1, e2 => by omega

end Go.Proofs.YtohhokjlgihbgaaGreatDoor
/- The runes of a text with their places, and the runs of a set in a text: the mathematics. -/
namespace Go.Proofs.YtohhokjlgihbgaaGreatDoor
open Go.RowKit

/-- The runes of a text from a place on, each with its place. -/
def plrF : Nat → List UInt8 → Nat → List (Nat × Int)
  | 0, _, _ => []
  | n + 1, l, t => if t < l.length then (t, ((Utf8.decode ⟨l.toArray⟩ t).1 : Int)) :: plrF n l (t + (Utf8.decode ⟨l.toArray⟩ t).2) else []
def plr (l : List UInt8) (t : Nat) : List (Nat × Int) := plrF (l.length - t) l t
theorem plrF_any (l : List UInt8) : ∀ (n m t : Nat), l.length - t ≤ n → l.length - t ≤ m → plrF n l t = plrF m l t
  | 0, 0, _, _, _ => rfl
  | 0, m + 1, t, h, _ => by unfold plrF; rw [if_neg (by omega)]
  | n + 1, 0, t, _, h => by unfold plrF; rw [if_neg (by omega)]
  | n + 1, m + 1, t, h, h' => by
    unfold plrF
    have hw := Lib.width_pos ⟨l.toArray⟩ t
    split
    · rw [plrF_any l n m (t + (Utf8.decode ⟨l.toArray⟩ t).2) (by omega) (by omega)]
    · rfl
theorem plr_step (l : List UInt8) (t : Nat) (h : t < l.length) : plr l t = (t, ((Utf8.decode ⟨l.toArray⟩ t).1 : Int)) :: plr l (t + (Utf8.decode ⟨l.toArray⟩ t).2) := by
  have hw := Lib.width_pos ⟨l.toArray⟩ t
  unfold plr
  rw [show l.length - t = (l.length - t - 1) + 1 by omega]
  conv => lhs; unfold plrF
  rw [if_pos h, plrF_any l (l.length - t - 1) (l.length - (t + (Utf8.decode ⟨l.toArray⟩ t).2)) _ (by omega) (by omega)]
theorem plr_end (l : List UInt8) (t : Nat) (h : ¬ t < l.length) : plr l t = [] := by
  unfold plr
  rw [show l.length - t = 0 by omega]; rfl
theorem plr_len (l : List UInt8) : ∀ (n t : Nat), l.length - t ≤ n → (plr l t).length ≤ l.length - t
  | 0, t, h => by rw [plr_end l t (by omega)]; simp
  | n + 1, t, h => by
    by_cases ht : t < l.length
    · have hw := Lib.width_pos ⟨l.toArray⟩ t
      have := plr_len l n (t + (Utf8.decode ⟨l.toArray⟩ t).2) (by omega)
      rw [plr_step l t ht]
      simp; omega
    · rw [plr_end l t ht]; simp

/-- The runs of a set: where each begins and ends; the place where the open one began. -/
def rnF (p : Int → Bool) (N : Nat) : Option Nat → List (Nat × Int) → List (Nat × Nat)
  | none, [] => []
  | some f, [] => [(f, N)]
  | none, x :: t => if p x.2 then rnF p N (some x.1) t else rnF p N none t
  | some f, x :: t => if p x.2 then rnF p N (some f) t else (f, x.1) :: rnF p N none t
def rnl (p : Int → Bool) (l : List UInt8) : List (Nat × Nat) := rnF p l.length none (plr l 0)

/-- Two places of a text, the second not ahead of the first. -/
abbrev Tw (l : List UInt8) := { x : Nat × Nat // x.1 ≤ x.2 ∧ x.2 ≤ l.length }
def tws (l : List UInt8) (xs : List (Nat × Nat)) : List (Tw l) := xs.filterMap fun x => if h : x.1 ≤ x.2 ∧ x.2 ≤ l.length then some ⟨x, h⟩ else none
theorem tws_cons (l : List UInt8) (x : Nat × Nat) (t : List (Nat × Nat)) (h : x.1 ≤ x.2 ∧ x.2 ≤ l.length) : tws l (x :: t) = ⟨x, h⟩ :: tws l t := by
  unfold tws
  rw [List.filterMap_cons]
  simp only [h, and_self, dite_true]
theorem tws_len (l : List UInt8) (xs : List (Nat × Nat)) : (tws l xs).length ≤ xs.length := List.length_filterMap_le ..
theorem rnF_len (p : Int → Bool) (N : Nat) : ∀ (xs : List (Nat × Int)) (f : Option Nat), (rnF p N f xs).length ≤ xs.length + 1
  | [], none => by simp [rnF]
  | [], some f => by simp [rnF]
  | x :: t, none => by
    unfold rnF
    split
    · have := rnF_len p N t (some x.1); simp; omega
    · have := rnF_len p N t none; simp; omega
  | x :: t, some f => by
    unfold rnF
    split
    · have := rnF_len p N t (some f); simp; omega
    · have := rnF_len p N t none; simp; omega
theorem rnl_len (p : Int → Bool) (l : List UInt8) : (tws l (rnl p l)).length ≤ l.length + 1 := by
  have h1 := tws_len l (rnl p l)
  have h2 := rnF_len p l.length (plr l 0) none
  have h3 := plr_len l l.length 0 (by omega)
  unfold rnl at h1 ⊢
  omega
/-- What is to come of the runs, at a place, with what is open. -/
def rst (p : Int → Bool) (l : List UInt8) (f : Option Nat) (t : Nat) : List (Tw l) := tws l (rnF p l.length f (plr l t))
theorem rst_in0 (p : Int → Bool) (l : List UInt8) (t : Nat) (h : t < l.length) (hp : p ((Utf8.decode ⟨l.toArray⟩ t).1 : Int) = true) : rst p l none t = rst p l (some t) (t + (Utf8.decode ⟨l.toArray⟩ t).2) := by
  unfold rst; rw [plr_step l t h, rnF, if_pos hp]
theorem rst_in1 (p : Int → Bool) (l : List UInt8) (f t : Nat) (h : t < l.length) (hp : p ((Utf8.decode ⟨l.toArray⟩ t).1 : Int) = true) : rst p l (some f) t = rst p l (some f) (t + (Utf8.decode ⟨l.toArray⟩ t).2) := by
  unfold rst; rw [plr_step l t h, rnF, if_pos hp]
theorem rst_out0 (p : Int → Bool) (l : List UInt8) (t : Nat) (h : t < l.length) (hp : p ((Utf8.decode ⟨l.toArray⟩ t).1 : Int) = false) : rst p l none t = rst p l none (t + (Utf8.decode ⟨l.toArray⟩ t).2) := by
  unfold rst; rw [plr_step l t h, rnF, if_neg (by rw [hp]; decide)]
theorem rst_out1 (p : Int → Bool) (l : List UInt8) (f t : Nat) (h : t < l.length) (hf : f ≤ t) (hp : p ((Utf8.decode ⟨l.toArray⟩ t).1 : Int) = false) : rst p l (some f) t = ⟨(f, t), hf, by show t ≤ l.length; omega⟩ :: rst p l none (t + (Utf8.decode ⟨l.toArray⟩ t).2) := by
  unfold rst
  rw [plr_step l t h, rnF, if_neg (by rw [hp]; decide)]
  exact tws_cons l (f, t) _ ⟨hf, by show t ≤ l.length; omega⟩
theorem rst_end0 (p : Int → Bool) (l : List UInt8) (t : Nat) (h : ¬ t < l.length) : rst p l none t = [] := by
  unfold rst; rw [plr_end l t h]; rfl
theorem rst_end1 (p : Int → Bool) (l : List UInt8) (f t : Nat) (h : ¬ t < l.length) (hf : f ≤ l.length) : rst p l (some f) t = [⟨(f, l.length), hf, Nat.le_refl _⟩] := by
  unfold rst
  rw [plr_end l t h, rnF]
  exact tws_cons l (f, l.length) [] ⟨hf, Nat.le_refl _⟩
/-- The place where a run began, as the program keeps it. -/
def frI : Option Nat → Int
  | none => -1
  | some f => f
end Go.Proofs.YtohhokjlgihbgaaGreatDoor
/- What is in either, in both, in one alone: the mathematics. -/
namespace Go.Proofs.YtohhokjlgihbgaaGreatDoor

def andF : Nat → List Rg → List Rg → List Rg
  | 0, _, _ => []
  | n + 1, g :: a, h :: b => (if max g.1 h.1 ≤ min g.2 h.2 then [(max g.1 h.1, min g.2 h.2)] else []) ++ (if g.2 = min g.2 h.2 then andF n a (h :: b) else andF n (g :: a) b)
  | _ + 1, [], _ => []
  | _ + 1, _ :: _, [] => []
theorem andF_nf : ∀ (n : Nat) {a b : List Rg} {b0 b1 b2 : Int}, nfF b1 a → nfF b2 b → (b0 ≤ b1 ∨ b0 ≤ b2) → nfF b0 (andF n a b)
  | 0, _, _, _, _, _, _, _, _ => trivial
  | n + 1, [], _, _, _, _, _, _, _ => trivial
  | n + 1, g :: a, [], _, _, _, _, _, _ => trivial
  | n + 1, g :: a, h :: b, b0, b1, b2, h1, h2, h0 => by
    obtain ⟨p1, p2, p3, p4⟩ := h1
    obtain ⟨q1, q2, q3, q4⟩ := h2
    have hb : nfF b2 (h :: b) := ⟨q1, q2, q3, q4⟩
    have ha : nfF b1 (g :: a) := ⟨p1, p2, p3, p4⟩
    rw [andF]
    by_cases c1 : max g.1 h.1 ≤ min g.2 h.2
    · rw [if_pos c1]
      refine ⟨by show b0 ≤ max g.1 h.1; omega, c1, by show min g.2 h.2 ≤ top; omega, ?_⟩
      show nfF (min g.2 h.2 + 2) (if g.2 = min g.2 h.2 then andF n a (h :: b) else andF n (g :: a) b)
      split
      · exact andF_nf n p4 hb (.inl (by omega))
      · exact andF_nf n ha q4 (.inr (by omega))
    · rw [if_neg c1, List.nil_append]
      split
      · exact andF_nf n p4 hb (h0.imp (fun h => by omega) id)
      · exact andF_nf n ha q4 (h0.imp id (fun h => by omega))
theorem andF_in (r : Int) : ∀ (n : Nat) {a b : List Rg} {b1 b2 : Int}, nfF b1 a → nfF b2 b → a.length + b.length ≤ n → (isin r (andF n a b) ↔ isin r a ∧ isin r b)
  | 0, [], b, _, _, _, _, _ => by simp [andF, isin]
  | 0, g :: a, b, _, _, _, _, h => by simp at h
  | n + 1, [], _, _, _, _, _, _ => by simp [andF, isin]
  | n + 1, g :: a, [], _, _, _, _, _ => by simp [andF, isin]
  | n + 1, g :: a, h :: b, b1, b2, h1, h2, hn => by
    obtain ⟨p1, p2, p3, p4⟩ := h1
    obtain ⟨q1, q2, q3, q4⟩ := h2
    have hb : nfF b2 (h :: b) := ⟨q1, q2, q3, q4⟩
    have ha : nfF b1 (g :: a) := ⟨p1, p2, p3, p4⟩
    simp only [List.length_cons] at hn
    have ea : isin r (g :: a) ↔ (g.1 ≤ r ∧ r ≤ g.2) ∨ isin r a := Iff.rfl
    have eb : isin r (h :: b) ↔ (h.1 ≤ r ∧ r ≤ h.2) ∨ isin r b := Iff.rfl
    have hpre : isin r (if max g.1 h.1 ≤ min g.2 h.2 then [(max g.1 h.1, min g.2 h.2)] else []) ↔ (g.1 ≤ r ∧ r ≤ g.2) ∧ (h.1 ≤ r ∧ r ≤ h.2) := by
      split
      · show (max g.1 h.1 ≤ r ∧ r ≤ min g.2 h.2) ∨ False ↔ _
        rw [or_false]
        constructor
        · intro x; refine ⟨⟨?_, ?_⟩, ?_, ?_⟩ <;> omega
        · intro x; refine ⟨?_, ?_⟩ <;> omega
      · refine ⟨fun x => x.elim, fun x => ?_⟩
        exfalso; omega
    rw [andF, isin_app, hpre]
    split
    · rw [andF_in r n p4 hb (by simp only [List.length_cons]; omega), ea, eb]
      constructor
      · rintro (⟨x, y⟩ | ⟨x, y⟩)
        · exact ⟨.inl x, .inl y⟩
        · exact ⟨.inr x, y⟩
      · rintro ⟨x | x, y | y⟩
        · exact .inl ⟨x, y⟩
        · have := isin_ge q4 y; omega
        · exact .inr ⟨x, .inl y⟩
        · exact .inr ⟨x, .inr y⟩
    · rw [andF_in r n ha q4 (by simp only [List.length_cons]; omega), ea, eb]
      constructor
      · rintro (⟨x, y⟩ | ⟨x, y⟩)
        · exact ⟨.inl x, .inl y⟩
        · exact ⟨x, .inr y⟩
      · rintro ⟨x | x, y | y⟩
        · exact .inl ⟨x, y⟩
        · exact .inr ⟨.inl x, y⟩
        · have := isin_ge p4 x; omega
        · exact .inr ⟨.inr x, y⟩
/-- The two lists meet. -/
def andN (a b : List Rg) : List Rg := andF ((nrm a).length + (nrm b).length) (nrm a) (nrm b)
theorem andN_nf (a b : List Rg) : nf (andN a b) := andF_nf _ (nrm_nf a) (nrm_nf b) (.inl (Int.le_refl _))
theorem andN_in (a b : List Rg) (r : Int) : isin r (andN a b) ↔ means r a ∧ means r b := by
  unfold andN
  rw [andF_in r _ (nrm_nf a) (nrm_nf b) (Nat.le_refl _), nrm_in, nrm_in]
/-- What is in either. -/
def orN (a b : List Rg) : List Rg := nrm (a ++ b)
theorem means_app (r : Int) (a b : List Rg) : means r (a ++ b) ↔ means r a ∨ means r b := by
  unfold means
  rw [isin_app]
  constructor
  · rintro ⟨h1, h2, h3 | h3⟩
    · exact .inl ⟨h1, h2, h3⟩
    · exact .inr ⟨h1, h2, h3⟩
  · rintro (⟨h1, h2, h3⟩ | ⟨h1, h2, h3⟩)
    · exact ⟨h1, h2, .inl h3⟩
    · exact ⟨h1, h2, .inr h3⟩
theorem orN_in (a b : List Rg) (r : Int) : isin r (orN a b) ↔ means r a ∨ means r b := by
  unfold orN; rw [nrm_in, means_app]
/-- A number in a normal form is one that it means. -/
theorem means_nf {l : List Rg} (h : nf l) (r : Int) : means r l ↔ isin r l :=
  ⟨fun x => x.2.2, fun x => ⟨isin_ge h x, isin_le h x, x⟩⟩
theorem nt_means (l : List Rg) (r : Int) : means r (nt l) ↔ 0 ≤ r ∧ r ≤ top ∧ ¬ means r l := by
  rw [means_nf (nt_nf l), nt_in]
/-- The document's way to what is in both. -/
theorem rand_eq (a b : List Rg) : nt (orN (nt a) (nt b)) = andN a b := by
  refine nf_one (nt_nf _) (andN_nf a b) (fun r => ?_)
  rw [nt_in, andN_in, means_nf (show nf (orN (nt a) (nt b)) from nrm_nf _), orN_in, nt_means, nt_means]
  constructor
  · rintro ⟨h1, h2, h3⟩
    exact ⟨Classical.not_not.1 fun h => h3 (.inl ⟨h1, h2, h⟩), Classical.not_not.1 fun h => h3 (.inr ⟨h1, h2, h⟩)⟩
  · rintro ⟨h1, h2⟩
    exact ⟨h1.1, h1.2.1, fun h => h.elim (fun x => x.2.2 h1) (fun x => x.2.2 h2)⟩
/-- What is in one alone. -/
def minN (a b : List Rg) : List Rg := andN a (nt b)
/-- Meeting so far. -/
def Anm (A B O : List Rg) (i j : Nat) : Prop := ∃ n, (A.length - i) + (B.length - j) ≤ n ∧ O ++ andF n (A.drop i) (B.drop j) = andF (A.length + B.length) A B
theorem Anm.start (A B : List Rg) : Anm A B [] 0 0 := ⟨_, Nat.le_refl _, by simp⟩
theorem andF_nil (n : Nat) (a b : List Rg) (h : a = [] ∨ b = []) : andF n a b = [] := by
  rcases h with rfl | rfl
  · cases n <;> rfl
  · cases n with
    | zero => rfl
    | succ n => cases a <;> rfl
theorem Anm.done {A B O : List Rg} {i j : Nat} (h : Anm A B O i j) (he : A.length ≤ i ∨ B.length ≤ j) : O = andF (A.length + B.length) A B := by
  obtain ⟨n, _, h⟩ := h
  rw [andF_nil n _ _ (he.imp (fun x => List.drop_of_length_le x) (fun x => List.drop_of_length_le x))] at h
  simpa using h
theorem Anm.step {A B O : List Rg} {i j : Nat} (h : Anm A B O i j) (hi : i < A.length) (hj : j < B.length) (lo hi' : Int) (h1 : lo = max A[i].1 B[j].1) (h2 : hi' = min A[i].2 B[j].2) :
    (lo ≤ hi' → A[i].2 = hi' → Anm A B (O ++ [(lo, hi')]) (i + 1) j) ∧ (lo ≤ hi' → ¬ A[i].2 = hi' → Anm A B (O ++ [(lo, hi')]) i (j + 1)) ∧ (¬ lo ≤ hi' → A[i].2 = hi' → Anm A B O (i + 1) j) ∧ (¬ lo ≤ hi' → ¬ A[i].2 = hi' → Anm A B O i (j + 1)) := by
  obtain ⟨n, hn, h⟩ := h
  obtain ⟨m, rfl⟩ : ∃ m, n = m + 1 := ⟨n - 1, by omega⟩
  rw [List.drop_eq_getElem_cons hi, List.drop_eq_getElem_cons hj, andF, ← h1, ← h2] at h
  refine ⟨fun a b => ?_, fun a b => ?_, fun a b => ?_, fun a b => ?_⟩
  · rw [if_pos a, if_pos b] at h
    exact ⟨m, by omega, by rw [← h, ← List.drop_eq_getElem_cons hj]; simp⟩
  · rw [if_pos a, if_neg b] at h
    exact ⟨m, by omega, by rw [← h, ← List.drop_eq_getElem_cons hi]; simp⟩
  · rw [if_neg a, if_pos b] at h
    exact ⟨m, by omega, by rw [← h, ← List.drop_eq_getElem_cons hj]; simp⟩
  · rw [if_neg a, if_neg b] at h
    exact ⟨m, by omega, by rw [← h, ← List.drop_eq_getElem_cons hi]; simp⟩
end Go.Proofs.YtohhokjlgihbgaaGreatDoor
/- How many numbers are in a normal form; numbers there and back: the mathematics. -/
namespace Go.Proofs.YtohhokjlgihbgaaGreatDoor
open Go.RowKit

def cntF : List Rg → Int
  | [] => 0
  | g :: t => (g.2 - g.1 + 1) + cntF t
theorem cnt_nn : ∀ {l : List Rg} {b : Int}, nfF b l → 0 ≤ cntF l
  | [], _, _ => Int.le_refl _
  | g :: t, b, h => by
    have := cnt_nn h.2.2.2
    have := h.2.1
    unfold cntF
    omega
theorem cnt_le : ∀ {l : List Rg} {b : Int}, nfF b l → b ≤ top + 3 → cntF l ≤ top + 3 - b
  | [], _, _, h => by unfold cntF; omega
  | g :: t, b, h, _ => by
    have h1 := h.1
    have h3 := h.2.2.1
    have := cnt_le h.2.2.2 (by omega)
    unfold cntF
    omega
theorem cnt_snoc (l : List Rg) (g : Rg) : cntF (l ++ [g]) = cntF l + (g.2 - g.1 + 1) := by
  induction l with
  | nil => simp [cntF]
  | cons x l ih => rw [List.cons_append, cntF, cntF, ih]; omega
theorem nfF_take : ∀ {l : List Rg} {b : Int} (k : Nat), nfF b l → nfF b (l.take k)
  | [], _, k, _ => by simp; exact trivial
  | g :: t, b, 0, _ => trivial
  | g :: t, b, k + 1, h => ⟨h.1, h.2.1, h.2.2.1, nfF_take k h.2.2.2⟩
theorem cnt_take {l : List Rg} {k : Nat} (hk : k < l.length) : cntF (l.take (k + 1)) = cntF (l.take k) + (l[k].2 - l[k].1 + 1) := by
  rw [List.take_succ_eq_append_getElem hk, cnt_snoc]
theorem cnt_take_bd {l : List Rg} (h : nf l) (k : Nat) : 0 ≤ cntF (l.take k) ∧ cntF (l.take k) ≤ 1114114 := by
  have h1 := nfF_take k h
  have h2 := cnt_nn h1
  have h3 := cnt_le h1 (by unfold top; omega)
  unfold top at h3
  omega
end Go.Proofs.YtohhokjlgihbgaaGreatDoor
/- The contract of the document's Not. -/
namespace Go.Proofs.YtohhokjlgihbgaaGreatDoor
open Go.RowKit

set_option maxRecDepth 100000 in
set_option maxHeartbeats 8400000 in
theorem rnot_any (ao : Option Addr) (ac : Nat) (l : List Rg) (w : World) (ha : RdR w ao l) (hl : l.length ≤ 100000) :
    Calls Tryz.prog 77 #[.slice ao l.length ac] w fun e w' => ∃ v, e = .returned v ∧ w'.ownsRow w.heap.size 84 2 v (nt l).length (rgcs (nt l)) ∧ Below w.heap.size w w' := by
  obtain ⟨i0, hi, hz0, hz1, hz2⟩ := info_parts Tryz.info84
  have HSO := hid (rnorm_any ao ac l w ha hl)
  clear ha
  go_enter Tryz.func77, Tryz.ntmps77
  go_wp2_with fail
  refine HSO.out.mono ?_
  rintro e Wr ⟨v, rfl, o1, hB⟩
  obtain ⟨so, sc, rfl, hrd⟩ := rdr_row o1
  have HNT := hid (show ntF 0 (nrm l) = nt l from rfl)
  have hsl := nrm_len l
  have HNF := hid (nrm_nf l)
  obtain ⟨s, hs⟩ : ∃ s, nrm l = s := ⟨_, rfl⟩
  rw [hs] at HNT HNF hrd hsl ⊢
  have HRD := hid hrd
  have HB0 := hid hB
  have hws := hB.size
  have hs5 : s.length ≤ 100000 := by omega
  clear hrd hB HSO hsl o1 hs
  go_wp2
  go_loopw [4, 5, 6] (fun v x i wq => ∃ (k : Nat) (O : List Rg) (lo : Int), k ≤ s.length ∧ i = .int .i64 k ∧ x = .int .i32 lo ∧ 0 ≤ lo ∧ lo ≤ 1114112 ∧ Hid (wq.ownsRow Wr.heap.size 84 2 v O.length (rgcs O)) ∧ Hid (Ntm s O k lo) ∧ O.length ≤ k ∧ Hid (Below Wr.heap.size Wr wq)) (fun _ _ i _ => s.length - (intOf i).toNat)
  case atStart => exact ⟨0, [], 0, by omega, rfl, rfl, by omega, by omega, World.ownsRow_nil _ _ _ _, rfl, by simp, Below.refl _ _⟩
  case round =>
    obtain ⟨k, O, lo, hk, rfl, rfl, hlo0, hlo1, HO, HMi, hok, HB⟩ := hrel
    have hbs := HB.out.size
    by_cases hlt : k < s.length
    · obtain ⟨gs, rfl, hgs, y0, y1⟩ := HRD.out k s[k] (List.getElem?_eq_getElem hlt)
      obtain ⟨b1, b2, b3⟩ := nf_at HNF.out (List.getElem?_eq_getElem hlt)
      unfold top at b3
      replace y0 := (HB.out.cell (p := gs.add (k * 2)) (by rw [add_blk]; exact hgs)).trans y0
      replace y1 := (HB.out.cell (p := ⟨(gs.add (k * 2)).block, (gs.add (k * 2)).off + 1, none⟩) (show (gs.add (k * 2)).block < _ by rw [add_blk]; exact hgs)).trans y1
      have i3 : (k : Int) < (s.length : Int) := by omega
      have hgw : gs.block < wr.heap.size := by omega
      have HY := hid (fun hc => Ntm.yes hlt HMi.out hc)
      have HN := hid (fun hc => Ntm.no hlt HMi.out hc)
      generalize s[k].1 = f0 at *
      generalize s[k].2 = f1 at *
      have e1 : IntKind.i32.wrap (f0 - 1) = f0 - 1 := by rw [IntKind.wrap_i32]; omega
      have e2 : IntKind.i32.wrap (f1 + 1) = f1 + 1 := by rw [IntKind.wrap_i32]; omega
      by_cases hc : lo < f0
      · have HY2 := hid (HY.out hc)
        clear HY HN HMi
        have HY1 := hid (show ∀ W, Below Wr.heap.size Wr W → W.cell? ⟨(gs.add (k * 2)).block, (gs.add (k * 2)).off + 1, none⟩ = some (.int .i32 f1) from fun W hW => (hW.cell (p := ⟨(gs.add (k * 2)).block, (gs.add (k * 2)).off + 1, none⟩) (show (gs.add (k * 2)).block < _ by rw [add_blk]; exact hgs)).trans ((HB.out.cell (p := ⟨(gs.add (k * 2)).block, (gs.add (k * 2)).off + 1, none⟩) (show (gs.add (k * 2)).block < _ by rw [add_blk]; exact hgs)).symm.trans y1))
        go_wp2_with (at_builtin; refine wpList_append_own _ rfl _ _ 47 rfl Wr.heap.size 84 i0 (.agg #[.int .i32 0, .int .i32 0]) 2 8 Tryz.underlying47 hi hz0 hz1 hz2 rfl (by decide) _ O.length (rgcs O) rfl (HO.out.alloc _) ⟨wr.heap.size, 0, none⟩ 1 1 (rgc (lo, f0 - 1)) rfl rfl ?c1 ?c2 ?c3 ?c4 ?c5 ?_)
        case c1 => exact app_news _ (lo, f0 - 1) _ rfl
        case c2 => exact rgc_one _
        case c3 => unfold maxLen; omega
        case c4 => omega
        case c5 => simp; omega
        intro v2 w2 o2 gr2 _
        have HO2 := hid (show w2.ownsRow Wr.heap.size 84 2 v2 (O ++ [(lo, f0 - 1)]).length (rgcs (O ++ [(lo, f0 - 1)])) by rw [rgcs_snoc, len_snoc]; exact o2)
        have HB2 := hid ((HB.out.alloc hbs (.cells #[.int .i32 lo, .int .i32 (f0 - 1)] 84)).grown gr2 (by simp; omega) (fun j hj => (HO.out.lt j hj).1))
        have z1 := HY1.out w2 HB2.out
        clear o2 gr2 y0 y1
        go_wp2
        go_roundw
        case rel => exact ⟨k + 1, O ++ [(lo, f0 - 1)], f1 + 1, by omega, by go_num, by go_num, by omega, by omega, HO2, HY2, by rw [len_snoc]; omega, HB2⟩
        case measure => simp [intOf]; omega
      · have HN2 := hid (HN.out hc)
        clear HY HN HMi
        go_wp2
        go_roundw
        case rel => exact ⟨k + 1, O, f1 + 1, by omega, by go_num, by go_num, by omega, by omega, HO, HN2, by omega, HB⟩
        case measure => simp [intOf]; omega
    · obtain ⟨hd1, hd2⟩ := HMi.out.done hlt
      unfold top at hd1 hd2
      by_cases hc : lo ≤ 1114111
      · have HD := hid (hd1 hc)
        clear hd1 hd2 HMi
        go_wp2_with (at_builtin; refine wpList_append_own _ rfl _ _ 47 rfl Wr.heap.size 84 i0 (.agg #[.int .i32 0, .int .i32 0]) 2 8 Tryz.underlying47 hi hz0 hz1 hz2 rfl (by decide) _ O.length (rgcs O) rfl (HO.out.alloc _) ⟨wr.heap.size, 0, none⟩ 1 1 (rgc (lo, 1114111)) rfl rfl ?c1 ?c2 ?c3 ?c4 ?c5 ?_)
        case c1 => exact app_news _ (lo, 1114111) _ rfl
        case c2 => exact rgc_one _
        case c3 => unfold maxLen; omega
        case c4 => omega
        case c5 => simp; omega
        intro v2 w2 o2 gr2 _
        have HO2 := hid (show w2.ownsRow Wr.heap.size 84 2 v2 (O ++ [(lo, 1114111)]).length (rgcs (O ++ [(lo, 1114111)])) by rw [rgcs_snoc, len_snoc]; exact o2)
        have HB2 := hid ((HB.out.alloc hbs (.cells #[.int .i32 lo, .int .i32 1114111] 84)).grown gr2 (by simp; omega) (fun j hj => (HO.out.lt j hj).1))
        clear o2 gr2
        go_wp2
        go_ret
        exact ⟨_, rfl, by rw [← HNT.out, ← HD.out]; exact ownsRow_base2 HO2.out HB0.out.size, HB0.out.trans (HB2.out.mono HB0.out.size)⟩
      · have HD := hid (hd2 hc)
        clear hd1 hd2 HMi
        go_wp2
        go_ret
        exact ⟨_, rfl, by rw [← HNT.out, ← HD.out]; exact ownsRow_base2 HO.out HB0.out.size, HB0.out.trans (HB.out.mono HB0.out.size)⟩
end Go.Proofs.YtohhokjlgihbgaaGreatDoor
