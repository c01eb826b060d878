/- What the walks need not see. -/
import Derived.Lib.MapLaws
import Derived.Deep.AppendLies
import Derived.Test.YtohhokjlgihbgaaGreatDoorProg
namespace Go.Proofs.YtohhokjlgihbgaaGreatDoor
open Go.RowKit

theorem hid {p : Prop} (h : p) : Hid p := h
end Go.Proofs.YtohhokjlgihbgaaGreatDoor
/- Sets of numbers as lists of ranges: the normal form is one alone, and what merging, turning over and meeting come to. -/
namespace Go.Proofs.YtohhokjlgihbgaaGreatDoor

/-- A range: its least and its greatest number. -/
abbrev Rg := Int × Int
def top : Int := 1114111
/-- A number is in one of the ranges. -/
def isin (r : Int) : List Rg → Prop
  | [] => False
  | g :: l => (g.1 ≤ r ∧ r ≤ g.2) ∨ isin r l
/-- In normal form, from a number on. -/
def nfF (b : Int) : List Rg → Prop
  | [] => True
  | g :: l => b ≤ g.1 ∧ g.1 ≤ g.2 ∧ g.2 ≤ top ∧ nfF (g.2 + 2) l
def nf (l : List Rg) : Prop := nfF 0 l

theorem isin_ge : ∀ {l : List Rg} {b r : Int}, nfF b l → isin r l → b ≤ r
  | [], _, _, _, h => h.elim
  | g :: l, b, r, hn, h => by
    obtain ⟨h1, h2, _, h4⟩ := hn
    rcases h with ⟨a, _⟩ | h
    · omega
    · have := isin_ge h4 h; omega
theorem isin_le : ∀ {l : List Rg} {b r : Int}, nfF b l → isin r l → r ≤ top
  | [], _, _, _, h => h.elim
  | g :: l, b, r, hn, h => by
    obtain ⟨_, _, h3, h4⟩ := hn
    rcases h with ⟨_, a⟩ | h
    · omega
    · exact isin_le h4 h
theorem nfF_mono {l : List Rg} {b b' : Int} (h : nfF b l) (hb : b' ≤ b) : nfF b' l := by
  cases l with
  | nil => trivial
  | cons g l => exact ⟨by have := h.1; omega, h.2⟩

/-- Each set has just one normal form. -/
theorem nf_one : ∀ {l l' : List Rg} {b b' : Int}, nfF b l → nfF b' l' → (∀ r, isin r l ↔ isin r l') → l = l'
  | [], [], _, _, _, _, _ => rfl
  | [], g :: l', _, _, _, hn, h => by
    have : isin g.1 [] := (h g.1).2 (Or.inl ⟨Int.le_refl _, hn.2.1⟩)
    exact this.elim
  | g :: l, [], _, _, hn, _, h => by
    have : isin g.1 [] := (h g.1).1 (Or.inl ⟨Int.le_refl _, hn.2.1⟩)
    exact this.elim
  | g :: l, g' :: l', b, b', hn, hn', h => by
    obtain ⟨_, h2, _, h4⟩ := hn
    obtain ⟨_, h2', _, h4'⟩ := hn'
    have a1 : g'.1 ≤ g.1 := by
      rcases (h g.1).1 (Or.inl ⟨Int.le_refl _, h2⟩) with ⟨a, _⟩ | a
      · exact a
      · have := isin_ge h4' a; omega
    have a2 : g.1 ≤ g'.1 := by
      rcases (h g'.1).2 (Or.inl ⟨Int.le_refl _, h2'⟩) with ⟨a, _⟩ | a
      · exact a
      · have := isin_ge h4 a; omega
    have a3 : g'.2 ≤ g.2 := by
      rcases Int.lt_or_le g.2 g'.2 with hlt | hle
      · exfalso
        rcases (h (g.2 + 1)).2 (Or.inl ⟨by omega, by omega⟩) with ⟨_, a⟩ | a
        · omega
        · have := isin_ge h4 a; omega
      · exact hle
    have a4 : g.2 ≤ g'.2 := by
      rcases Int.lt_or_le g'.2 g.2 with hlt | hle
      · exfalso
        rcases (h (g'.2 + 1)).1 (Or.inl ⟨by omega, by omega⟩) with ⟨_, a⟩ | a
        · omega
        · have := isin_ge h4' a; omega
      · exact hle
    have eg : g = g' := Prod.ext (by omega) (by omega)
    subst eg
    have et : l = l' := nf_one h4 h4' (fun r => ⟨fun hr => by
      have hge := isin_ge h4 hr
      rcases (h r).1 (Or.inr hr) with ⟨_, a⟩ | a
      · omega
      · exact a, fun hr => by
      have hge := isin_ge h4' hr
      rcases (h r).2 (Or.inr hr) with ⟨_, a⟩ | a
      · omega
      · exact a⟩)
    rw [et]

/-- Merging: the last range that stands open, and what is to come. -/
def mrgF (lo hi : Int) : List Rg → List Rg
  | [] => [(lo, hi)]
  | g :: t => if hi + 1 < g.1 then (lo, hi) :: mrgF g.1 g.2 t else mrgF lo (max hi g.2) t
def mrg : List Rg → List Rg
  | [] => []
  | g :: t => mrgF g.1 g.2 t
/-- Ranges that are some, by rising first numbers, from a number on. -/
def srt (b : Int) : List Rg → Prop
  | [] => True
  | g :: t => b ≤ g.1 ∧ g.1 ≤ g.2 ∧ g.2 ≤ top ∧ srt g.1 t

theorem mrgF_nf : ∀ {l : List Rg} {b lo hi : Int}, b ≤ lo → lo ≤ hi → hi ≤ top → srt lo l → nfF b (mrgF lo hi l)
  | [], _, _, _, h1, h2, h3, _ => ⟨h1, h2, h3, trivial⟩
  | g :: t, b, lo, hi, h1, h2, h3, hs => by
    obtain ⟨s1, s2, s3, s4⟩ := hs
    unfold mrgF
    split
    · exact ⟨h1, h2, h3, mrgF_nf (by omega) s2 s3 s4⟩
    · refine mrgF_nf h1 (by omega) (by omega) ?_
      cases t with
      | nil => trivial
      | cons x t => exact ⟨by have := s4.1; omega, s4.2⟩
theorem mrgF_in : ∀ {l : List Rg} {lo hi : Int} (r : Int), lo ≤ hi → srt lo l → (isin r (mrgF lo hi l) ↔ (lo ≤ r ∧ r ≤ hi) ∨ isin r l)
  | [], _, _, _, _, _ => by simp [mrgF, isin]
  | g :: t, lo, hi, r, h2, hs => by
    obtain ⟨s1, s2, s3, s4⟩ := hs
    unfold mrgF
    split
    · rename_i hc
      show ((lo ≤ r ∧ r ≤ hi) ∨ isin r (mrgF g.1 g.2 t)) ↔ _
      rw [mrgF_in r s2 s4]
      exact Iff.rfl
    · rename_i hc
      have st : srt lo t := by
        cases t with
        | nil => trivial
        | cons x t => exact ⟨by have := s4.1; omega, s4.2⟩
      rw [mrgF_in r (by omega) st]
      show _ ↔ (lo ≤ r ∧ r ≤ hi) ∨ (g.1 ≤ r ∧ r ≤ g.2) ∨ isin r t
      constructor
      · rintro (⟨a, b⟩ | h)
        · rcases Int.lt_or_le hi r with hr | hr
          · exact Or.inr (Or.inl ⟨by omega, by omega⟩)
          · exact Or.inl ⟨a, hr⟩
        · exact Or.inr (Or.inr h)
      · rintro (⟨a, b⟩ | ⟨a, b⟩ | h)
        · exact Or.inl ⟨a, by omega⟩
        · exact Or.inl ⟨by omega, by omega⟩
        · exact Or.inr h
theorem mrg_nf {l : List Rg} (h : srt 0 l) : nf (mrg l) := by
  cases l with
  | nil => trivial
  | cons g t => exact mrgF_nf h.1 h.2.1 h.2.2.1 h.2.2.2
theorem mrg_in {l : List Rg} (h : srt 0 l) (r : Int) : isin r (mrg l) ↔ isin r l := by
  cases l with
  | nil => exact Iff.rfl
  | cons g t => exact mrgF_in r h.2.1 h.2.2.2

/-- What is left of a range within 0 to the greatest rune. -/
def cut1 (g : Rg) : Rg := (max g.1 0, min g.2 top)
def cut (l : List Rg) : List Rg := (l.map cut1).filter fun g => decide (g.1 ≤ g.2)
/-- r is in the set that a list means. -/
def means (r : Int) (l : List Rg) : Prop := 0 ≤ r ∧ r ≤ top ∧ isin r l
theorem isin_iff {r : Int} : ∀ {l : List Rg}, isin r l ↔ ∃ g, g ∈ l ∧ g.1 ≤ r ∧ r ≤ g.2
  | [] => by simp [isin]
  | g :: l => by simp [isin, isin_iff (l := l)]
theorem cut_in {l : List Rg} {r : Int} : isin r (cut l) ↔ means r l := by
  unfold means
  rw [isin_iff, isin_iff]
  unfold cut
  constructor
  · rintro ⟨g, hg, h1, h2⟩
    rw [List.mem_filter, List.mem_map] at hg
    obtain ⟨⟨x, hx, rfl⟩, _⟩ := hg
    unfold cut1 at h1 h2
    dsimp only at h1 h2
    unfold top at *
    exact ⟨by omega, by omega, x, hx, by omega, by omega⟩
  · rintro ⟨h0, h1, x, hx, h2, h3⟩
    refine ⟨cut1 x, List.mem_filter.2 ⟨List.mem_map.2 ⟨x, hx, rfl⟩, ?_⟩, ?_, ?_⟩
    · unfold cut1 top at *; simp; omega
    · unfold cut1; dsimp only; omega
    · unfold cut1; dsimp only; omega
theorem isin_perm {l l' : List Rg} (h : l.Perm l') (r : Int) : isin r l ↔ isin r l' := by
  rw [isin_iff, isin_iff]
  exact ⟨fun ⟨g, hg, x⟩ => ⟨g, h.mem_iff.1 hg, x⟩, fun ⟨g, hg, x⟩ => ⟨g, h.mem_iff.2 hg, x⟩⟩
/-- Whatever way the ranges were put in order: merged they are one list. -/
theorem mrg_any {l l' : List Rg} (h : srt 0 l) (h' : srt 0 l') (hp : ∀ r, isin r l ↔ isin r l') : mrg l = mrg l' :=
  nf_one (mrg_nf h) (mrg_nf h') (fun r => by rw [mrg_in h, mrg_in h', hp])

/-- The other side, from a number on. -/
def ntF (lo : Int) : List Rg → List Rg
  | [] => if lo ≤ top then [(lo, top)] else []
  | g :: t => if lo < g.1 then (lo, g.1 - 1) :: ntF (g.2 + 1) t else ntF (g.2 + 1) t
theorem ntF_nf : ∀ {l : List Rg} {lo b c : Int}, nfF b l → b ≤ lo + 1 → lo ≤ b → c ≤ lo → nfF c (ntF lo l)
  | [], lo, b, c, _, _, _, hc => by
    unfold ntF
    split
    · exact ⟨hc, by omega, Int.le_refl _, trivial⟩
    · trivial
  | g :: t, lo, b, c, hn, h1, h2, hc => by
    obtain ⟨n1, n2, n3, n4⟩ := hn
    unfold ntF
    split
    · exact ⟨hc, by omega, by dsimp only; omega, ntF_nf n4 (by omega) (by omega) (by dsimp only; omega)⟩
    · exact ntF_nf n4 (by omega) (by omega) (by omega)
theorem ntF_in : ∀ {l : List Rg} {lo b : Int} (r : Int), nfF b l → lo ≤ b → (isin r (ntF lo l) ↔ lo ≤ r ∧ r ≤ top ∧ ¬ isin r l)
  | [], lo, b, r, _, _ => by
    unfold ntF
    split
    · simp [isin]
    · rename_i h
      simp only [isin, not_false_eq_true, and_true, false_iff]
      omega
  | g :: t, lo, b, r, hn, h2 => by
    obtain ⟨n1, n2, n3, n4⟩ := hn
    have ih := ntF_in (lo := g.2 + 1) r n4 (by omega)
    have key : ∀ x : Int, isin x t → g.2 + 2 ≤ x := fun x hx => isin_ge n4 hx
    unfold ntF
    split
    · show ((lo ≤ r ∧ r ≤ g.1 - 1) ∨ isin r (ntF (g.2 + 1) t)) ↔ _
      rw [ih]
      show _ ↔ lo ≤ r ∧ r ≤ top ∧ ¬ ((g.1 ≤ r ∧ r ≤ g.2) ∨ isin r t)
      constructor
      · rintro (⟨a, b⟩ | ⟨a, b, c⟩)
        · exact ⟨a, by omega, fun h => h.elim (fun ⟨x, _⟩ => by omega) (fun x => by have := key r x; omega)⟩
        · exact ⟨by omega, b, fun h => h.elim (fun ⟨_, x⟩ => by omega) c⟩
      · rintro ⟨a, b, c⟩
        rcases Int.lt_or_le r g.1 with hr | hr
        · exact Or.inl ⟨a, by omega⟩
        · refine Or.inr ⟨?_, b, fun x => c (Or.inr x)⟩
          rcases Int.lt_or_le g.2 r with hr2 | hr2
          · omega
          · exact (c (Or.inl ⟨hr, hr2⟩)).elim
    · rw [ih]
      show _ ↔ lo ≤ r ∧ r ≤ top ∧ ¬ ((g.1 ≤ r ∧ r ≤ g.2) ∨ isin r t)
      constructor
      · rintro ⟨a, b, c⟩
        exact ⟨by omega, b, fun h => h.elim (fun ⟨_, x⟩ => by omega) c⟩
      · rintro ⟨a, b, c⟩
        refine ⟨?_, b, fun x => c (Or.inr x)⟩
        rcases Int.lt_or_le g.2 r with hr2 | hr2
        · omega
        · exact (c (Or.inl ⟨by omega, hr2⟩)).elim
end Go.Proofs.YtohhokjlgihbgaaGreatDoor
