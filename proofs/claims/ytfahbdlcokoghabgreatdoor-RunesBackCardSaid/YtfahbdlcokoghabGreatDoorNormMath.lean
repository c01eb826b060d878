/- A range more in a sorted list; merging, step by step. -/
import Derived.Test.YtfahbdlcokoghabGreatDoorPutLaw
namespace Go.Proofs.YtfahbdlcokoghabGreatDoor

theorem srt_ge : ∀ {l : List Rg} {b : Int} {j : Nat} {g : Rg}, srt b l → l[j]? = some g → b ≤ g.1
  | [], _, _, _, _, h => by cases h
  | x :: l, b, 0, g, hs, h => by cases h; exact hs.1
  | x :: l, b, j + 1, g, hs, h => by
    have h1 := srt_ge hs.2.2.2 (show l[j]? = some g from h)
    have := hs.1
    omega
theorem srt_hole : ∀ (l : List Rg) (p : Nat) (b : Int) (x : Rg), srt b l → p ≤ l.length → b ≤ x.1 → x.1 ≤ x.2 → x.2 ≤ top → (∀ (j : Nat) (g : Rg), p ≤ j → l[j]? = some g → x.1 < g.1) → (∀ (j : Nat) (g : Rg), j + 1 = p → l[j]? = some g → g.1 ≤ x.1) → srt b (hole l p x)
  | l, 0, b, x, hs, _, h1, h2, h3, h4, _ => by
    show srt b (x :: l)
    refine ⟨h1, h2, h3, ?_⟩
    cases l with
    | nil => trivial
    | cons g t => exact ⟨by have := h4 0 g (Nat.le_refl _) rfl; omega, hs.2⟩
  | [], p + 1, _, _, _, hp, _, _, _, _, _ => by simp at hp
  | g :: t, p + 1, b, x, hs, hp, h1, h2, h3, h4, h5 => by
    show srt b (g :: hole t p x)
    obtain ⟨s1, s2, s3, s4⟩ := hs
    have hgx : g.1 ≤ x.1 := by
      cases p with
      | zero => exact h5 0 g rfl rfl
      | succ q =>
        have hq : q < t.length := by simp at hp; omega
        have e := List.getElem?_eq_getElem hq
        have h6 := h5 (q + 1) t[q] rfl e
        have h7 := srt_ge s4 e
        omega
    exact ⟨s1, s2, s3, srt_hole t p g.1 x s4 (by simp at hp; omega) hgx h2 h3 (fun j y hj hy => h4 (j + 1) y (by omega) hy) (fun j y hj hy => h5 (j + 1) y (by omega) hy)⟩
theorem isin_hole (l : List Rg) (p : Nat) (x : Rg) (r : Int) : isin r (hole l p x) ↔ (x.1 ≤ r ∧ r ≤ x.2) ∨ isin r l := by
  have hm : ∀ g, g ∈ hole l p x ↔ g = x ∨ g ∈ l := fun g => by
    unfold hole
    have h := List.take_append_drop p l
    constructor
    · intro hg
      rcases List.mem_append.1 hg with h1 | h1
      · exact Or.inr (List.mem_of_mem_take h1)
      · rcases List.mem_cons.1 h1 with h2 | h2
        · exact Or.inl h2
        · exact Or.inr (List.mem_of_mem_drop h2)
    · rintro (h1 | h1)
      · exact List.mem_append.2 (Or.inr (List.mem_cons.2 (Or.inl h1)))
      · rw [← h] at h1
        rcases List.mem_append.1 h1 with h2 | h2
        · exact List.mem_append.2 (Or.inl h2)
        · exact List.mem_append.2 (Or.inr (List.mem_cons.2 (Or.inr h2)))
  rw [isin_iff, isin_iff]
  constructor
  · rintro ⟨g, hg, h1⟩
    rcases (hm g).1 hg with rfl | hg
    · exact Or.inl h1
    · exact Or.inr ⟨g, hg, h1⟩
  · rintro (h1 | ⟨g, hg, h1⟩)
    · exact ⟨x, (hm x).2 (Or.inl rfl), h1⟩
    · exact ⟨g, (hm g).2 (Or.inr hg), h1⟩

/-- One by one: the ranges of a list, cut, put in order. -/
def ins (x : Rg) : List Rg → List Rg
  | [] => [x]
  | y :: t => if y.1 ≤ x.1 then y :: ins x t else x :: y :: t
def isort (l : List Rg) : List Rg := l.foldl (fun s x => ins x s) []
theorem srt_ins : ∀ (l : List Rg) (b : Int) (x : Rg), srt b l → b ≤ x.1 → x.1 ≤ x.2 → x.2 ≤ top → srt b (ins x l)
  | [], _, _, _, h1, h2, h3 => ⟨h1, h2, h3, trivial⟩
  | y :: t, b, x, hs, h1, h2, h3 => by
    obtain ⟨s1, s2, s3, s4⟩ := hs
    unfold ins
    split
    · rename_i h; exact ⟨s1, s2, s3, srt_ins t y.1 x s4 h h2 h3⟩
    · rename_i h; exact ⟨h1, h2, h3, by omega, s2, s3, s4⟩
theorem isin_ins : ∀ (l : List Rg) (x : Rg) (r : Int), isin r (ins x l) ↔ (x.1 ≤ r ∧ r ≤ x.2) ∨ isin r l
  | [], _, _ => by simp [ins, isin]
  | y :: t, x, r => by
    unfold ins
    split
    · show ((y.1 ≤ r ∧ r ≤ y.2) ∨ isin r (ins x t)) ↔ _
      rw [isin_ins t x r]
      show _ ↔ _ ∨ (y.1 ≤ r ∧ r ≤ y.2) ∨ isin r t
      constructor
      · rintro (h | h | h)
        · exact Or.inr (Or.inl h)
        · exact Or.inl h
        · exact Or.inr (Or.inr h)
      · rintro (h | h | h)
        · exact Or.inr (Or.inl h)
        · exact Or.inl h
        · exact Or.inr (Or.inr h)
    · exact Iff.rfl
theorem isort_from : ∀ (l s : List Rg), (∀ g, g ∈ l → 0 ≤ g.1 ∧ g.1 ≤ g.2 ∧ g.2 ≤ top) → srt 0 s → srt 0 (l.foldl (fun s x => ins x s) s) ∧ ∀ r, isin r (l.foldl (fun s x => ins x s) s) ↔ isin r l ∨ isin r s
  | [], s, _, hs => ⟨hs, fun r => by simp [isin]⟩
  | x :: l, s, hv, hs => by
    have hx := hv x (List.mem_cons_self)
    have h := isort_from l (ins x s) (fun g hg => hv g (List.mem_cons_of_mem _ hg)) (srt_ins s 0 x hs hx.1 hx.2.1 hx.2.2)
    refine ⟨h.1, fun r => ?_⟩
    rw [List.foldl_cons, h.2 r, isin_ins]
    show _ ↔ ((x.1 ≤ r ∧ r ≤ x.2) ∨ isin r l) ∨ isin r s
    constructor
    · rintro (h | h | h)
      · exact Or.inl (Or.inr h)
      · exact Or.inl (Or.inl h)
      · exact Or.inr h
    · rintro ((h | h) | h)
      · exact Or.inr (Or.inl h)
      · exact Or.inl h
      · exact Or.inr (Or.inr h)
theorem cut_valid (l : List Rg) : ∀ g, g ∈ cut l → 0 ≤ g.1 ∧ g.1 ≤ g.2 ∧ g.2 ≤ top := fun g hg => by
  unfold cut at hg
  rw [List.mem_filter, List.mem_map] at hg
  obtain ⟨⟨x, _, rfl⟩, h⟩ := hg
  have h2 : (cut1 x).1 ≤ (cut1 x).2 := by simpa using h
  refine ⟨?_, h2, ?_⟩ <;> unfold cut1 <;> dsimp only <;> omega
/-- The normal form of the set that a list means. -/
def nrm (l : List Rg) : List Rg := mrg (isort (cut l))
theorem isort_cut (l : List Rg) : srt 0 (isort (cut l)) ∧ ∀ r, isin r (isort (cut l)) ↔ means r l := by
  have h := isort_from (cut l) [] (cut_valid l) trivial
  exact ⟨h.1, fun r => by
    show isin r ((cut l).foldl (fun s x => ins x s) []) ↔ _
    rw [h.2 r, cut_in]
    simp [isin]⟩
theorem nrm_nf (l : List Rg) : nf (nrm l) := mrg_nf (isort_cut l).1
theorem nrm_in (l : List Rg) (r : Int) : isin r (nrm l) ↔ means r l := by
  unfold nrm
  rw [mrg_in (isort_cut l).1, (isort_cut l).2]
/-- Whatever sorted list means the same: merged it is the normal form. -/
theorem mrg_nrm {s l : List Rg} (h : srt 0 s) (hi : ∀ r, isin r s ↔ means r l) : mrg s = nrm l :=
  nf_one (mrg_nf h) (nrm_nf l) (fun r => by rw [mrg_in h, nrm_in, hi])
/-- A list is the normal form of what it means just if it is in normal form. -/
theorem nrm_same (l : List Rg) : l = nrm l ↔ nf l := by
  constructor
  · intro h; rw [h]; exact nrm_nf l
  · intro h
    refine nf_one h (nrm_nf l) (fun r => ?_)
    rw [nrm_in]
    exact ⟨fun hr => ⟨isin_ge h hr, isin_le h hr, hr⟩, fun hr => hr.2.2⟩

/-- Merging so far: what lies in the answer, and what is to come. -/
def Mid (s out : List Rg) (k : Nat) : Prop := (k = 0 ∧ out = []) ∨ ∃ (P : List Rg) (lo hi : Int), out = P ++ [(lo, hi)] ∧ P ++ mrgF lo hi (s.drop k) = mrg s
theorem Mid.start (s : List Rg) : Mid s [] 0 := Or.inl ⟨rfl, rfl⟩
theorem Mid.first {s : List Rg} (h : 0 < s.length) : Mid s [s[0]] 1 := by
  refine Or.inr ⟨[], s[0].1, s[0].2, rfl, ?_⟩
  cases s with
  | nil => simp at h
  | cons g t => rfl
theorem Mid.more {s P : List Rg} {lo hi : Int} {k : Nat} (hk : k < s.length) (h : P ++ mrgF lo hi (s.drop k) = mrg s) (hc : hi + 1 < s[k].1) : Mid s (P ++ [(lo, hi)] ++ [s[k]]) (k + 1) := by
  refine Or.inr ⟨P ++ [(lo, hi)], s[k].1, s[k].2, rfl, ?_⟩
  rw [← h, List.drop_eq_getElem_cons hk]
  conv => rhs; unfold mrgF
  rw [if_pos hc]
  simp
theorem Mid.join {s P : List Rg} {lo hi : Int} {k : Nat} (hk : k < s.length) (h : P ++ mrgF lo hi (s.drop k) = mrg s) (hc : ¬ hi + 1 < s[k].1) : Mid s (P ++ [(lo, max hi s[k].2)]) (k + 1) := by
  refine Or.inr ⟨P, lo, max hi s[k].2, rfl, ?_⟩
  rw [← h, List.drop_eq_getElem_cons hk]
  conv => rhs; unfold mrgF
  rw [if_neg hc]
theorem Mid.done {s out : List Rg} {k : Nat} (h : Mid s out k) (hk : ¬ k < s.length) : out = mrg s := by
  rcases h with ⟨rfl, rfl⟩ | ⟨P, lo, hi, rfl, h⟩
  · have : s = [] := List.length_eq_zero_iff.1 (by omega)
    subst this; rfl
  · rw [List.drop_of_length_le (by omega)] at h
    exact h
end Go.Proofs.YtfahbdlcokoghabGreatDoor

