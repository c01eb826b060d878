/- Sets of states: marks, closures. -/
import Derived.Test.YteacehfihogmpaaDoorAutMath
namespace Go.Proofs.YteacehfihogmpaaDoor

/-- The states that are marked with the number of the last set are those of S. -/
structure Mk (I : List Int) (sets : Int) (n : Nat) (S : List Int) : Prop where
  len : I.length = n
  top : ∀ x ∈ I, x ≤ sets
  nd : S.Nodup
  bd : ∀ x ∈ S, 0 ≤ x ∧ x < n
  mrk : ∀ t : Nat, t < n → (I[t]? = some sets ↔ (t : Int) ∈ S)
theorem Mk.next {I : List Int} {sets : Int} {n : Nat} {S : List Int} (h : Mk I sets n S) : Mk I (sets + 1) n [] :=
  ⟨h.len, fun x hx => by have := h.top x hx; omega, List.nodup_nil, fun _ hx => by simp at hx, fun t ht => ⟨fun e => by have := h.top _ (List.mem_of_getElem? e); omega, fun e => by simp at e⟩⟩
theorem nodup_snoc {α : Type} {l : List α} {x : α} (h : l.Nodup) (hx : x ∉ l) : (l ++ [x]).Nodup := by
  rw [List.nodup_append]
  refine ⟨h, by simp, fun a ha b hb => ?_⟩
  simp at hb
  subst hb
  exact fun e => hx (e ▸ ha)
theorem Mk.put {I : List Int} {sets : Int} {n : Nat} {S : List Int} (h : Mk I sets n S) {t : Nat} (ht : t < n) (hI : I[t]? ≠ some sets) : Mk (I.set t sets) sets n (S ++ [(t : Int)]) := by
  refine ⟨by rw [List.length_set]; exact h.len, fun x hx => ?_, nodup_snoc h.nd fun e => hI ((h.mrk t ht).2 e), fun x hx => ?_, fun u hu => ?_⟩
  · rcases List.mem_or_eq_of_mem_set hx with h1 | h1
    · exact h.top x h1
    · omega
  · rcases List.mem_append.1 hx with h1 | h1
    · exact h.bd x h1
    · simp at h1; omega
  · rw [List.getElem?_set]
    have hl := h.len
    by_cases e : t = u
    · subst e
      simp [ht, hl]
    · rw [if_neg e, h.mrk u hu, List.mem_append]
      constructor
      · exact Or.inl
      · rintro (h1 | h1)
        · exact h1
        · simp at h1; omega
theorem nodup_le {l : List Int} {n : Nat} (h : l.Nodup) (hb : ∀ x ∈ l, 0 ≤ x ∧ x < n) : l.length ≤ n := by
  have h1 : (l.map Int.toNat).Nodup := by
    rw [List.nodup_iff_pairwise_ne] at h ⊢
    rw [List.pairwise_map]
    exact List.Pairwise.imp_of_mem (fun {a b} ha hb' hne e => hne (by have := hb a ha; have := hb b hb'; omega)) h
  have h2 : l.map Int.toNat ⊆ List.range n := fun x hx => by
    obtain ⟨y, hy, rfl⟩ := List.mem_map.1 hx
    have := hb y hy
    exact List.mem_range.2 (by omega)
  have h3 := List.Nodup.length_le_of_subset h1 h2
  simpa using h3
theorem Mk.le {I : List Int} {sets : Int} {n : Nat} {S : List Int} (h : Mk I sets n S) : S.length ≤ n := nodup_le h.nd h.bd

/-- Whereto one comes by Free. -/
inductive Rch (FL : List (List Int)) (A : Int → Prop) : Int → Prop
  | base {x : Int} : A x → Rch FL A x
  | step {x t : Int} {l : List Int} : Rch FL A x → FL[x.toNat]? = some l → t ∈ l → Rch FL A t
theorem Rch.mono {FL : List (List Int)} {A B : Int → Prop} (h : ∀ x, A x → B x) {x : Int} (hx : Rch FL A x) : Rch FL B x := by
  induction hx with
  | base h1 => exact .base (h _ h1)
  | step _ h2 h3 ih => exact .step ih h2 h3
theorem Rch.idem {FL : List (List Int)} {A : Int → Prop} {x : Int} (hx : Rch FL (Rch FL A) x) : Rch FL A x := by
  induction hx with
  | base h1 => exact h1
  | step _ h2 h3 ih => exact .step ih h2 h3
/-- Between the rounds of closed. -/
structure Cls (FL : List (List Int)) (S0 : List Int) (n : Nat) (sets : Int) (i j : Nat) (S I : List Int) : Prop where
  mks : Mk I sets n S
  sub : ∀ x ∈ S0, x ∈ S
  rch : ∀ x ∈ S, Rch FL (· ∈ S0) x
  old : ∀ (k : Nat) (x : Int) (l : List Int), k < i → S[k]? = some x → FL[x.toNat]? = some l → ∀ t ∈ l, t ∈ S
  now : ∀ (x : Int) (l : List Int), S[i]? = some x → FL[x.toNat]? = some l → ∀ t ∈ l.take j, t ∈ S
theorem Cls.start {FL : List (List Int)} {S0 : List Int} {n : Nat} {sets : Int} {I : List Int} (h : Mk I sets n S0) : Cls FL S0 n sets 0 0 S0 I :=
  ⟨h, fun _ h => h, fun _ h => .base h, fun _ _ _ h => by omega, fun _ _ _ _ _ h => by simp at h⟩
section
variable {FL : List (List Int)} {S0 : List Int} {n : Nat} {sets : Int} {i j : Nat} {S I : List Int}
theorem take_at {α : Type} {l : List α} {j : Nat} {t x : α} (ht : l[j]? = some t) (hx : x ∈ l.take (j + 1)) : x ∈ l.take j ∨ x = t := by
  have hj := (List.getElem?_eq_some_iff.1 ht).1
  rw [List.take_succ_eq_append_getElem hj] at hx
  rcases List.mem_append.1 hx with h | h
  · exact .inl h
  · right
    simp at h
    rw [h]
    exact (List.getElem?_eq_some_iff.1 ht).2
theorem Cls.seen (h : Cls FL S0 n sets i j S I) {x : Int} {l : List Int} {t : Nat} (hx : S[i]? = some x) (hl : FL[x.toNat]? = some l) (ht : l[j]? = some (t : Int)) (htn : t < n) (hI : I[t]? = some sets) : Cls FL S0 n sets i (j + 1) S I := by
  refine ⟨h.mks, h.sub, h.rch, h.old, fun y m hy hm u hu => ?_⟩
  rw [hx] at hy
  cases hy
  rw [hl] at hm
  cases hm
  rcases take_at ht hu with h1 | h1
  · exact h.now x l hx hl u h1
  · rw [h1]; exact (h.mks.mrk t htn).1 hI
theorem Cls.new (h : Cls FL S0 n sets i j S I) {x : Int} {l : List Int} {t : Nat} (hx : S[i]? = some x) (hl : FL[x.toNat]? = some l) (ht : l[j]? = some (t : Int)) (htn : t < n) (hI : I[t]? ≠ some sets) : Cls FL S0 n sets i (j + 1) (S ++ [(t : Int)]) (I.set t sets) := by
  have hil := (List.getElem?_eq_some_iff.1 hx).1
  have hx' : (S ++ [(t : Int)])[i]? = some x := by rw [List.getElem?_append_left hil]; exact hx
  refine ⟨h.mks.put htn hI, fun y hy => List.mem_append.2 (.inl (h.sub y hy)), fun y hy => ?_, fun k y m hk hy hm u hu => ?_, fun y m hy hm u hu => ?_⟩
  · rcases List.mem_append.1 hy with h1 | h1
    · exact h.rch y h1
    · simp at h1
      subst h1
      exact .step (h.rch x (List.mem_of_getElem? hx)) hl (List.mem_of_getElem? ht)
  · rw [List.getElem?_append_left (by omega)] at hy
    exact List.mem_append.2 (.inl (h.old k y m hk hy hm u hu))
  · rw [hx'] at hy
    cases hy
    rw [hl] at hm
    cases hm
    rcases take_at ht hu with h1 | h1
    · exact List.mem_append.2 (.inl (h.now x l hx hl u h1))
    · rw [h1]; simp
theorem Cls.next (h : Cls FL S0 n sets i j S I) {x : Int} {l : List Int} (hx : S[i]? = some x) (hl : FL[x.toNat]? = some l) (hj : l.length ≤ j) : Cls FL S0 n sets (i + 1) 0 S I := by
  refine ⟨h.mks, h.sub, h.rch, fun k y m hk hy hm u hu => ?_, fun _ _ _ _ _ h => by simp at h⟩
  by_cases e : k < i
  · exact h.old k y m e hy hm u hu
  · have : k = i := by omega
    subst this
    rw [hx] at hy
    cases hy
    rw [hl] at hm
    cases hm
    exact h.now x l hx hl u (by rw [List.take_of_length_le hj]; exact hu)
theorem Cls.done (h : Cls FL S0 n sets i j S I) (hi : S.length ≤ i) : Mk I sets n S ∧ ∀ x, x ∈ S ↔ Rch FL (· ∈ S0) x := by
  refine ⟨h.mks, fun x => ⟨h.rch x, fun hr => ?_⟩⟩
  induction hr with
  | base h1 => exact h.sub _ h1
  | step _ h2 h3 ih =>
    obtain ⟨k, hk⟩ := List.mem_iff_getElem?.1 ih
    have := (List.getElem?_eq_some_iff.1 hk).1
    exact h.old k _ _ (by omega) hk h2 _ h3
end
/-- Between the rounds of begin: what of l is a state. -/
structure Bgn (l : List Int) (n : Nat) (sets : Int) (k : Nat) (S I : List Int) : Prop where
  mks : Mk I sets n S
  iff : ∀ x, x ∈ S ↔ x ∈ l.take k ∧ 0 ≤ x ∧ x < n
section
variable {l : List Int} {n : Nat} {sets : Int} {k : Nat} {S I : List Int}
theorem Bgn.start {S : List Int} (h : Mk I sets n S) : Bgn l n (sets + 1) 0 [] I := ⟨h.next, fun x => by simp⟩
theorem mem_take_at {α : Type} {l : List α} {k : Nat} {z x : α} (hz : l[k]? = some z) : x ∈ l.take (k + 1) ↔ x ∈ l.take k ∨ x = z := by
  refine ⟨take_at hz, fun h => ?_⟩
  have hk := (List.getElem?_eq_some_iff.1 hz).1
  rw [List.take_succ_eq_append_getElem hk, (List.getElem?_eq_some_iff.1 hz).2]
  rcases h with h | h
  · exact List.mem_append.2 (.inl h)
  · exact List.mem_append.2 (.inr (by simp [h]))
theorem Bgn.out (h : Bgn l n sets k S I) {z : Int} (hz : l[k]? = some z) (hn : z < 0 ∨ (n : Int) ≤ z) : Bgn l n sets (k + 1) S I := by
  refine ⟨h.mks, fun x => ?_⟩
  rw [h.iff, mem_take_at hz]
  constructor
  · rintro ⟨h1, h2⟩; exact ⟨.inl h1, h2⟩
  · rintro ⟨h1 | h1, h2⟩
    · exact ⟨h1, h2⟩
    · omega
theorem Bgn.seen (h : Bgn l n sets k S I) {t : Nat} (hz : l[k]? = some (t : Int)) (ht : t < n) (hI : I[t]? = some sets) : Bgn l n sets (k + 1) S I := by
  refine ⟨h.mks, fun x => ?_⟩
  have hS := (h.mks.mrk t ht).1 hI
  rw [h.iff, mem_take_at hz]
  constructor
  · rintro ⟨h1, h2⟩; exact ⟨.inl h1, h2⟩
  · rintro ⟨h1 | h1, h2⟩
    · exact ⟨h1, h2⟩
    · subst h1; exact (h.iff _).1 hS
theorem Bgn.new (h : Bgn l n sets k S I) {t : Nat} (hz : l[k]? = some (t : Int)) (ht : t < n) (hI : I[t]? ≠ some sets) : Bgn l n sets (k + 1) (S ++ [(t : Int)]) (I.set t sets) := by
  refine ⟨h.mks.put ht hI, fun x => ?_⟩
  rw [List.mem_append, h.iff, mem_take_at hz]
  constructor
  · rintro (⟨h1, h2⟩ | h1)
    · exact ⟨.inl h1, h2⟩
    · simp at h1; subst h1; exact ⟨.inr rfl, by omega, by omega⟩
  · rintro ⟨h1 | h1, h2⟩
    · exact .inl ⟨h1, h2⟩
    · right; simp [h1]
end
/-- A way: the classes as bits, and where it leads. -/
abbrev Wy := Nat × Int
/-- Where one comes from the states of N by some class of by. -/
def Stp (WL : List (List Wy)) (N : List Int) (by_ : Nat) (t : Int) : Prop := ∃ s ∈ N, ∃ l, WL[s.toNat]? = some l ∧ ∃ x ∈ l, x.2 = t ∧ x.1 &&& by_ ≠ 0
/-- Between the rounds of step. -/
structure Sps (WL : List (List Wy)) (N : List Int) (by_ n : Nat) (sets : Int) (i j : Nat) (S I : List Int) : Prop where
  mks : Mk I sets n S
  iff : ∀ t, t ∈ S ↔ Stp WL (N.take i) by_ t ∨ ∃ s l, N[i]? = some s ∧ WL[s.toNat]? = some l ∧ ∃ x ∈ l.take j, x.2 = t ∧ x.1 &&& by_ ≠ 0
section
variable {WL : List (List Wy)} {N : List Int} {by_ n : Nat} {sets : Int} {i j : Nat} {S I : List Int}
theorem Sps.start {S : List Int} (h : Mk I sets n S) : Sps WL N by_ n (sets + 1) 0 0 [] I := by
  refine ⟨h.next, fun t => ?_⟩
  constructor
  · intro h; simp at h
  · rintro (⟨s, hs, _⟩ | ⟨s, l, _, _, x, hx, _⟩)
    · simp at hs
    · simp at hx
theorem Sps.pass (h : Sps WL N by_ n sets i j S I) {s : Int} {l : List Wy} {x : Wy} (hs : N[i]? = some s) (hl : WL[s.toNat]? = some l) (hx : l[j]? = some x) (hno : x.1 &&& by_ = 0 ∨ x.2 ∈ S) : Sps WL N by_ n sets i (j + 1) S I := by
  refine ⟨h.mks, fun t => ⟨fun ht => ?_, fun ht => ?_⟩⟩
  · rcases (h.iff t).1 ht with h1 | ⟨s', l', h1, h2, y, hy, h3⟩
    · exact .inl h1
    · rw [hs] at h1; cases h1
      rw [hl] at h2; cases h2
      exact .inr ⟨s, l, hs, hl, y, (mem_take_at hx).2 (.inl hy), h3⟩
  · rcases ht with h1 | ⟨s', l', h1, h2, y, hy, h3, h4⟩
    · exact (h.iff t).2 (.inl h1)
    · rw [hs] at h1; cases h1
      rw [hl] at h2; cases h2
      rcases (mem_take_at hx).1 hy with h5 | h5
      · exact (h.iff t).2 (.inr ⟨s, l, hs, hl, y, h5, h3, h4⟩)
      · subst h5
        rcases hno with h6 | h6
        · exact absurd h6 h4
        · rw [← h3]; exact h6
theorem Sps.new (h : Sps WL N by_ n sets i j S I) {s : Int} {l : List Wy} {m t : Nat} (hs : N[i]? = some s) (hl : WL[s.toNat]? = some l) (hx : l[j]? = some (m, (t : Int))) (hm : m &&& by_ ≠ 0) (ht : t < n) (hI : I[t]? ≠ some sets) : Sps WL N by_ n sets i (j + 1) (S ++ [(t : Int)]) (I.set t sets) := by
  refine ⟨h.mks.put ht hI, fun u => ⟨fun hu => ?_, fun hu => ?_⟩⟩
  · rcases List.mem_append.1 hu with hu | hu
    · rcases (h.iff u).1 hu with h1 | ⟨s', l', h1, h2, y, hy, h3⟩
      · exact .inl h1
      · rw [hs] at h1; cases h1
        rw [hl] at h2; cases h2
        exact .inr ⟨s, l, hs, hl, y, (mem_take_at hx).2 (.inl hy), h3⟩
    · simp at hu
      subst hu
      exact .inr ⟨s, l, hs, hl, _, (mem_take_at hx).2 (.inr rfl), rfl, hm⟩
  · rcases hu with h1 | ⟨s', l', h1, h2, y, hy, h3, h4⟩
    · exact List.mem_append.2 (.inl ((h.iff u).2 (.inl h1)))
    · rw [hs] at h1; cases h1
      rw [hl] at h2; cases h2
      rcases (mem_take_at hx).1 hy with h5 | h5
      · exact List.mem_append.2 (.inl ((h.iff u).2 (.inr ⟨s, l, hs, hl, y, h5, h3, h4⟩)))
      · subst h5
        rw [← h3]; simp
theorem Sps.next (h : Sps WL N by_ n sets i j S I) {s : Int} {l : List Wy} (hs : N[i]? = some s) (hl : WL[s.toNat]? = some l) (hj : l.length ≤ j) : Sps WL N by_ n sets (i + 1) 0 S I := by
  refine ⟨h.mks, fun t => ?_⟩
  rw [h.iff t]
  constructor
  · rintro (⟨s', h1, h2⟩ | ⟨s', l', h1, h2, y, hy, h3⟩)
    · exact .inl ⟨s', (mem_take_at hs).2 (.inl h1), h2⟩
    · rw [hs] at h1; cases h1
      rw [hl] at h2; cases h2
      rw [List.take_of_length_le hj] at hy
      exact .inl ⟨s, (mem_take_at hs).2 (.inr rfl), l, hl, y, hy, h3⟩
  · rintro (⟨s', h1, l', h2, y, hy, h3⟩ | ⟨_, _, _, _, y, hy, _⟩)
    · rcases (mem_take_at hs).1 h1 with h4 | h4
      · exact .inl ⟨s', h4, l', h2, y, hy, h3⟩
      · subst h4
        rw [hl] at h2; cases h2
        exact .inr ⟨s', l, hs, hl, y, by rw [List.take_of_length_le hj]; exact hy, h3⟩
    · simp at hy
theorem Sps.done (h : Sps WL N by_ n sets i 0 S I) (hi : N.length ≤ i) : Mk I sets n S ∧ ∀ t, t ∈ S ↔ Stp WL N by_ t := by
  refine ⟨h.mks, fun t => ?_⟩
  rw [h.iff t, List.take_of_length_le hi]
  constructor
  · rintro (h1 | ⟨_, _, _, _, y, hy, _⟩)
    · exact h1
    · simp at hy
  · exact .inl
end
end Go.Proofs.YteacehfihogmpaaDoor
