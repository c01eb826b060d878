import Derived.Test.YtljlhlcoaajggaaTabMath
namespace Go.Proofs.Ytljlhlcoaajggaa

/-- A range of numbers with its class. -/
abbrev Tr := Nat × Nat × Nat
/-- A range behind others: it makes the last one longer, if that has its class. -/
def jn (l : List Tr) (g : Tr) : List Tr :=
  match l.getLast? with
  | some z => if z.2.2 = g.2.2 then l.dropLast ++ [(z.1, g.2.1, g.2.2)] else l ++ [g]
  | none => [g]
theorem jn_nil (g : Tr) : jn [] g = [g] := rfl
theorem jn_snoc (Q : List Tr) (z g : Tr) : jn (Q ++ [z]) g = if z.2.2 = g.2.2 then Q ++ [(z.1, g.2.1, g.2.2)] else Q ++ [z, g] := by
  have h : (Q ++ [z]).getLast? = some z := by simp
  unfold jn
  rw [h]
  dsimp only
  rw [List.dropLast_concat]
  split
  · rfl
  · simp
theorem jn_ne (l : List Tr) (g : Tr) : jn l g ≠ [] := by
  unfold jn
  split
  · split <;> simp
  · simp
theorem jn_two (o : List Tr) (x y z w c : Nat) : jn (jn o (x, y, c)) (w, z, c) = jn o (x, z, c) := by
  rcases List.eq_nil_or_concat o with rfl | ⟨Q, v, rfl⟩
  · rw [jn_nil, jn_nil]
    have := jn_snoc [] (x, y, c) (w, z, c)
    simpa using this
  · rw [List.concat_eq_append, jn_snoc, jn_snoc]
    dsimp only
    by_cases h : v.2.2 = c
    · rw [if_pos h, if_pos h, jn_snoc, if_pos rfl]
    · rw [if_neg h, if_neg h]
      have := jn_snoc (Q ++ [v]) (x, y, c) (w, z, c)
      rw [if_pos rfl] at this
      simpa using this
/-- Numbers one behind the other, put into ranges. -/
def rlA (b : Nat) : List Tr → List Nat → List Tr
  | o, [] => o
  | o, c :: C => rlA (b + 1) (jn o (b, b, c)) C
theorem rlA_app : ∀ (C D : List Nat) (b : Nat) (o : List Tr), rlA b o (C ++ D) = rlA (b + C.length) (rlA b o C) D
  | [], D, b, o => by simp [rlA]
  | c :: C, D, b, o => by
    show rlA (b + 1) (jn o (b, b, c)) (C ++ D) = _
    rw [rlA_app C D (b + 1), List.length_cons, show b + 1 + C.length = b + (C.length + 1) by omega]
    rfl
theorem rlA_snoc (C : List Nat) (c b : Nat) (o : List Tr) : rlA b o (C ++ [c]) = jn (rlA b o C) (b + C.length, b + C.length, c) := by
  rw [rlA_app]; rfl
def shf (b : Nat) (g : Tr) : Tr := (b + g.1, b + g.2.1, g.2.2)
theorem last_cls : ∀ (C : List Nat) (c : Nat), ∃ Q a, rlA 0 [] (C ++ [c]) = Q ++ [(a, C.length, c)] := fun C c => by
  rw [rlA_snoc, Nat.zero_add]
  rcases List.eq_nil_or_concat (rlA 0 [] C) with h | ⟨Q, z, h⟩
  · rw [h]; exact ⟨[], C.length, rfl⟩
  · rw [h, List.concat_eq_append, jn_snoc]
    split
    · exact ⟨Q, z.1, rfl⟩
    · exact ⟨Q ++ [z], C.length, by simp⟩
/-- A block's ranges, moved to where it lies, one by one: the same as its numbers one by one. -/
theorem rlA_parts : ∀ (n : Nat) (C : List Nat) (b : Nat) (o : List Tr), C.length = n → (rlA 0 [] C).foldl (fun o g => jn o (shf b g)) o = rlA b o C
  | 0, C, b, o, h => by
    have : C = [] := List.length_eq_zero_iff.1 h
    subst this
    rfl
  | n + 1, C, b, o, h => by
    rcases List.eq_nil_or_concat C with rfl | ⟨D, c, rfl⟩
    · simp at h
    · rw [List.concat_eq_append] at *
      have hl : D.length = n := by simp at h; exact h
      have ih := rlA_parts n D b o hl
      rw [rlA_snoc D c b, ← ih, rlA_snoc, Nat.zero_add]
      rcases List.eq_nil_or_concat (rlA 0 [] D) with h2 | ⟨Q, z, h2⟩
      · rw [h2, jn_nil]; rfl
      · rw [h2, List.concat_eq_append, jn_snoc]
        by_cases hc : z.2.2 = c
        · rw [if_pos hc, List.foldl_append, List.foldl_append]
          obtain ⟨z1, z2, z3⟩ := z
          dsimp only at hc
          subst hc
          show jn _ (b + z1, b + D.length, z3) = jn (jn _ (b + z1, b + z2, z3)) (b + D.length, b + D.length, z3)
          rw [jn_two]
        · rw [if_neg hc, show Q ++ [z, (D.length, D.length, c)] = (Q ++ [z]) ++ [(D.length, D.length, c)] by simp, List.foldl_append]
          rfl
end Go.Proofs.Ytljlhlcoaajggaa
