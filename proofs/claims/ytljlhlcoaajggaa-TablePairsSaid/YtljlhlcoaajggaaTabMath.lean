import Derived.ProofKit
namespace Go.Proofs.Ytljlhlcoaajggaa

/-- Those of a list that are unlike all ahead of them. -/
def uqF (u : List (List Nat)) : List (List Nat) → List (List Nat)
  | [] => u
  | b :: F => uqF (if b ∈ u then u else u ++ [b]) F
def uq (F : List (List Nat)) : List (List Nat) := uqF [] F
theorem uqF_app : ∀ (F G u : List (List Nat)), uqF u (F ++ G) = uqF (uqF u F) G
  | [], _, _ => rfl
  | b :: F, G, u => by
    show uqF _ (F ++ G) = uqF (uqF _ F) G
    exact uqF_app F G _
theorem uq_snoc (F : List (List Nat)) (b : List Nat) : uq (F ++ [b]) = if b ∈ uq F then uq F else uq F ++ [b] := by
  unfold uq; rw [uqF_app]; rfl
theorem mem_uqF : ∀ (F u : List (List Nat)) (b : List Nat), b ∈ uqF u F ↔ b ∈ u ∨ b ∈ F
  | [], u, b => by simp [uqF]
  | c :: F, u, b => by
    show b ∈ uqF _ F ↔ _
    rw [mem_uqF F _ b]
    by_cases h : c ∈ u
    · rw [if_pos h]
      constructor
      · rintro (h1 | h1)
        · exact .inl h1
        · exact .inr (by simp [h1])
      · rintro (h1 | h1)
        · exact .inl h1
        · rcases List.mem_cons.1 h1 with rfl | h2
          · exact .inl h
          · exact .inr h2
    · rw [if_neg h]
      simp only [List.mem_append, List.mem_cons, List.not_mem_nil, or_false, or_assoc]
theorem mem_uq (F : List (List Nat)) (b : List Nat) : b ∈ uq F ↔ b ∈ F := by unfold uq; rw [mem_uqF]; simp
theorem nodup_uqF : ∀ (F u : List (List Nat)), u.Nodup → (uqF u F).Nodup
  | [], _, h => h
  | c :: F, u, h => by
    show (uqF _ F).Nodup
    apply nodup_uqF
    by_cases hc : c ∈ u
    · rw [if_pos hc]; exact h
    · rw [if_neg hc, List.nodup_append]
      exact ⟨h, by simp, fun a ha b hb e => by simp at hb; subst hb; subst e; exact hc ha⟩
theorem nodup_uq (F : List (List Nat)) : (uq F).Nodup := nodup_uqF F [] (by simp)
/-- Which of them a block is. -/
def ix (F : List (List Nat)) (b : List Nat) : Nat := (uq F).idxOf b
theorem ix_lt {F : List (List Nat)} {b : List Nat} (h : b ∈ F) : ix F b < (uq F).length := List.idxOf_lt_length_iff.2 ((mem_uq F b).2 h)
theorem ix_get {F : List (List Nat)} {b : List Nat} (h : b ∈ F) : (uq F)[ix F b]? = some b := by
  have hl := ix_lt h
  rw [List.getElem?_eq_getElem hl]
  exact congrArg some (List.getElem_idxOf hl)
theorem ix_more {F : List (List Nat)} {b : List Nat} (c : List Nat) (h : b ∈ F) : ix (F ++ [c]) b = ix F b := by
  unfold ix
  rw [uq_snoc]
  split
  · rfl
  · rw [List.idxOf_append, if_pos ((mem_uq F b).2 h)]
theorem ix_new {F : List (List Nat)} {b : List Nat} (h : b ∉ F) : ix (F ++ [b]) b = (uq F).length ∧ uq (F ++ [b]) = uq F ++ [b] := by
  have h2 : b ∉ uq F := fun e => h ((mem_uq F b).1 e)
  have e : uq (F ++ [b]) = uq F ++ [b] := by rw [uq_snoc, if_neg h2]
  refine ⟨?_, e⟩
  unfold ix
  rw [e, List.idxOf_append, if_neg h2]
  simp
theorem ix_old {F : List (List Nat)} {b : List Nat} (h : b ∈ F) : ix (F ++ [b]) b = ix F b ∧ uq (F ++ [b]) = uq F := ⟨ix_more b h, by rw [uq_snoc, if_pos ((mem_uq F b).2 h)]⟩
/-- The numbers of all blocks. -/
def fst (F : List (List Nat)) : List Nat := F.map (ix F)
theorem fst_snoc (F : List (List Nat)) (b : List Nat) : fst (F ++ [b]) = fst F ++ [ix (F ++ [b]) b] := by
  unfold fst
  rw [List.map_append, List.map_cons, List.map_nil]
  congr 1
  exact List.map_congr_left fun c hc => ix_more b hc
/-- Blocks of numbers are told by their numbers and the unlike ones. -/
theorem fst_one {F G : List (List Nat)} (h1 : fst F = fst G) (h2 : uq F = uq G) : F = G := by
  have hl : F.length = G.length := by have := congrArg List.length h1; simpa [fst] using this
  apply List.ext_getElem hl
  intro i hi hj
  have e1 : (fst F)[i]? = (fst G)[i]? := by rw [h1]
  unfold fst at e1
  rw [List.getElem?_map, List.getElem?_map, List.getElem?_eq_getElem hi, List.getElem?_eq_getElem hj] at e1
  simp only [Option.map_some, Option.some.injEq] at e1
  have e2 := ix_get (F := F) (b := F[i]) (List.getElem_mem hi)
  have e3 := ix_get (F := G) (b := G[i]) (List.getElem_mem hj)
  rw [e1, h2, e3] at e2
  exact (Option.some.inj e2).symm
end Go.Proofs.Ytljlhlcoaajggaa
