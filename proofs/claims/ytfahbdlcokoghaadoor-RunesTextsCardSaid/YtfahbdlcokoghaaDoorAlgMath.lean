/- A Boolean algebra of lists in normal form: the mathematics. -/
import Derived.Test.YtfahbdlcokoghaaDoorOpsWalk
namespace Go.Proofs.YtfahbdlcokoghaaDoor

theorem means_rng {r : Int} {l : List Rg} (h : means r l) : 0 ≤ r ∧ r ≤ top := ⟨h.1, h.2.1⟩
theorem means_nt (r : Int) (l : List Rg) : means r (nt l) ↔ (0 ≤ r ∧ r ≤ top) ∧ ¬ means r l := by rw [nt_means, and_assoc]
theorem means_or (r : Int) (a b : List Rg) : means r (orN a b) ↔ means r a ∨ means r b := by rw [means_nf (show nf (orN a b) from nrm_nf _), orN_in]
theorem means_and (r : Int) (a b : List Rg) : means r (andN a b) ↔ means r a ∧ means r b := by rw [means_nf (andN_nf a b), andN_in]
theorem means_nrm (r : Int) (l : List Rg) : means r (nrm l) ↔ means r l := by rw [means_nf (nrm_nf l), nrm_in]
theorem means_none (r : Int) : ¬ means r [] := fun h => h.2.2
/-- Two normal forms that mean the same are one. -/
theorem nf_same {l m : List Rg} (h1 : nf l) (h2 : nf m) (h : ∀ r, means r l ↔ means r m) : l = m :=
  nf_one h1 h2 fun r => by rw [← means_nf h1, ← means_nf h2]; exact h r
theorem orN_nf (a b : List Rg) : nf (orN a b) := nrm_nf _
theorem alg1 (a : List Rg) : nt (nt a) = nrm a := nf_same (nt_nf _) (nrm_nf a) fun r => by
  rw [means_nt, means_nt, means_nrm]
  constructor
  · rintro ⟨h1, h2⟩; exact Classical.not_not.1 fun h => h2 ⟨h1, h⟩
  · intro h; exact ⟨means_rng h, fun x => x.2 h⟩
theorem alg2 (a : List Rg) : orN a a = nrm a := nf_same (orN_nf _ _) (nrm_nf a) fun r => by
  rw [means_or, means_nrm, or_self]
theorem alg3 (a : List Rg) : andN a a = nrm a := nf_same (andN_nf _ _) (nrm_nf a) fun r => by
  rw [means_and, means_nrm, and_self]
theorem alg4 (a : List Rg) : andN a (nt a) = [] := nf_same (andN_nf _ _) trivial fun r => by
  rw [means_and, means_nt]
  exact ⟨fun h => (h.2.2 h.1).elim, fun h => (means_none r h).elim⟩
theorem alg5 (a : List Rg) : orN a (nt a) = nt [] := nf_same (orN_nf _ _) (nt_nf _) fun r => by
  rw [means_or, means_nt, means_nt]
  constructor
  · rintro (h | h)
    · exact ⟨means_rng h, means_none r⟩
    · exact ⟨h.1, means_none r⟩
  · intro h
    by_cases x : means r a
    · exact .inl x
    · exact .inr ⟨h.1, x⟩
theorem alg6 (a : List Rg) : andN a (nt []) = nrm a := nf_same (andN_nf _ _) (nrm_nf a) fun r => by
  rw [means_and, means_nt, means_nrm]
  exact ⟨fun h => h.1, fun h => ⟨h, means_rng h, means_none r⟩⟩
theorem alg7 (a b : List Rg) : orN a b = orN b a := nf_same (orN_nf _ _) (orN_nf _ _) fun r => by
  rw [means_or, means_or, or_comm]
theorem alg8 (a b : List Rg) : andN a b = andN b a := nf_same (andN_nf _ _) (andN_nf _ _) fun r => by
  rw [means_and, means_and, and_comm]
theorem alg10 (a b : List Rg) : nt (orN a b) = andN (nt a) (nt b) := nf_same (nt_nf _) (andN_nf _ _) fun r => by
  rw [means_nt, means_or, means_and, means_nt, means_nt]
  constructor
  · rintro ⟨h1, h2⟩; exact ⟨⟨h1, fun h => h2 (.inl h)⟩, h1, fun h => h2 (.inr h)⟩
  · rintro ⟨⟨h1, h2⟩, _, h3⟩; exact ⟨h1, fun h => h.elim h2 h3⟩
theorem alg11 (a b : List Rg) : orN a (andN a b) = nrm a := nf_same (orN_nf _ _) (nrm_nf a) fun r => by
  rw [means_or, means_and, means_nrm]
  exact ⟨fun h => h.elim id (fun x => x.1), .inl⟩
theorem alg12 (a b c : List Rg) : andN a (orN b c) = orN (andN a b) (andN a c) := nf_same (andN_nf _ _) (orN_nf _ _) fun r => by
  rw [means_and, means_or, means_or, means_and, means_and, and_or_left]
theorem alg13 (a b c : List Rg) : orN a (orN b c) = orN (orN a b) c := nf_same (orN_nf _ _) (orN_nf _ _) fun r => by
  rw [means_or, means_or, means_or, means_or, or_assoc]
theorem has_or (r : Int) (a b : List Rg) : hasR r (orN a b) = (hasR r a || hasR r b) := Bool.eq_iff_iff.2 (by rw [Bool.or_eq_true, hasR_iff, hasR_iff, hasR_iff, means_or])
theorem has_and (r : Int) (a b : List Rg) : hasR r (andN a b) = (hasR r a && hasR r b) := Bool.eq_iff_iff.2 (by rw [Bool.and_eq_true, hasR_iff, hasR_iff, hasR_iff, means_and])
theorem has_nt (r : Int) (a : List Rg) : hasR r (nt a) = ((decide (0 ≤ r) && decide (r ≤ 1114111)) && !hasR r a) := Bool.eq_iff_iff.2 (by
  rw [Bool.and_eq_true, Bool.and_eq_true, hasR_iff, means_nt, decide_eq_true_iff, decide_eq_true_iff, Bool.not_eq_true', ← Bool.not_eq_true, hasR_iff]
  rfl)
theorem has_min (r : Int) (a b : List Rg) : hasR r (minN a b) = (hasR r a && !hasR r b) := Bool.eq_iff_iff.2 (by
  rw [Bool.and_eq_true, Bool.not_eq_true', ← Bool.not_eq_true, hasR_iff, hasR_iff, hasR_iff]
  unfold minN
  rw [means_and, means_nt]
  exact ⟨fun h => ⟨h.1, h.2.2⟩, fun h => ⟨h.1, means_rng h.1, h.2⟩⟩)
end Go.Proofs.YtfahbdlcokoghaaDoor
