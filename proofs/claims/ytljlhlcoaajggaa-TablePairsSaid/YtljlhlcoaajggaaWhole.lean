/- The contract of whole (package table): all numbers in as few ranges as can be. -/
import Derived.Test.YtljlhlcoaajggaaCount
namespace Go.Proofs.Ytljlhlcoaajggaa
open Go.RowKit

/-- The ranges of the k-th of the unlike blocks. -/
def prt (F : List (List Nat)) (k : Nat) : List Tr := rlA 0 [] ((uq F)[k]?.getD [])
/-- Each of these slices has the ranges of a block. -/
def PtAt (p : Nat) (F : List (List Nat)) (k : Nat) (vs : List Value) (w : World) : Prop :=
  ∀ j, j < k → ∃ v, vs[j]? = some v ∧ w.ownsRow (p + 1) 36 3 v (prt F j).length (rks (prt F j))
theorem PtAt.below {p : Nat} {F : List (List Nat)} {k : Nat} {vs : List Value} {w w' : World} (h : PtAt p F k vs w) (hb : Below w.heap.size w w') : PtAt p F k vs w' := fun j hj => by
  obtain ⟨v, h1, h2⟩ := h j hj
  exact ⟨v, h1, own_keep h2 hb⟩
theorem PtAt.set {p : Nat} {F : List (List Nat)} {k : Nat} {vs : List Value} {w : World} (h : PtAt p F k vs w) (v : Value) (hk : k < vs.length) (hv : w.ownsRow (p + 1) 36 3 v (prt F k).length (rks (prt F k))) :
    PtAt p F (k + 1) (vs.set k v) (w.setCell ⟨p, k, none⟩ v) := fun j hj => by
  by_cases e : k = j
  · subst e
    exact ⟨v, List.getElem?_set_self hk, ownsRow_setCell_below hv (by show p < p + 1; omega) _⟩
  · obtain ⟨u, h1, h2⟩ := h j (by omega)
    exact ⟨u, by rw [List.getElem?_set_ne e]; exact h1, ownsRow_setCell_below h2 (by show p < p + 1; omega) _⟩
theorem prt_len (F : List (List Nat)) (ho : ok128 F) (k : Nat) : (prt F k).length ≤ 128 := by
  unfold prt
  have h1 := rlA_len ((uq F)[k]?.getD []) 0 []
  cases h : (uq F)[k]? with
  | none => exact Nat.zero_le _
  | some b =>
    rw [h] at h1
    have := uq_ok ho b (List.mem_of_getElem? h)
    simp only [Option.getD_some] at h1 ⊢
    simp at h1; omega
theorem Try.info25 : (Try.prog.info? 25).map (fun i => (i.zero, i.size, i.bytes)) = some (some (.slice none 0 0), 1, 24) := by kernel_rfl
theorem made_nil (n : Nat) : (madeCells (Value.slice none 0 0).cells (n * 1)).toList = List.replicate n (.slice none 0 0) := by
  rw [Nat.mul_one]
  show (madeCells #[Value.slice none 0 0] n).toList = _
  rw [toList_madeCells_one]
/-- The ranges of the first n blocks of numbers. -/
def whN (F : List (List Nat)) (n : Nat) : List Tr := rlA 0 [] ((F.take n).flatten)
theorem whN_next (F : List (List Nat)) (ho : ok128 F) (n : Nat) (b : List Nat) (h : F[n]? = some b) : whN F (n + 1) = (prt F (ix F b)).foldl (fun o g => jn o (shf (n * 128) g)) (whN F n) := by
  have hm := List.mem_of_getElem? h
  unfold prt
  rw [ix_get hm]
  show _ = (rlA 0 [] b).foldl _ _
  rw [rlA_parts 128 b _ _ (ho b hm)]
  unfold whN
  obtain ⟨hn, hb⟩ := List.getElem?_eq_some_iff.1 h
  rw [List.take_succ_eq_append_getElem hn, List.flatten_append, rlA_app, hb]
  have h2 := flat_len (F.take n) (fun c hc => ho c (List.mem_of_mem_take hc))
  rw [h2, List.length_take]
  simp only [List.flatten_cons, List.flatten_nil, List.append_nil]
  rw [show 0 + 128 * min n F.length = n * 128 by omega]
theorem whN_len (F : List (List Nat)) (ho : ok128 F) (n : Nat) : (whN F n).length ≤ n * 128 := by
  unfold whN
  have h1 := rlA_len ((F.take n).flatten) 0 []
  have h2 := flat_len (F.take n) (fun c hc => ho c (List.mem_of_mem_take hc))
  rw [h2, List.length_take] at h1
  simp at h1; omega
theorem fold_len (n : Nat) : ∀ (P : List Tr) (o : List Tr), (P.foldl (fun o g => jn o (shf n g)) o).length ≤ o.length + P.length
  | [], o => by simp
  | g :: P, o => by
    have h1 := fold_len n P (jn o (shf n g))
    have h2 := jn_len o (shf n g)
    rw [List.foldl_cons, List.length_cons]; omega
theorem jn_mem {l : List Tr} {g x : Tr} (h : x ∈ jn l g) : x ∈ l ∨ x = g ∨ ∃ z ∈ l, x = (z.1, g.2.1, g.2.2) := by
  rcases List.eq_nil_or_concat l with rfl | ⟨Q, z, rfl⟩
  · rw [jn_nil] at h; simp at h; exact .inr (.inl h)
  · rw [List.concat_eq_append] at h ⊢
    rw [jn_snoc] at h
    split at h
    · rcases List.mem_append.1 h with h | h
      · exact .inl (List.mem_append_left _ h)
      · simp at h; exact .inr (.inr ⟨z, by simp, h⟩)
    · rcases List.mem_append.1 h with h | h
      · exact .inl (List.mem_append_left _ h)
      · simp only [List.mem_cons, List.not_mem_nil, or_false] at h
        rcases h with rfl | rfl
        · exact .inl (by simp)
        · exact .inr (.inl rfl)
theorem rlA_bnd : ∀ (n : Nat) (C : List Nat), C.length = n → ∀ x ∈ rlA 0 [] C, x.1 < n ∧ x.2.1 < n
  | 0, C, h, x, hx => by
    have : C = [] := List.length_eq_zero_iff.1 h
    subst this
    cases hx
  | n + 1, C, h, x, hx => by
    rcases List.eq_nil_or_concat C with rfl | ⟨D, c, rfl⟩
    · simp at h
    · rw [List.concat_eq_append] at h hx
      have hl : D.length = n := by simpa using h
      rw [rlA_snoc, Nat.zero_add, hl] at hx
      rcases jn_mem hx with hx | rfl | ⟨z, hz, rfl⟩
      · have := rlA_bnd n D hl x hx; omega
      · exact ⟨Nat.lt_succ_self _, Nat.lt_succ_self _⟩
      · have := rlA_bnd n D hl z hz
        exact ⟨by show z.1 < n + 1; omega, Nat.lt_succ_self _⟩
theorem prt_bnd (F : List (List Nat)) (ho : ok128 F) (k : Nat) : ∀ x ∈ prt F k, x.1 < 128 ∧ x.2.1 < 128 := by
  intro x hx
  unfold prt at hx
  cases h : (uq F)[k]? with
  | none => rw [h] at hx; cases hx
  | some b =>
    rw [h] at hx
    exact rlA_bnd 128 b (uq_ok ho b (List.mem_of_getElem? h)) x hx
end Go.Proofs.Ytljlhlcoaajggaa
