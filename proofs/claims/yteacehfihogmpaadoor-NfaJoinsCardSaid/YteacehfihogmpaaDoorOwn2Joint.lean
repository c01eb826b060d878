/- An automaton turned round, as lists: what it takes is what the other takes, the other way round. -/
import Derived.Test.YteacehfihogmpaaDoorTakesJoint
import Derived.Test.YteacehfihogmpaaDoorOwnJoint
namespace Go.Proofs.YteacehfihogmpaaDoor

/-- One edge more at a state. -/
def adE (M : List St) (t : Nat) (g : Ed) : List St := M.modify t fun s => (s.1 ++ [g], s.2)
/-- One number more at a state. -/
def adF (M : List St) (t : Nat) (i : Int) : List St := M.modify t fun s => (s.1, s.2 ++ [i])
def rvE (i : Int) (M : List St) (E : List Ed) : List St := E.foldl (fun M e => adE M e.2.toNat (e.1, i)) M
def rvF (i : Int) (M : List St) (F : List Int) : List St := F.foldl (fun M t => adF M t.toNat i) M
/-- The first k states, turned round. -/
def rvK (L : List St) : Nat → List St
  | 0 => List.replicate L.length ([], [])
  | k + 1 => match L[k]? with
    | some s => rvF k (rvE k (rvK L k) s.1) s.2
    | none => rvK L k
def rv (L : List St) : List St := rvK L L.length
theorem adE_len (M : List St) (t : Nat) (g : Ed) : (adE M t g).length = M.length := by simp [adE]
theorem adF_len (M : List St) (t : Nat) (i : Int) : (adF M t i).length = M.length := by simp [adF]
theorem rvE_len (i : Int) : ∀ (E : List Ed) (M : List St), (rvE i M E).length = M.length
  | [], _ => rfl
  | _ :: l, M => (rvE_len i l _).trans (adE_len M _ _)
theorem rvF_len (i : Int) : ∀ (F : List Int) (M : List St), (rvF i M F).length = M.length
  | [], _ => rfl
  | _ :: l, M => (rvF_len i l _).trans (adF_len M _ _)
theorem rvE_take {i : Int} {M : List St} {E : List Ed} {k : Nat} {C : List Int} {t : Int} (h : E[k]? = some (C, t)) : rvE i M (E.take (k + 1)) = adE (rvE i M (E.take k)) t.toNat (C, i) := by
  unfold rvE
  rw [List.take_add_one, h, List.foldl_append]
  rfl
theorem rvF_take {i : Int} {M : List St} {F : List Int} {k : Nat} {t : Int} (h : F[k]? = some t) : rvF i M (F.take (k + 1)) = adF (rvF i M (F.take k)) t.toNat i := by
  unfold rvF
  rw [List.take_add_one, h, List.foldl_append]
  rfl
theorem rvK_next {L : List St} {k : Nat} {E : List Ed} {F : List Int} (h : L[k]? = some (E, F)) : rvK L (k + 1) = rvF k (rvE k (rvK L k) E) F := by
  rw [rvK, h]
theorem rvK_len (L : List St) : ∀ k, (rvK L k).length = L.length
  | 0 => by simp [rvK]
  | k + 1 => by
    cases h : L[k]? with
    | none => rw [rvK, h]; exact rvK_len L k
    | some s => rw [rvK, h]; exact (rvF_len _ _ _).trans ((rvE_len _ _ _).trans (rvK_len L k))
theorem rv_len (L : List St) : (rv L).length = L.length := rvK_len L _
theorem adE_at (M : List St) (t : Nat) (g : Ed) (u : Nat) : (adE M t g)[u]? = (M[u]?).map fun s => if t = u then (s.1 ++ [g], s.2) else s := by
  unfold adE
  rw [List.getElem?_modify]
  by_cases h : t = u <;> simp [h]
theorem adF_at (M : List St) (t : Nat) (i : Int) (u : Nat) : (adF M t i)[u]? = (M[u]?).map fun s => if t = u then (s.1, s.2 ++ [i]) else s := by
  unfold adF
  rw [List.getElem?_modify]
  by_cases h : t = u <;> simp [h]
/-- State u has an edge. -/
def Ge (M : List St) (u : Nat) (g : Ed) : Prop := ∃ s, M[u]? = some s ∧ g ∈ s.1
def Gf (M : List St) (u : Nat) (j : Int) : Prop := ∃ s, M[u]? = some s ∧ j ∈ s.2
theorem ge_adE (M : List St) (t : Nat) (g : Ed) (u : Nat) (x : Ed) : Ge (adE M t g) u x ↔ Ge M u x ∨ (t = u ∧ u < M.length ∧ x = g) := by
  unfold Ge
  rw [adE_at]
  cases h : M[u]? with
  | none =>
    have := List.getElem?_eq_none_iff.1 h
    constructor
    · rintro ⟨s, h1, _⟩; simp at h1
    · rintro (⟨s, h1, _⟩ | ⟨_, h1, _⟩)
      · simp at h1
      · omega
  | some s =>
    have hu := (List.getElem?_eq_some_iff.1 h).1
    by_cases e : t = u
    · simp only [e, hu]; simp
    · simp [e]
theorem gf_adE (M : List St) (t : Nat) (g : Ed) (u : Nat) (x : Int) : Gf (adE M t g) u x ↔ Gf M u x := by
  unfold Gf
  rw [adE_at]
  cases h : M[u]? with
  | none => simp
  | some s => by_cases e : t = u <;> simp [e]
theorem gf_adF (M : List St) (t : Nat) (i : Int) (u : Nat) (x : Int) : Gf (adF M t i) u x ↔ Gf M u x ∨ (t = u ∧ u < M.length ∧ x = i) := by
  unfold Gf
  rw [adF_at]
  cases h : M[u]? with
  | none =>
    have := List.getElem?_eq_none_iff.1 h
    constructor
    · rintro ⟨s, h1, _⟩; simp at h1
    · rintro (⟨s, h1, _⟩ | ⟨_, h1, _⟩)
      · simp at h1
      · omega
  | some s =>
    have hu := (List.getElem?_eq_some_iff.1 h).1
    by_cases e : t = u
    · simp only [e, hu]; simp
    · simp [e]
theorem ge_adF (M : List St) (t : Nat) (i : Int) (u : Nat) (x : Ed) : Ge (adF M t i) u x ↔ Ge M u x := by
  unfold Ge
  rw [adF_at]
  cases h : M[u]? with
  | none => simp
  | some s => by_cases e : t = u <;> simp [e]
theorem ge_rvE (i : Int) (u : Nat) (x : Ed) : ∀ (E : List Ed) (M : List St), Ge (rvE i M E) u x ↔ Ge M u x ∨ (u < M.length ∧ ∃ e ∈ E, e.2.toNat = u ∧ x = (e.1, i))
  | [], M => by simp [rvE]
  | e :: l, M => by
    have h := ge_rvE i u x l (adE M e.2.toNat (e.1, i))
    rw [show rvE i M (e :: l) = rvE i (adE M e.2.toNat (e.1, i)) l from rfl, h, ge_adE, adE_len]
    constructor
    · rintro ((h | ⟨h1, h2, h3⟩) | ⟨h1, e', h2, h3, h4⟩)
      · exact .inl h
      · exact .inr ⟨h2, e, by simp, h1, h3⟩
      · exact .inr ⟨h1, e', by simp [h2], h3, h4⟩
    · rintro (h | ⟨h1, e', h2, h3, h4⟩)
      · exact .inl (.inl h)
      · rcases List.mem_cons.1 h2 with rfl | h2
        · exact .inl (.inr ⟨h3, h1, h4⟩)
        · exact .inr ⟨h1, e', h2, h3, h4⟩
theorem gf_rvE (i : Int) (u : Nat) (x : Int) : ∀ (E : List Ed) (M : List St), Gf (rvE i M E) u x ↔ Gf M u x
  | [], _ => Iff.rfl
  | e :: l, M => (gf_rvE i u x l (adE M e.2.toNat (e.1, i))).trans (gf_adE _ _ _ _ _)
theorem gf_rvF (i : Int) (u : Nat) (x : Int) : ∀ (F : List Int) (M : List St), Gf (rvF i M F) u x ↔ Gf M u x ∨ (u < M.length ∧ ∃ t ∈ F, t.toNat = u ∧ x = i)
  | [], M => by simp [rvF]
  | e :: l, M => by
    have h := gf_rvF i u x l (adF M e.toNat i)
    rw [show rvF i M (e :: l) = rvF i (adF M e.toNat i) l from rfl, h, gf_adF, adF_len]
    constructor
    · rintro ((h | ⟨h1, h2, h3⟩) | ⟨h1, e', h2, h3, h4⟩)
      · exact .inl h
      · exact .inr ⟨h2, e, by simp, h1, h3⟩
      · exact .inr ⟨h1, e', by simp [h2], h3, h4⟩
    · rintro (h | ⟨h1, e', h2, h3, h4⟩)
      · exact .inl (.inl h)
      · rcases List.mem_cons.1 h2 with rfl | h2
        · exact .inl (.inr ⟨h3, h1, h4⟩)
        · exact .inr ⟨h1, e', h2, h3, h4⟩
theorem ge_rvF (i : Int) (u : Nat) (x : Ed) : ∀ (F : List Int) (M : List St), Ge (rvF i M F) u x ↔ Ge M u x
  | [], _ => Iff.rfl
  | e :: l, M => (ge_rvF i u x l (adF M e.toNat i)).trans (ge_adF _ _ _ _ _)
theorem ge_rvK (L : List St) (u : Nat) (x : Ed) : ∀ k, Ge (rvK L k) u x ↔ u < L.length ∧ ∃ j, j < k ∧ ∃ e, Ge L j e ∧ e.2.toNat = u ∧ x = (e.1, (j : Int))
  | 0 => by
    constructor
    · rintro ⟨s, h1, h2⟩
      rw [rvK, List.getElem?_replicate] at h1
      split at h1
      · cases h1; simp at h2
      · simp at h1
    · rintro ⟨_, j, h, _⟩; omega
  | k + 1 => by
    have ih := ge_rvK L u x k
    cases h : L[k]? with
    | none =>
      rw [show rvK L (k + 1) = rvK L k by rw [rvK, h], ih]
      constructor
      · rintro ⟨hu, j, hj, h2⟩; exact ⟨hu, j, by omega, h2⟩
      · rintro ⟨hu, j, hj, e, ⟨s, h3, h4⟩, h5⟩
        have : j ≠ k := fun e => by rw [e, h] at h3; cases h3
        exact ⟨hu, j, by omega, e, ⟨s, h3, h4⟩, h5⟩
    | some s =>
      rw [show rvK L (k + 1) = rvF k (rvE k (rvK L k) s.1) s.2 by rw [rvK, h], ge_rvF, ge_rvE, ih, rvK_len]
      constructor
      · rintro (⟨hu, j, hj, h2⟩ | ⟨hu, e, he, h2, h3⟩)
        · exact ⟨hu, j, by omega, h2⟩
        · exact ⟨hu, k, by omega, e, ⟨s, h, he⟩, h2, h3⟩
      · rintro ⟨hu, j, hj, e, ⟨s', h3, h4⟩, h5, h6⟩
        by_cases ejk : j = k
        · subst ejk
          rw [h] at h3; cases h3
          exact .inr ⟨hu, e, h4, h5, h6⟩
        · exact .inl ⟨hu, j, by omega, e, ⟨s', h3, h4⟩, h5, h6⟩
theorem gf_rvK (L : List St) (u : Nat) (x : Int) : ∀ k, Gf (rvK L k) u x ↔ u < L.length ∧ ∃ j, j < k ∧ ∃ t, Gf L j t ∧ t.toNat = u ∧ x = (j : Int)
  | 0 => by
    constructor
    · rintro ⟨s, h1, h2⟩
      rw [rvK, List.getElem?_replicate] at h1
      split at h1
      · cases h1; simp at h2
      · simp at h1
    · rintro ⟨_, j, h, _⟩; omega
  | k + 1 => by
    have ih := gf_rvK L u x k
    cases h : L[k]? with
    | none =>
      rw [show rvK L (k + 1) = rvK L k by rw [rvK, h], ih]
      constructor
      · rintro ⟨hu, j, hj, h2⟩; exact ⟨hu, j, by omega, h2⟩
      · rintro ⟨hu, j, hj, e, ⟨s, h3, h4⟩, h5⟩
        have : j ≠ k := fun e => by rw [e, h] at h3; cases h3
        exact ⟨hu, j, by omega, e, ⟨s, h3, h4⟩, h5⟩
    | some s =>
      rw [show rvK L (k + 1) = rvF k (rvE k (rvK L k) s.1) s.2 by rw [rvK, h], gf_rvF, gf_rvE, ih, rvE_len, rvK_len]
      constructor
      · rintro (⟨hu, j, hj, h2⟩ | ⟨hu, e, he, h2, h3⟩)
        · exact ⟨hu, j, by omega, h2⟩
        · exact ⟨hu, k, by omega, e, ⟨s, h, he⟩, h2, h3⟩
      · rintro ⟨hu, j, hj, e, ⟨s', h3, h4⟩, h5, h6⟩
        by_cases ejk : j = k
        · subst ejk
          rw [h] at h3; cases h3
          exact .inr ⟨hu, e, h4, h5, h6⟩
        · exact .inl ⟨hu, j, by omega, e, ⟨s', h3, h4⟩, h5, h6⟩
theorem Ge.lt {L : List St} {u : Nat} {x : Ed} (h : Ge L u x) : u < L.length := by obtain ⟨s, h1, _⟩ := h; exact (List.getElem?_eq_some_iff.1 h1).1
theorem Gf.lt {L : List St} {u : Nat} {x : Int} (h : Gf L u x) : u < L.length := by obtain ⟨s, h1, _⟩ := h; exact (List.getElem?_eq_some_iff.1 h1).1
theorem ge_rv (L : List St) (u : Nat) (x : Ed) : Ge (rv L) u x ↔ u < L.length ∧ ∃ j : Nat, ∃ e, Ge L j e ∧ e.2.toNat = u ∧ x = (e.1, (j : Int)) := by
  unfold rv
  rw [ge_rvK]
  constructor
  · rintro ⟨h, j, _, h2⟩; exact ⟨h, j, h2⟩
  · rintro ⟨h, j, e, h1, h2⟩; exact ⟨h, j, h1.lt, e, h1, h2⟩
theorem gf_rv (L : List St) (u : Nat) (x : Int) : Gf (rv L) u x ↔ u < L.length ∧ ∃ j : Nat, ∃ t, Gf L j t ∧ t.toNat = u ∧ x = (j : Int) := by
  unfold rv
  rw [gf_rvK]
  constructor
  · rintro ⟨h, j, _, h2⟩; exact ⟨h, j, h2⟩
  · rintro ⟨h, j, e, h1, h2⟩; exact ⟨h, j, h1.lt, e, h1, h2⟩
/-- A way through an automaton, by a list. -/
inductive Pth (L : List St) : Int → List Int → Int → Prop
  | nil (x : Int) : Pth L x [] x
  | free {x y z : Int} {c : List Int} : Gf L x.toNat y → Pth L y c z → Pth L x c z
  | edge {x y z a : Int} {C c : List Int} : Ge L x.toNat (C, y) → a ∈ C → Pth L y c z → Pth L x (a :: c) z
theorem Pth.trans {L : List St} {x y z : Int} {c d : List Int} (h : Pth L x c y) (h' : Pth L y d z) : Pth L x (c ++ d) z := by
  induction h with
  | nil x => exact h'
  | free h1 _ ih => exact .free h1 (ih h')
  | edge h1 h2 _ ih => exact .edge h1 h2 (ih h')
theorem Pth.split {L : List St} {x z : Int} {e : List Int} (h : Pth L x e z) : ∀ (c d : List Int), e = c ++ d → ∃ y, Pth L x c y ∧ Pth L y d z := by
  induction h with
  | nil x => intro c d h; obtain ⟨rfl, rfl⟩ := List.append_eq_nil_iff.1 h.symm; exact ⟨x, .nil x, .nil x⟩
  | free h1 _ ih => intro c d h; obtain ⟨y, h2, h3⟩ := ih c d h; exact ⟨y, .free h1 h2, h3⟩
  | @edge x y z a C c' h1 h2 h3 ih =>
    intro c d h
    cases c with
    | nil => exact ⟨x, .nil x, by simp at h; subst h; exact .edge h1 h2 h3⟩
    | cons b c =>
      simp only [List.cons_append, List.cons.injEq] at h
      obtain ⟨rfl, h⟩ := h
      obtain ⟨y', h4, h5⟩ := ih c d h
      exact ⟨y', .edge h1 h2 h4, h5⟩
theorem pth_one {L : List St} {x z : Int} {e : List Int} (h : Pth L x e z) : ∀ a, e = [a] → ∃ y C t, Pth L x [] y ∧ Ge L y.toNat (C, t) ∧ a ∈ C ∧ Pth L t [] z := by
  induction h with
  | nil x => intro a h; simp at h
  | free h1 _ ih => intro a h; obtain ⟨y, C, t, h2, h3⟩ := ih a h; exact ⟨y, C, t, .free h1 h2, h3⟩
  | @edge x y z a C c' h1 h2 h3 ih =>
    intro b h
    simp only [List.cons.injEq] at h
    obtain ⟨rfl, rfl⟩ := h
    exact ⟨x, C, y, .nil x, h1, h2, h3⟩
theorem fls_gf {L : List St} {u : Nat} {t : Int} : (∃ l, (fls L)[u]? = some l ∧ t ∈ l) ↔ Gf L u t := by
  unfold fls Gf
  simp only [List.getElem?_map]
  constructor
  · rintro ⟨l, h1, h2⟩
    obtain ⟨s, h3, rfl⟩ := Option.map_eq_some_iff.1 h1
    exact ⟨s, h3, h2⟩
  · rintro ⟨s, h1, h2⟩
    exact ⟨s.2, by rw [h1]; rfl, h2⟩
theorem clo_pth {L : List St} {A : Int → Prop} {z : Int} : Clo L A z ↔ ∃ x, A x ∧ Pth L x [] z := by
  constructor
  · intro h
    unfold Clo at h
    induction h with
    | base h => exact ⟨_, h, .nil _⟩
    | @step x t l _ h2 h3 ih =>
      obtain ⟨y, h4, h5⟩ := ih
      exact ⟨y, h4, by simpa using h5.trans (.free (fls_gf.1 ⟨l, h2, h3⟩) (.nil t))⟩
  · rintro ⟨x, hA, h⟩
    have key : ∀ {x z : Int} {e : List Int}, Pth L x e z → e = [] → Rch (fls L) A x → Rch (fls L) A z := by
      intro x z e h
      induction h with
      | nil x => exact fun _ h => h
      | free h1 _ ih =>
        intro he hr
        obtain ⟨l, h2, h3⟩ := fls_gf.2 h1
        exact ih he (.step hr h2 h3)
      | edge _ _ _ _ => intro he; simp at he
    exact key h rfl (.base hA)
theorem rd_pth {L : List St} {A : Int → Prop} : ∀ (c : List Int) (z : Int), Rd L (Clo L A) c z ↔ ∃ x, A x ∧ Pth L x c z := by
  intro c
  induction h : c.length generalizing c with
  | zero => intro z; rw [List.eq_nil_of_length_eq_zero h]; exact clo_pth
  | succ n ih =>
    intro z
    obtain ⟨d, a, rfl⟩ : ∃ d a, c = d ++ [a] := ⟨c.dropLast, c.getLast (by intro e; simp [e] at h), (List.dropLast_concat_getLast _).symm⟩
    have ih' := ih d (by simpa using h)
    rw [Rd_snoc]
    unfold Nxt
    rw [clo_pth]
    constructor
    · rintro ⟨t, ⟨y, h1, s, h2, ⟨C, t'⟩, h3, rfl, h4⟩, h5⟩
      obtain ⟨x, hx, h6⟩ := (ih' y).1 h1
      exact ⟨x, hx, h6.trans (.edge ⟨s, h2, h3⟩ h4 h5)⟩
    · rintro ⟨x, hx, hp⟩
      obtain ⟨y, h1, h2⟩ := hp.split d [a] rfl
      obtain ⟨y', C, t, h3, ⟨s, h4, h4'⟩, h5, h6⟩ := pth_one h2 a rfl
      exact ⟨t, ⟨y', (ih' y').2 ⟨x, hx, by simpa using h1.trans h3⟩, s, h4, (C, t), h4', rfl, h5⟩, h6⟩
theorem pth_rev {L L' : List St} {V : Int → Prop} (hF : ∀ x y, V x → Gf L x.toNat y → V y ∧ Gf L' y.toNat x) (hE : ∀ x C y, V x → Ge L x.toNat (C, y) → V y ∧ Ge L' y.toNat (C, x)) {x y : Int} {c : List Int} (h : Pth L x c y) : V x → Pth L' y c.reverse x := by
  induction h with
  | nil x => exact fun _ => .nil x
  | free h1 _ ih =>
    intro hv
    obtain ⟨h2, h3⟩ := hF _ _ hv h1
    simpa using (ih h2).trans (.free h3 (.nil _))
  | edge h1 ha _ ih =>
    intro hv
    obtain ⟨h2, h3⟩ := hE _ _ _ hv h1
    rw [List.reverse_cons]
    exact (ih h2).trans (.edge h3 ha (.nil _))
section
variable {L : List St} {s f : Int}
theorem Gdd.ge (h : Gdd L s f) {u : Nat} {C : List Int} {t : Int} (hg : Ge L u (C, t)) : 0 ≤ t ∧ t < (L.length : Int) := by
  obtain ⟨x, h1, h2⟩ := hg
  exact h.tos x (List.mem_of_getElem? h1) _ h2
theorem Gdd.gf (h : Gdd L s f) {u : Nat} {t : Int} (hg : Gf L u t) : 0 ≤ t ∧ t < (L.length : Int) := by
  obtain ⟨l, h1, h2⟩ := fls_gf.2 hg
  exact h.frees l (List.mem_of_getElem? h1) _ h2
theorem Gdd.turnE (h : Gdd L s f) {x y : Int} {C : List Int} (hx : 0 ≤ x) (hg : Ge L x.toNat (C, y)) : Ge (rv L) y.toNat (C, x) := by
  have := h.ge hg
  exact (ge_rv L _ _).2 ⟨by omega, x.toNat, (C, y), hg, rfl, by rw [Int.toNat_of_nonneg hx]⟩
theorem Gdd.turnF (h : Gdd L s f) {x y : Int} (hx : 0 ≤ x) (hg : Gf L x.toNat y) : Gf (rv L) y.toNat x := by
  have := h.gf hg
  exact (gf_rv L _ _).2 ⟨by omega, x.toNat, y, hg, rfl, by rw [Int.toNat_of_nonneg hx]⟩
theorem Gdd.backE (h : Gdd L s f) {x y : Int} {C : List Int} (hx : 0 ≤ x) (hg : Ge (rv L) x.toNat (C, y)) : (0 ≤ y ∧ y < (L.length : Int)) ∧ Ge L y.toNat (C, x) := by
  obtain ⟨h1, j, ⟨C', t⟩, h2, h3, h4⟩ := (ge_rv L _ _).1 hg
  simp only [Prod.mk.injEq] at h4
  obtain ⟨rfl, rfl⟩ := h4
  have h5 := h.ge h2
  have h6 := h2.lt
  have h7 : t = x := by dsimp only at h3; omega
  subst h7
  exact ⟨⟨by omega, by omega⟩, by simpa using h2⟩
theorem Gdd.backF (h : Gdd L s f) {x y : Int} (hx : 0 ≤ x) (hg : Gf (rv L) x.toNat y) : (0 ≤ y ∧ y < (L.length : Int)) ∧ Gf L y.toNat x := by
  obtain ⟨h1, j, t, h2, h3, rfl⟩ := (gf_rv L _ _).1 hg
  have h5 := h.gf h2
  have h6 := h2.lt
  have h7 : t = x := by omega
  subst h7
  exact ⟨⟨by omega, by omega⟩, by simpa using h2⟩
theorem tk_rv (h : gdB L s f = true) (c : List Int) : tk (rv L) f s c.reverse = tk L s f c := by
  have hg := gdd_of h
  rw [Bool.eq_iff_iff, tk_iff, tk_iff, rd_pth, rd_pth]
  constructor
  · rintro ⟨x, rfl, hp⟩
    have := pth_rev (V := fun x => 0 ≤ x) (L' := L) (fun x y hx hg' => by have := hg.backF hx hg'; exact ⟨this.1.1, this.2⟩) (fun x C y hx hg' => by have := hg.backE hx hg'; exact ⟨this.1.1, this.2⟩) hp hg.fi.1
    rw [List.reverse_reverse] at this
    exact ⟨s, rfl, this⟩
  · rintro ⟨x, rfl, hp⟩
    exact ⟨f, rfl, pth_rev (V := fun x => 0 ≤ x) (fun x y hx hg' => ⟨(hg.gf hg').1, hg.turnF hx hg'⟩) (fun x C y hx hg' => ⟨(hg.ge hg').1, hg.turnE hx hg'⟩) hp hg.st.1⟩
end
theorem edg_of {n : Int} : ∀ {E : List Ed}, (∀ e ∈ E, wn e.2 n = true ∧ rs (-1) e.1 = true) → edg n E = true
  | [], _ => rfl
  | e :: l, h => by rw [edg_ok (h e (by simp)).1 (h e (by simp)).2]; exact edg_of fun x hx => h x (by simp [hx])
theorem fre_of {n : Int} : ∀ {F : List Int}, (∀ t ∈ F, wn t n = true) → fre n F = true
  | [], _ => rfl
  | e :: l, h => by rw [fre_ok (h e (by simp))]; exact fre_of fun x hx => h x (by simp [hx])
theorem fsb_of {n : Int} : ∀ {L : List St} {i : Int}, (∀ s ∈ L, fmd n s = true) → fsb n i L = (0, 0)
  | [], _, _ => rfl
  | x :: l, i, h => by rw [fsb_ok (h x (by simp))]; exact fsb_of fun y hy => h y (by simp [hy])
theorem gdB_of {L : List St} {s f : Int} (h : Gdd L s f) : gdB L s f = true := by
  unfold gdB
  rw [chk_go (by have := h.few; omega) (wn_iff.2 h.st) (wn_iff.2 h.fi), fsb_of h.all]
  rfl
theorem gd_rv {L : List St} {s f : Int} (h : gdB L s f = true) : gdB (rv L) f s = true := by
  have hg := gdd_of h
  refine gdB_of ⟨by rw [rv_len]; exact hg.few, by rw [rv_len]; exact hg.fi, by rw [rv_len]; exact hg.st, fun x hx => ?_⟩
  obtain ⟨u, hu⟩ := List.mem_iff_getElem?.1 hx
  have hul := (List.getElem?_eq_some_iff.1 hu).1
  rw [rv_len] at hul
  unfold fmd
  rw [rv_len, edg_of, fre_of]
  · rfl
  · intro t ht
    obtain ⟨h1, _⟩ := hg.backF (x := (u : Int)) (by omega) (show Gf (rv L) (u : Int).toNat t from ⟨x, by simpa using hu, ht⟩)
    exact wn_iff.2 h1
  · rintro ⟨C, t⟩ he
    obtain ⟨h1, y, h2, h3⟩ := hg.backE (x := (u : Int)) (by omega) (show Ge (rv L) (u : Int).toNat (C, t) from ⟨x, by simpa using hu, he⟩)
    have h4 := hg.all y (List.mem_of_getElem? h2)
    unfold fmd at h4
    simp only [Bool.and_eq_true] at h4
    exact ⟨wn_iff.2 h1, (edg_all h4.1 _ h3).2⟩
/-- How much there is stays. -/
theorem sum_modify (g : St → Nat) (f : St → St) (d : Nat) (hd : ∀ s, g (f s) = g s + d) : ∀ (M : List St) (t : Nat), t < M.length → ((M.modify t f).map g).sum = (M.map g).sum + d
  | [], t, h => by simp at h
  | x :: l, 0, _ => by simp [hd]; omega
  | x :: l, t + 1, h => by
    have := sum_modify g f d hd l t (by simpa using h)
    simp [this]; omega
theorem eS_adE (M : List St) (t : Nat) (g : Ed) (h : t < M.length) : eS (adE M t g) = eS M + 1 := sum_modify (fun s => s.1.length) _ 1 (fun s => by simp) M t h
theorem fS_adE (M : List St) (t : Nat) (g : Ed) (h : t < M.length) : fS (adE M t g) = fS M := (sum_modify (fun s => s.2.length) _ 0 (fun s => by simp) M t h)
theorem eS_adF (M : List St) (t : Nat) (i : Int) (h : t < M.length) : eS (adF M t i) = eS M := (sum_modify (fun s => s.1.length) _ 0 (fun s => by simp) M t h)
theorem fS_adF (M : List St) (t : Nat) (i : Int) (h : t < M.length) : fS (adF M t i) = fS M + 1 := sum_modify (fun s => s.2.length) _ 1 (fun s => by simp) M t h
theorem sums_rvE (i : Int) : ∀ (E : List Ed) (M : List St), (∀ e ∈ E, e.2.toNat < M.length) → eS (rvE i M E) = eS M + E.length ∧ fS (rvE i M E) = fS M
  | [], M, _ => ⟨rfl, rfl⟩
  | e :: l, M, h => by
    have h0 := h e (by simp)
    obtain ⟨h1, h2⟩ := sums_rvE i l (adE M e.2.toNat (e.1, i)) (fun x hx => by rw [adE_len]; exact h x (by simp [hx]))
    refine ⟨h1.trans ?_, h2.trans (fS_adE _ _ _ h0)⟩
    rw [eS_adE _ _ _ h0, List.length_cons]; omega
theorem sums_rvF (i : Int) : ∀ (F : List Int) (M : List St), (∀ t ∈ F, t.toNat < M.length) → eS (rvF i M F) = eS M ∧ fS (rvF i M F) = fS M + F.length
  | [], M, _ => ⟨rfl, rfl⟩
  | e :: l, M, h => by
    have h0 := h e (by simp)
    obtain ⟨h1, h2⟩ := sums_rvF i l (adF M e.toNat i) (fun x hx => by rw [adF_len]; exact h x (by simp [hx]))
    refine ⟨h1.trans (eS_adF _ _ _ h0), h2.trans ?_⟩
    rw [fS_adF _ _ _ h0, List.length_cons]; omega
theorem sums_rvK {L : List St} {s f : Int} (h : Gdd L s f) : ∀ k, k ≤ L.length → eS (rvK L k) = eS (L.take k) ∧ fS (rvK L k) = fS (L.take k)
  | 0, _ => by
    have : ∀ n, eS (List.replicate n ([], [])) = 0 ∧ fS (List.replicate n ([], [])) = 0 := fun n => by
      induction n with
      | zero => exact ⟨rfl, rfl⟩
      | succ n ih => unfold eS fS at ih ⊢; simp only [List.replicate_succ, List.map_cons, List.sum_cons, List.length_nil, ih.1, ih.2]; exact ⟨trivial, trivial⟩
    have h1 := this L.length
    exact ⟨by rw [rvK]; exact h1.1, by rw [rvK]; exact h1.2⟩
  | k + 1, hk => by
    obtain ⟨ih1, ih2⟩ := sums_rvK h k (by omega)
    have hL : L[k]? = some L[k] := List.getElem?_eq_getElem (by omega)
    rw [rvK_next (E := L[k].1) (F := L[k].2) hL]
    have hE := sums_rvE k L[k].1 (rvK L k) (fun e he => by have := h.ge (u := k) (C := e.1) (t := e.2) ⟨_, hL, he⟩; rw [rvK_len]; omega)
    have hF := sums_rvF k L[k].2 (rvE k (rvK L k) L[k].1) (fun t ht => by have := h.gf (u := k) (t := t) ⟨_, hL, ht⟩; rw [rvE_len, rvK_len]; omega)
    rw [hF.1, hF.2, hE.1, hE.2, ih1, ih2]
    have e1 : L.take (k + 1) = L.take k ++ [L[k]] := by rw [List.take_add_one, hL]; rfl
    rw [e1]
    unfold eS fS
    simp only [List.map_append, List.sum_append, List.map_cons, List.map_nil, List.sum_cons, List.sum_nil]
    omega
theorem sums_rv {L : List St} {s f : Int} (h : Gdd L s f) : eS (rv L) = eS L ∧ fS (rv L) = fS L := by
  have := sums_rvK h L.length (Nat.le_refl _)
  rw [List.take_of_length_le (Nat.le_refl _)] at this
  exact this
end Go.Proofs.YteacehfihogmpaaDoor
/- An automaton that is being laid, state by state: the row of its states, and each state's rows, which grow by themselves. -/
namespace Go.Proofs.YteacehfihogmpaaDoor
open Go.RowKit

/-- The blocks that still grow, and those that were there before. -/
def Grw (B : Nat) (V : Value) (R : List Value) (b : Nat) : Prop := b < B ∨ V.ownBlock = some b ∨ ∃ v ∈ R, v.ownBlock = some b
/-- Classes of an edge: a row of their own, if there are any. -/
def ClO (w : World) (B : Nat) (v : Value) (C : List Int) : Prop := C = [] ∨ w.ownsRow B 3 1 v C.length (i64s C)
/-- The cells of the first edges. -/
def GrE (w : World) (B : Nat) (X : Nat → Prop) (E : List Ed) (RE : List Value) : Prop :=
  ∀ (j : Nat) (g : Ed), E[j]? = some g → ∃ (co : Option Addr) (cc : Nat), RE[j * 2]? = some (.slice co g.1.length cc) ∧ RE[j * 2 + 1]? = some (.int .i64 g.2) ∧ ClO w B (.slice co g.1.length cc) g.1 ∧ (g.1 ≠ [] → ∀ b, (Value.slice co g.1.length cc).ownBlock = some b → ¬ X b)
def SlE (w : World) (B : Nat) (X : Nat → Prop) (v : Value) (E : List Ed) : Prop := ∃ RE, w.ownsRow B 88 2 v E.length RE ∧ GrE w B X E RE
structure Gro (w : World) (B : Nat) (V : Value) (n : Nat) (M : List St) (R : List Value) : Prop where
  len : M.length = n
  row : w.ownsRow B 86 2 V n R
  off : ∀ v ∈ R, ∀ b, v.ownBlock = some b → V.ownBlock ≠ some b
  apart : ∀ (p q : Nat) (u v : Value) (b : Nat), R[p]? = some u → R[q]? = some v → u.ownBlock = some b → v.ownBlock = some b → p = q
  slE : ∀ (t : Nat) (s : St), M[t]? = some s → ∃ v, R[t * 2]? = some v ∧ SlE w B (Grw B V R) v s.1
  slF : ∀ (t : Nat) (s : St), M[t]? = some s → ∃ v, R[t * 2 + 1]? = some v ∧ w.ownsRow B 3 1 v s.2.length (i64s s.2)
/-- From one world to a later one: all stays but what grows. -/
structure Gst (w w' : World) (V : Value) (R R' : List Value) : Prop where
  os : w'.os = w.os
  tape : w'.tape = w.tape
  output : w'.output = w.output
  size : w.heap.size ≤ w'.heap.size
  block : ∀ k, k < w.heap.size → V.ownBlock ≠ some k → (∀ v ∈ R, v.ownBlock ≠ some k) → w'.heap[k]? = w.heap[k]?
  sub : ∀ b, b < w.heap.size → (∃ v ∈ R', v.ownBlock = some b) → ∃ v ∈ R, v.ownBlock = some b
section
variable {w w' w'' : World} {B n : Nat} {V : Value} {M : List St} {R R' R'' : List Value}
theorem Gst.refl (w : World) (V : Value) (R : List Value) : Gst w w V R R := ⟨rfl, rfl, rfl, Nat.le_refl _, fun _ _ _ _ => rfl, fun _ _ h => h⟩
theorem Gst.trans (h : Gst w w' V R R') (h' : Gst w' w'' V R' R'') : Gst w w'' V R R'' :=
  ⟨h'.os.trans h.os, h'.tape.trans h.tape, h'.output.trans h.output, Nat.le_trans h.size h'.size, fun k hk hV hR => (h'.block k (Nat.lt_of_lt_of_le hk h.size) hV fun v hv e => by
    obtain ⟨u, hu, he⟩ := h.sub k hk ⟨v, hv, e⟩
    exact hR u hu he).trans (h.block k hk hV hR), fun b hb hx => h.sub b hb (h'.sub b (Nat.lt_of_lt_of_le hb h.size) hx)⟩
theorem Gst.below (hb : Below w.heap.size w w') (V : Value) (R : List Value) : Gst w w' V R R := ⟨hb.os, hb.tape, hb.output, hb.size, fun k hk _ _ => hb.block k hk, fun _ _ h => h⟩
/-- A block that does not grow. -/
theorem Gst.cell (h : Gst w w' V R R') {p : Addr} {v : Value} (hV : V.ownBlock ≠ some p.block) (hR : ∀ v ∈ R, v.ownBlock ≠ some p.block) (hc : w.cell? p = some v) : w'.cell? p = some v :=
  (World.cell?_of_block (h.block p.block (World.block_lt_of_cell? w p hc) hV hR)).trans hc
theorem Gro.lts (h : Gro w B V n M R) : (∀ b, V.ownBlock = some b → B ≤ b ∧ b < w.heap.size) ∧ ∀ v ∈ R, ∀ b, v.ownBlock = some b → B ≤ b ∧ b < w.heap.size := by
  refine ⟨fun b hb => h.row.lt b hb, fun v hv b hb => ?_⟩
  obtain ⟨p, hp⟩ := List.mem_iff_getElem?.1 hv
  have hpl := (List.getElem?_eq_some_iff.1 hp).1
  have hl : R.length = n * 2 := h.row.1
  have hM := h.len
  obtain ⟨s, hs⟩ : ∃ s, M[p / 2]? = some s := ⟨_, List.getElem?_eq_getElem (by omega)⟩
  rcases Nat.mod_two_eq_zero_or_one p with e | e
  · obtain ⟨u, hu, RE, ho, _⟩ := h.slE _ s hs
    rw [show p / 2 * 2 = p by omega, hp] at hu
    cases hu
    exact ho.lt b hb
  · obtain ⟨u, hu, ho⟩ := h.slF _ s hs
    rw [show p / 2 * 2 + 1 = p by omega, hp] at hu
    cases hu
    exact ho.lt b hb
/-- What grows lies above. -/
theorem Gst.low (h : Gst w w' V R R') (hg : Gro w B V n M R) (hB : B ≤ w.heap.size) : Below B w w' := ⟨h.os, h.tape, h.output, h.size, fun k hk => h.block k (by omega) (fun e => by have := (hg.lts.1 k e).1; omega) (fun v hv e => by have := (hg.lts.2 v hv k e).1; omega)⟩
theorem ClO.keep {v : Value} {C : List Int} (h : ClO w B v C) (hk : ∀ b, v.ownBlock = some b → C ≠ [] → b < w.heap.size → w'.heap[b]? = w.heap[b]?) : ClO w' B v C := by
  rcases h with h | h
  · exact .inl h
  · by_cases hC : C = []
    · exact .inl hC
    · exact .inr (own_same h fun b hb hl => hk b hb hC hl)
theorem GrE.keep {X X' : Nat → Prop} {E : List Ed} {RE : List Value} (h : GrE w B X E RE) (hk : Kp w w' X X') : GrE w' B X' E RE := fun j g hg => by
  obtain ⟨co, cc, h1, h2, h3, h4⟩ := h j g hg
  refine ⟨co, cc, h1, h2, h3.keep fun b hb hC hl => hk.block b hl (h4 hC b hb), fun hC b hb hx => ?_⟩
  have hl : b < w.heap.size := by
    rcases h3 with h3 | h3
    · exact absurd h3 hC
    · exact (h3.lt b hb).2
  exact h4 hC b hb (hk.sub b hl hx)
theorem GrE.next {X : Nat → Prop} {E : List Ed} {RE : List Value} {C : List Int} {t : Int} {co : Option Addr} {cc : Nat} (h : GrE w B X E RE) (hR : RE.length = E.length * 2) (hC : ClO w B (.slice co C.length cc) C) (hX : C ≠ [] → ∀ b, (Value.slice co C.length cc).ownBlock = some b → ¬ X b) : GrE w B X (E ++ [(C, t)]) (RE ++ [.slice co C.length cc, .int .i64 t]) := fun j g hg => by
  by_cases hj : j < E.length
  · rw [List.getElem?_append_left hj] at hg
    obtain ⟨co, cc, h1, h2, h3⟩ := h j g hg
    exact ⟨co, cc, by rw [List.getElem?_append_left (by omega)]; exact h1, by rw [List.getElem?_append_left (by omega)]; exact h2, h3⟩
  · have hj' := (List.getElem?_eq_some_iff.1 hg).1
    simp only [List.length_append, List.length_cons, List.length_nil] at hj'
    have e : j = E.length := by omega
    subst e
    simp at hg
    subst hg
    exact ⟨co, cc, by rw [List.getElem?_append_right (by omega), hR]; simp, by rw [List.getElem?_append_right (by omega), hR]; simp, hC, hX⟩
theorem Gro.keep (h : Gro w B V n M R) (hb : Below w.heap.size w w') : Gro w' B V n M R := by
  refine ⟨h.len, own_same h.row fun k _ hk => hb.block k hk, h.off, h.apart, fun t s hs => ?_, fun t s hs => ?_⟩
  · obtain ⟨v, hv, RE, h1, h2⟩ := h.slE t s hs
    exact ⟨v, hv, RE, own_same h1 fun k _ hk => hb.block k hk, h2.keep ⟨hb.size, fun k hk _ => hb.block k hk, fun _ _ hx => hx⟩⟩
  · obtain ⟨v, hv, h1⟩ := h.slF t s hs
    exact ⟨v, hv, own_same h1 fun k _ hk => hb.block k hk⟩
theorem set_at {p q : Nat} {v' x : Value} (hq : (R.set p v')[q]? = some x) : (q = p ∧ x = v') ∨ (q ≠ p ∧ R[q]? = some x) := by
  by_cases e : q = p
  · subst e
    have hl := (List.getElem?_eq_some_iff.1 hq).1
    rw [List.length_set] at hl
    rw [List.getElem?_set_self hl] at hq
    exact .inl ⟨rfl, (Option.some.inj hq).symm⟩
  · rw [List.getElem?_set_ne (Ne.symm e)] at hq
    exact .inr ⟨e, hq⟩
theorem mem_set_ne {p : Nat} {v' x : Value} (hx : x ∈ R.set p v') : x = v' ∨ ∃ q, q ≠ p ∧ R[q]? = some x := by
  obtain ⟨q, hq⟩ := List.mem_iff_getElem?.1 hx
  rcases set_at hq with ⟨_, h⟩ | h
  · exact .inl h
  · exact .inr ⟨q, h⟩
/-- One slot is laid anew. -/
theorem Gro.put {p : Nat} {v v' : Value} {M' : List St} (h : Gro w B V n M R) (hp : R[p]? = some v) (hs : w.heap.size ≤ w'.heap.size) (hk : ∀ k, k < w.heap.size → V.ownBlock ≠ some k → v.ownBlock ≠ some k → w'.heap[k]? = w.heap[k]?)
    (hrow : w'.ownsRow B 86 2 V n (R.set p v')) (hv : ∀ b, v'.ownBlock = some b → v.ownBlock = some b ∨ w.heap.size ≤ b) (hM : M'.length = n)
    (hE : ∀ (t : Nat) (s : St), M'[t]? = some s → (t * 2 = p → SlE w' B (Grw B V (R.set p v')) v' s.1) ∧ (t * 2 ≠ p → ∃ s0, M[t]? = some s0 ∧ s0.1 = s.1))
    (hF : ∀ (t : Nat) (s : St), M'[t]? = some s → (t * 2 + 1 = p → w'.ownsRow B 3 1 v' s.2.length (i64s s.2)) ∧ (t * 2 + 1 ≠ p → ∃ s0, M[t]? = some s0 ∧ s0.2 = s.2)) : Gro w' B V n M' (R.set p v') := by
  have hlt := h.lts
  have hvm : v ∈ R := List.mem_of_getElem? hp
  have hpl := (List.getElem?_eq_some_iff.1 hp).1
  have hks : ∀ (q : Nat) (u : Value), q ≠ p → R[q]? = some u → ∀ b, u.ownBlock = some b → w'.heap[b]? = w.heap[b]? := fun q u hq hu b hb =>
    hk b (hlt.2 u (List.mem_of_getElem? hu) b hb).2 (h.off u (List.mem_of_getElem? hu) b hb) fun e => hq (h.apart q p u v b hu hp hb e)
  have hsub : ∀ b, b < w.heap.size → Grw B V (R.set p v') b → Grw B V R b := fun b hb hx => by
    rcases hx with hx | hx | ⟨x, hx, hbx⟩
    · exact .inl hx
    · exact .inr (.inl hx)
    · rcases mem_set_ne hx with rfl | ⟨q, _, hq⟩
      · rcases hv b hbx with e | e
        · exact .inr (.inr ⟨v, hvm, e⟩)
        · omega
      · exact .inr (.inr ⟨x, List.mem_of_getElem? hq, hbx⟩)
  have hkp : Kp w w' (Grw B V R) (Grw B V (R.set p v')) := ⟨hs, fun k hk' hx => hk k hk' (fun e => hx (.inr (.inl e))) (fun e => hx (.inr (.inr ⟨v, hvm, e⟩))), hsub⟩
  refine ⟨hM, hrow, fun x hx b hb e => ?_, fun q1 q2 x y b hx hy hbx hby => ?_, fun t s hts => ?_, fun t s hts => ?_⟩
  · rcases mem_set_ne hx with rfl | ⟨q, _, hq⟩
    · rcases hv b hb with e' | e'
      · exact h.off v hvm b e' e
      · have := (hlt.1 b e).2; omega
    · exact h.off x (List.mem_of_getElem? hq) b hb e
  · have key : ∀ {q : Nat} {x : Value}, q ≠ p → R[q]? = some x → x.ownBlock = some b → v'.ownBlock = some b → False := fun {q x} hne hq h1 h2 => by
      rcases hv b h2 with e | e
      · exact hne (h.apart p q v x b hp hq e h1).symm
      · have := (hlt.2 x (List.mem_of_getElem? hq) b h1).2; omega
    rcases set_at hx with ⟨e1, rfl⟩ | ⟨e1, hx1⟩
    · rcases set_at hy with ⟨e2, rfl⟩ | ⟨e2, hy1⟩
      · exact e1.trans e2.symm
      · exact absurd (key e2 hy1 hby hbx) id
    · rcases set_at hy with ⟨e2, rfl⟩ | ⟨e2, hy1⟩
      · exact absurd (key e1 hx1 hbx hby) id
      · exact h.apart q1 q2 x y b hx1 hy1 hbx hby
  · obtain ⟨h1, h2⟩ := hE t s hts
    by_cases e : t * 2 = p
    · exact ⟨v', by rw [List.getElem?_set, if_pos e.symm, if_pos hpl], h1 e⟩
    · obtain ⟨s0, h3, h4⟩ := h2 e
      obtain ⟨u, hu, RE, h5, h6⟩ := h.slE t s0 h3
      rw [h4] at h5 h6
      exact ⟨u, by rw [List.getElem?_set, if_neg (Ne.symm e)]; exact hu, RE, own_same h5 fun b hb _ => hks _ u e hu b hb, h6.keep hkp⟩
  · obtain ⟨h1, h2⟩ := hF t s hts
    by_cases e : t * 2 + 1 = p
    · exact ⟨v', by rw [List.getElem?_set, if_pos e.symm, if_pos hpl], h1 e⟩
    · obtain ⟨s0, h3, h4⟩ := h2 e
      obtain ⟨u, hu, h5⟩ := h.slF t s0 h3
      rw [h4] at h5
      exact ⟨u, by rw [List.getElem?_set, if_neg (Ne.symm e)]; exact hu, own_same h5 fun b hb _ => hks _ u e hu b hb⟩
theorem Gst.put {p : Nat} {v v' : Value} (hp : R[p]? = some v) (ho : w'.os = w.os) (ht : w'.tape = w.tape) (hu : w'.output = w.output) (hs : w.heap.size ≤ w'.heap.size) (hk : ∀ k, k < w.heap.size → V.ownBlock ≠ some k → v.ownBlock ≠ some k → w'.heap[k]? = w.heap[k]?) (hv : ∀ b, v'.ownBlock = some b → v.ownBlock = some b ∨ w.heap.size ≤ b) : Gst w w' V R (R.set p v') :=
  ⟨ho, ht, hu, hs, fun k hk' hV hR => hk k hk' hV (hR v (List.mem_of_getElem? hp)), fun b hb ⟨x, hx, hbx⟩ => by
    rcases mem_set_ne hx with rfl | ⟨q, _, hq⟩
    · rcases hv b hbx with e | e
      · exact ⟨v, List.mem_of_getElem? hp, e⟩
      · omega
    · exact ⟨x, List.mem_of_getElem? hq, hbx⟩⟩
/-- One edge more. -/
theorem Gro.addE {t : Nat} {E : List Ed} {F : List Int} {v v' : Value} {RE : List Value} {C : List Int} {i : Int} {co : Option Addr} {cc : Nat} (h : Gro w B V n M R) (hM : M[t]? = some (E, F)) (hp : R[t * 2]? = some v) (hRE : w.ownsRow B 88 2 v E.length RE) (hG : GrE w B (Grw B V R) E RE) (hs : w.heap.size ≤ w'.heap.size) (hk : ∀ k, k < w.heap.size → V.ownBlock ≠ some k → v.ownBlock ≠ some k → w'.heap[k]? = w.heap[k]?)
    (hrow : w'.ownsRow B 86 2 V n (R.set (t * 2) v')) (hv : ∀ b, v'.ownBlock = some b → v.ownBlock = some b ∨ w.heap.size ≤ b) (ho : w'.ownsRow B 88 2 v' (E.length + 1) (RE ++ [.slice co C.length cc, .int .i64 i])) (hC : ClO w' B (.slice co C.length cc) C) (hX : C ≠ [] → ∀ b, (Value.slice co C.length cc).ownBlock = some b → w.heap.size ≤ b ∧ v'.ownBlock ≠ some b) : Gro w' B V n (adE M t (C, i)) (R.set (t * 2) v') := by
  have hlt := h.lts
  have hvm : v ∈ R := List.mem_of_getElem? hp
  refine h.put hp hs hk hrow hv (by rw [adE_len]; exact h.len) (fun u s hu => ⟨fun e => ?_, fun e => ?_⟩) (fun u s hu => ⟨fun e => by omega, fun _ => ?_⟩)
  · have e' : t = u := by omega
    subst e'
    rw [adE_at, hM] at hu
    simp at hu
    subst hu
    refine ⟨_, by simpa using ho, (hG.keep ⟨hs, fun k hk' hx => hk k hk' (fun e => hx (.inr (.inl e))) (fun e => hx (.inr (.inr ⟨v, hvm, e⟩))), fun b hb hx => ?_⟩).next hRE.1 hC fun hC' b hb hx => ?_⟩
    · rcases hx with hx | hx | ⟨x, hx, hbx⟩
      · exact .inl hx
      · exact .inr (.inl hx)
      · rcases mem_set_ne hx with rfl | ⟨q, _, hq⟩
        · rcases hv b hbx with e | e
          · exact .inr (.inr ⟨v, hvm, e⟩)
          · omega
        · exact .inr (.inr ⟨x, List.mem_of_getElem? hq, hbx⟩)
    · obtain ⟨h1, h2⟩ := hX hC' b hb
      have hBw : B ≤ b := by
        rcases hC with h3 | h3
        · exact absurd h3 hC'
        · exact (h3.lt b hb).1
      rcases hx with hx | hx | ⟨x, hx, hbx⟩
      · omega
      · have := (hlt.1 b hx).2; omega
      · rcases mem_set_ne hx with rfl | ⟨q, _, hq⟩
        · exact h2 hbx
        · have := (hlt.2 x (List.mem_of_getElem? hq) b hbx).2; omega
  · rw [adE_at] at hu
    obtain ⟨s0, h1, h2⟩ := Option.map_eq_some_iff.1 hu
    rw [if_neg (by omega)] at h2
    exact ⟨s0, h1, by rw [h2]⟩
  · rw [adE_at] at hu
    obtain ⟨s0, h1, h2⟩ := Option.map_eq_some_iff.1 hu
    refine ⟨s0, h1, ?_⟩
    rw [← h2]
    split <;> rfl
/-- One number more. -/
theorem Gro.addF {t : Nat} {E : List Ed} {F : List Int} {v v' : Value} {i : Int} (h : Gro w B V n M R) (hM : M[t]? = some (E, F)) (hp : R[t * 2 + 1]? = some v) (hs : w.heap.size ≤ w'.heap.size) (hk : ∀ k, k < w.heap.size → V.ownBlock ≠ some k → v.ownBlock ≠ some k → w'.heap[k]? = w.heap[k]?)
    (hrow : w'.ownsRow B 86 2 V n (R.set (t * 2 + 1) v')) (hv : ∀ b, v'.ownBlock = some b → v.ownBlock = some b ∨ w.heap.size ≤ b) (ho : w'.ownsRow B 3 1 v' (F.length + 1) (i64s F ++ [.int .i64 i])) : Gro w' B V n (adF M t i) (R.set (t * 2 + 1) v') := by
  refine h.put hp hs hk hrow hv (by rw [adF_len]; exact h.len) (fun u s hu => ⟨fun e => by omega, fun _ => ?_⟩) (fun u s hu => ⟨fun e => ?_, fun e => ?_⟩)
  · rw [adF_at] at hu
    obtain ⟨s0, h1, h2⟩ := Option.map_eq_some_iff.1 hu
    refine ⟨s0, h1, ?_⟩
    rw [← h2]
    split <;> rfl
  · have e' : t = u := by omega
    subst e'
    rw [adF_at, hM] at hu
    simp at hu
    subst hu
    simpa [i64s] using ho
  · rw [adF_at] at hu
    obtain ⟨s0, h1, h2⟩ := Option.map_eq_some_iff.1 hu
    rw [if_neg (by omega)] at h2
    exact ⟨s0, h1, by rw [h2]⟩
/-- It reads as an automaton. -/
theorem Gro.reads {vo : Option Addr} {vc : Nat} (h : Gro w B (.slice vo n vc) n M R) (hb : ∀ s ∈ M, s.1.length ≤ most ∧ s.2.length ≤ most ∧ ∀ e ∈ s.1, e.1.length ≤ most) : RdS w vo M := fun k s hs => by
  have hk := (List.getElem?_eq_some_iff.1 hs).1
  obtain ⟨b1, b2, b3⟩ := hb s (List.mem_of_getElem? hs)
  obtain ⟨u, hu, RE, ho, hG⟩ := h.slE k s hs
  obtain ⟨v, hv, hF⟩ := h.slF k s hs
  obtain ⟨q, rfl, hq, hlt, c0, c1⟩ := own2_form h.row hu hv
  have hsl : ∀ {e sz m : Nat} {x : Value} {xs : List Value}, w.ownsRow B e sz x m xs → ∃ xo xc, x = .slice xo m xc := fun hx => by
    rcases hx.2 with ⟨rfl, rfl⟩ | ⟨g, cap, cur, rfl, _⟩
    · exact ⟨none, 0, rfl⟩
    · exact ⟨_, _, rfl⟩
  obtain ⟨eo, ec, rfl⟩ := hsl ho
  obtain ⟨fo, fc, rfl⟩ := hsl hF
  refine ⟨_, rfl, hlt, eo, ec, fo, fc, by rw [Addr.add_lit, Nat.zero_add]; exact c0, by rw [Addr.add_lit, Nat.zero_add]; exact c1, fun j g hg => ?_, fun j z hz => ?_, b1, b2⟩
  · obtain ⟨co, cc, h1, h2, h3, _⟩ := hG j g hg
    obtain ⟨q', rfl, _, hlt', d0, d1⟩ := own2_form ho h1 h2
    refine ⟨_, rfl, hlt', co, cc, by rw [Addr.add_lit, Nat.zero_add]; exact d0, by rw [Addr.add_lit, Nat.zero_add]; exact d1, fun i z hz => ?_, b3 g (List.mem_of_getElem? hg)⟩
    rcases h3 with h3 | h3
    · rw [h3] at hz; simp at hz
    · obtain ⟨g', rfl, _, hl, hc⟩ := own_at h3 hz
      exact ⟨_, rfl, hl, by rw [Addr.add_lit, Nat.zero_add]; exact hc⟩
  · obtain ⟨g', rfl, _, hl, hc⟩ := own_at hF hz
    exact ⟨_, rfl, hl, by rw [Addr.add_lit, Nat.zero_add]; exact hc⟩
end
end Go.Proofs.YteacehfihogmpaaDoor
/- The contracts of the builder (package nfa): one number more, one edge more; of slices.Clone. -/
namespace Go.Proofs.YteacehfihogmpaaDoor
open Go.RowKit

/-- What a step of the builder leaves. -/
def AdQ (B : Nat) (V : Value) (n : Nat) (M' : List St) (R : List Value) (w w' : World) : Prop := ∃ R', Gro w' B V n M' R' ∧ Gst w w' V R R'
theorem Gro.at {w : World} {B g n cap t : Nat} {M : List St} {R : List Value} {E : List Ed} {F : List Int} (h : Gro w B (.slice (some ⟨g, 0, none⟩) n cap) n M R) (hM : M[t]? = some (E, F)) : ∃ (eo : Option Addr) (ec : Nat) (fo : Option Addr) (fc : Nat) (RE : List Value), R[t * 2]? = some (.slice eo E.length ec) ∧ R[t * 2 + 1]? = some (.slice fo F.length fc) ∧ w.ownsRow B 88 2 (.slice eo E.length ec) E.length RE ∧ GrE w B (Grw B (.slice (some ⟨g, 0, none⟩) n cap) R) E RE ∧ w.ownsRow B 3 1 (.slice fo F.length fc) F.length (i64s F) ∧ w.cell? ⟨g, t * 2, none⟩ = some (.slice eo E.length ec) ∧ w.cell? ⟨g, t * 2 + 1, none⟩ = some (.slice fo F.length fc) := by
  obtain ⟨u, hu, RE, ho, hG⟩ := h.slE t _ hM
  obtain ⟨v, hv, hF⟩ := h.slF t _ hM
  have hsl : ∀ {e sz m : Nat} {x : Value} {xs : List Value}, w.ownsRow B e sz x m xs → ∃ xo xc, x = .slice xo m xc := fun hx => by
    rcases hx.2 with ⟨rfl, rfl⟩ | ⟨g, cap, cur, rfl, _⟩
    · exact ⟨none, 0, rfl⟩
    · exact ⟨_, _, rfl⟩
  obtain ⟨eo, ec, rfl⟩ := hsl ho
  obtain ⟨fo, fc, rfl⟩ := hsl hF
  obtain ⟨q, e, _, _, c0, c1⟩ := own2_form h.row hu hv
  cases e
  exact ⟨eo, ec, fo, fc, RE, hu, hv, ho, hG, hF, c0, c1⟩
theorem news1 (w : World) (v : Value) (T : TypeId) : ∀ j u, [v][j]? = some u → (w.alloc (.cells #[v] T)).drew.cell? ((⟨w.heap.size, 0, none⟩ : Addr).add j) = some u := fun j u hj => by
  show (w.alloc (.cells #[v] T)).cell? _ = _
  rw [Addr.add_lit, Nat.zero_add, cell_of_row _ w.heap.size j #[v] T (0, 0) (al_new _ _ rfl)]
  simpa using hj
set_option maxHeartbeats 4000000 in
set_option maxRecDepth 100000 in
theorem free_any (B P n t g cap : Nat) (M : List St) (R : List Value) (E : List Ed) (F : List Int) (i : Int) (w : World) (hP : w.heap[P]? = some (.cells #[.slice (some ⟨g, 0, none⟩) n cap] 72)) (hg : Gro w B (.slice (some ⟨g, 0, none⟩) n cap) n M R) (hoff : ∀ v ∈ R, v.ownBlock ≠ some P) (hM : M[t]? = some (E, F)) (hF : F.length ≤ 1000000) (hB : B ≤ w.heap.size) :
    Calls Tryd.prog 54 #[.pointer (some ⟨P, 0, none⟩), .int .i64 (t : Int), .int .i64 i] w fun e w' => e = .returned (.tuple #[]) ∧ AdQ B (.slice (some ⟨g, 0, none⟩) n cap) n (adF M t i) R w w' := by
  obtain ⟨i3, hi3, hz0, hz1, hz2⟩ := info_parts Tryd.info3
  obtain ⟨eo, ec, fo, fc, RE, r0, r1, oE, gE, oF, c0, c1⟩ := hg.at hM
  have htn : t < n := by have := hg.len; have := (List.getElem?_eq_some_iff.1 hM).1; omega
  have cP : w.cell? ⟨P, 0, none⟩ = some (.slice (some ⟨g, 0, none⟩) n cap) := by rw [cell_of_row w P 0 _ 72 (0, 0) hP]; rfl
  have t0 : (0 : Int) ≤ (t : Int) := by omega
  have t1 : (t : Int) < (n : Int) := by omega
  obtain ⟨fn, hfn⟩ : ∃ fn, fn = F.length := ⟨_, rfl⟩
  rw [← hfn] at c1 oF hF r1
  have HG := hid hg
  have HM := hid hM
  have HR1 := hid r1
  have HOF := hid oF
  have HFN := hid hfn
  have HOFF := hid hoff
  have hgs : g < w.heap.size := ((hg.lts.1 g rfl)).2
  have HFO := hid (show ∀ k, (Value.slice fo fn fc).ownBlock = some k → k ≠ P ∧ k ≠ g ∧ k < w.heap.size from fun k hk => ⟨fun e => hoff _ (List.mem_of_getElem? r1) (by rw [hk, e]), fun e => hg.off _ (List.mem_of_getElem? r1) k hk (by rw [e]; rfl), (oF.lt k hk).2⟩)
  clear hP hg hM r0 r1 oE gE oF c0 hfn hoff
  go_enter Tryd.func54, Tryd.ntmps54
  refine wp_region_mix [(0, true), (1, true), (2, true), (3, true), (4, true), (5, true), (6, true), (7, true), (8, true), (9, true), (10, true), (11, true), (12, true), (13, true), (14, false), (15, false), (16, false), (17, true), (18, false)] (fun w' => w'.cell? ⟨P, 0, none⟩ = some (.slice (some ⟨g, 0, none⟩) n cap) ∧ w'.cell? ⟨g, t * 2 + 1, none⟩ = some (.slice fo fn fc)) (fun j => j == 18) (by kernel_rfl) (by kernel_rfl) (fun j hj => by have := beq_iff_eq.1 hj; subst this; decide) rfl (by kernel_rfl) ⟨cP, c1⟩ ?_
  iterate 14 (refine mix_free ?_ rfl (by kernel_rfl) (fun w' hS => ?_) ?_; (rotate_left; (obtain ⟨s1, s2⟩ := hS; go_simp; with_reducible rfl); rotate_left))
  refine mix_go rfl (by kernel_rfl) fun KK hKK => ?_
  go_simp
  refine hKK _ _ (fun _ => ⟨cell_al cP, cell_al c1⟩) ?_
  clear hKK KK
  refine mix_go rfl (by kernel_rfl) fun KK hKK => ?_
  refine wp_append_lies _ _ _ 22 rfl B 3 i3 (.int .i64 0) 1 8 Tryd.underlying22 hi3 hz0 hz1 hz2 rfl (by decide) (.slice fo fn fc) fn (i64s F) rfl (HOF.out.alloc _).drew ⟨w.heap.size, 0, none⟩ 1 1 [.int .i64 i] rfl rfl (news1 w.drew _ 3) (fun u hu => by simp at hu; rw [hu]; rfl) (by decide) (by unfold maxLen; omega) (by omega) (by show B ≤ (w.alloc _).heap.size; simp; omega) (w.heap.size + 1) (by show (w.alloc _).heap.size = _; simp) ?_
  intro q qc w8 o8 gr8 hl8 hlt8
  have hs8 : w.heap.size + 1 ≤ w8.heap.size := by
    have h : (w.alloc (.cells #[.int .i64 i] 3)).heap.size ≤ w8.heap.size := gr8.size
    simpa using h
  have hblk8 : ∀ b, b < w.heap.size → (Value.slice fo fn fc).ownBlock ≠ some b → w8.heap[b]? = w.heap[b]? := fun b hb hne => (gr8.block b (by show b < (w.alloc _).heap.size; simp; omega) (fun e => hne e.symm)).trans (al_old w _ hb)
  have hg8 : w8.heap[g]? = w.heap[g]? := hblk8 g hgs fun e => (HFO.out g e).2.1 rfl
  have x8 : w8.cell? ⟨P, 0, none⟩ = some (.slice (some ⟨g, 0, none⟩) n cap) := (World.cell?_of_block (hblk8 P (World.block_lt_of_cell? w _ cP) (fun e => (HFO.out P e).1 rfl))).trans cP
  have y8 : w8.cell? ⟨g, t * 2 + 1, none⟩ = some (.slice fo fn fc) := (World.cell?_of_block hg8).trans c1
  have orow : w8.ownsRow B 86 2 (.slice (some ⟨g, 0, none⟩) n cap) n R := own_same HG.out.row fun k hk _ => by
    have e : g = k := Option.some.inj hk
    rw [← e]; exact hg8
  have fz := orow.frozenAt (t * 2 + 1)
  refine hKK _ _ (fun _ => ⟨x8, y8⟩) ?_
  clear hKK KK
  refine mix_go rfl (by kernel_rfl) fun KK hKK => ?_
  go_simp
  refine hKK _ _ (fun _ => ⟨x8, y8⟩) ?_
  clear hKK KK
  refine mix_free ?_ rfl (by kernel_rfl) (fun w' hS => ?_) ?_; (rotate_left; (obtain ⟨s1, s2⟩ := hS; go_simp; with_reducible rfl); rotate_left)
  have HO8 := hid o8
  have HROW := hid orow
  have HB8 := hid hblk8
  have HS8 := hid hs8
  have HL8 := hid hl8
  have HT8 := hid (show w8.os = w.os ∧ w8.tape = w.tape ∧ w8.output = w.output from ⟨gr8.os, gr8.tape, gr8.output⟩)
  clear o8 gr8 hl8 hlt8 hs8 hblk8 orow hg8
  refine mix_go rfl (by kernel_rfl) fun KK hKK => ?_
  go_simp
  refine hKK _ _ (fun h => by cases h) ?_
  clear hKK KK
  refine mix_end (NoPanic.normal ?_)
  go_wp2
  go_end0
  have hst := HROW.out.stored (t * 2 + 1) (.slice (some ⟨q, 0, none⟩) (fn + 1) qc)
  have hset : ∀ b, b ≠ g → (w8.setCell ⟨g, t * 2 + 1, none⟩ (.slice (some ⟨q, 0, none⟩) (fn + 1) qc)).heap[b]? = w8.heap[b]? := fun b hb => heap_setCell_other w8 ⟨g, t * 2 + 1, none⟩ b _ (fun e => hb e)
  have hss : (w8.setCell ⟨g, t * 2 + 1, none⟩ (.slice (some ⟨q, 0, none⟩) (fn + 1) qc)).heap.size = w8.heap.size := by simp
  have hv : ∀ b, (Value.slice (some ⟨q, 0, none⟩) (fn + 1) qc).ownBlock = some b → (Value.slice fo fn fc).ownBlock = some b ∨ w.heap.size ≤ b := fun b hb => by
    have e : q = b := Option.some.inj hb
    rcases HL8.out with h | h
    · exact .inl (e ▸ h)
    · exact .inr (by omega)
  have hk : ∀ k, k < w.heap.size → (Value.slice (some ⟨g, 0, none⟩) n cap).ownBlock ≠ some k → (Value.slice fo fn fc).ownBlock ≠ some k → (w8.setCell ⟨g, t * 2 + 1, none⟩ (.slice (some ⟨q, 0, none⟩) (fn + 1) qc)).heap[k]? = w.heap[k]? := fun k hk h1 h2 => (hset k (fun e => h1 (by rw [e]; rfl))).trans (HB8.out k hk h2)
  have hs9 : w.heap.size ≤ (w8.setCell ⟨g, t * 2 + 1, none⟩ (.slice (some ⟨q, 0, none⟩) (fn + 1) qc)).heap.size := by rw [hss]; have := HS8.out; omega
  have hqg : q ≠ g := fun e => by
    rcases HL8.out with h | h
    · exact (HFO.out q h).2.1 e
    · omega
  refine ⟨rfl, R.set (t * 2 + 1) (.slice (some ⟨q, 0, none⟩) (fn + 1) qc), HG.out.addF HM.out HR1.out hs9 hk hst.1 hv ?_, Gst.put HR1.out HT8.out.1 HT8.out.2.1 HT8.out.2.2 hs9 hk hv⟩
  rw [← HFN.out]
  exact own_same HO8.out fun b hb _ => hset b (by have e : q = b := Option.some.inj hb; omega)
set_option maxHeartbeats 1000000 in
set_option maxRecDepth 100000 in
theorem clone_any (co : Option Addr) (cn cc : Nat) (C : List Int) (w : World) (hC : RdI w co C) (hn : cn = C.length) (hl : cn ≤ 1000000) :
    Calls Tryd.prog 93 #[.slice co cn cc] w fun e w' => ∃ vo vc, e = .returned (.slice vo cn vc) ∧ ClO w' w.heap.size (.slice vo cn vc) C ∧ Below w.heap.size w w' := by
  have q22 : ∀ (w : World) (a : Option Addr) (n c n' c' : Nat), (binOp .eql 22 (.slice a n c) (.slice none n' c')).run Tryd.prog w = .ok (.bool a.isNone) w := fun w a n c n' c' => Lib.run_eql_slice_nil w _ _ a n c n' c' Tryd.underlying22
  cases co with
  | none =>
    have h0 : C = [] := by
      cases C with
      | nil => rfl
      | cons x l => obtain ⟨a, e, _⟩ := hC 0 x rfl; cases e
    subst h0
    obtain rfl : cn = 0 := hn
    clear hC
    go_enter Tryd.func93, Tryd.ntmps93
    go_wp2
    go_ret
    exact ⟨_, _, rfl, .inl rfl, Below.refl _ _⟩
  | some a =>
    have HC := hid hC
    have HN := hid hn
    clear hC hn
    go_enter Tryd.func93, Tryd.ntmps93
    have HW := hid (show (w.alloc (.cells #[] 3)).ownsRow w.heap.size 3 1 (.slice (some ⟨w.heap.size, 0, none⟩) 0 0) 0 [] from World.ownsRow_lit w #[] 0 (Nat.le_refl _) (by decide) (by simp))
    have HB0 := hid ((Below.refl w.heap.size w).alloc (Nat.le_refl _) (.cells #[] 3))
    go_wp2_with (at_builtin; refine wpList_copy rfl _ _ rfl w.heap.size w.heap.size rfl HW.out (some a) cn cc C rfl (HC.out.below HB0.out) HN.out hl (by simp) ?_; intro q qc w2 o2 gr2 hq2 hlt2)
    have HB2 := hid (HB0.out.grown gr2 (by simp) (fun k hk => by have e : w.heap.size = k := Option.some.inj hk; omega))
    have HO2 := hid o2
    clear o2 gr2 hq2 hlt2
    go_ret
    exact ⟨_, _, rfl, .inr (by rw [← HN.out]; exact HO2.out), HB2.out⟩
set_option maxHeartbeats 4000000 in
set_option maxRecDepth 100000 in
theorem edge_any (B P n t g cap : Nat) (M : List St) (R : List Value) (E : List Ed) (F : List Int) (i : Int) (co : Option Addr) (cn cc : Nat) (C : List Int) (w : World) (hP : w.heap[P]? = some (.cells #[.slice (some ⟨g, 0, none⟩) n cap] 72)) (hg : Gro w B (.slice (some ⟨g, 0, none⟩) n cap) n M R) (hoff : ∀ v ∈ R, v.ownBlock ≠ some P) (hM : M[t]? = some (E, F)) (hE : E.length ≤ 1000000) (hB : B ≤ w.heap.size) (hC : RdI w co C) (hcn : cn = C.length) (hcl : cn ≤ 1000000) :
    Calls Tryd.prog 55 #[.pointer (some ⟨P, 0, none⟩), .int .i64 (t : Int), .int .i64 i, .slice co cn cc] w fun e w' => e = .returned (.tuple #[]) ∧ AdQ B (.slice (some ⟨g, 0, none⟩) n cap) n (adE M t (C, i)) R w w' := by
  obtain ⟨i88, hi88, he0, he1, he2⟩ := info_parts Tryd.info88
  obtain ⟨eo, ec, fo, fc, RE, r0, r1, oE, gE, oF, c0, c1⟩ := hg.at hM
  have htn : t < n := by have := hg.len; have := (List.getElem?_eq_some_iff.1 hM).1; omega
  have cP : w.cell? ⟨P, 0, none⟩ = some (.slice (some ⟨g, 0, none⟩) n cap) := by rw [cell_of_row w P 0 _ 72 (0, 0) hP]; rfl
  have t0 : (0 : Int) ≤ (t : Int) := by omega
  have t1 : (t : Int) < (n : Int) := by omega
  obtain ⟨en, hen⟩ : ∃ en, en = E.length := ⟨_, rfl⟩
  rw [← hen] at c0 oE hE r0
  have HG := hid hg
  have HM := hid hM
  have HR0 := hid r0
  have HOE := hid oE
  have HGE := hid gE
  have HEN := hid hen
  have HC := hid hC
  have HCN := hid hcn
  have hgs : g < w.heap.size := ((hg.lts.1 g rfl)).2
  have HFO := hid (show ∀ k, (Value.slice eo en ec).ownBlock = some k → k ≠ P ∧ k ≠ g ∧ k < w.heap.size from fun k hk => ⟨fun e => hoff _ (List.mem_of_getElem? r0) (by rw [hk, e]), fun e => hg.off _ (List.mem_of_getElem? r0) k hk (by rw [e]; rfl), (oE.lt k hk).2⟩)
  clear hP hg hM r0 r1 oE gE oF c1 hen hoff hC hcn
  go_enter Tryd.func55, Tryd.ntmps55
  refine wp_region_mix [(0, true), (1, true), (2, true), (3, true), (4, true), (5, true), (6, true), (7, true), (8, true), (9, true), (10, true), (11, true), (12, true), (13, true), (15, true), (14, false), (16, true), (17, false), (18, false), (19, false), (20, true), (21, false)] (fun w' => w'.cell? ⟨P, 0, none⟩ = some (.slice (some ⟨g, 0, none⟩) n cap) ∧ w'.cell? ⟨g, t * 2, none⟩ = some (.slice eo en ec)) (fun j => j == 21) (by kernel_rfl) (by kernel_rfl) (fun j hj => by have := beq_iff_eq.1 hj; subst this; decide) rfl (by kernel_rfl) ⟨cP, c0⟩ ?_
  iterate 15 (refine mix_free ?_ rfl (by kernel_rfl) (fun w' hS => ?_) ?_; (rotate_left; (obtain ⟨s1, s2⟩ := hS; go_simp; with_reducible rfl); rotate_left))
  refine mix_go rfl (by kernel_rfl) fun KK hKK => ?_
  go_simp
  refine (clone_any co cn cc C w.drew HC.out HCN.out hcl).mono ?_
  rintro e w4 ⟨vo, vc, rfl, k4, b4⟩
  have hs4 : w.heap.size ≤ w4.heap.size := b4.size
  have x4 : w4.cell? ⟨P, 0, none⟩ = some (.slice (some ⟨g, 0, none⟩) n cap) := cell_bl b4 cP
  have y4 : w4.cell? ⟨g, t * 2, none⟩ = some (.slice eo en ec) := cell_bl b4 c0
  refine hKK _ _ (fun _ => ⟨x4, y4⟩) ?_
  clear hKK KK
  refine mix_free ?_ rfl (by kernel_rfl) (fun w' hS => ?_) ?_; (rotate_left; (go_simp; with_reducible rfl); rotate_left)
  have HK4 := hid k4
  have HB4 := hid (show ∀ b, b < w.heap.size → w4.heap[b]? = w.heap[b]? from fun b hb => b4.block b hb)
  have HT4 := hid (show w4.os = w.os ∧ w4.tape = w.tape ∧ w4.output = w.output from ⟨b4.os, b4.tape, b4.output⟩)
  have HOE4 := hid (show w4.ownsRow B 88 2 (.slice eo en ec) en RE from own_same HOE.out fun b _ hb => b4.block b hb)
  clear k4 b4
  refine mix_go rfl (by kernel_rfl) fun KK hKK => ?_
  go_simp
  refine hKK _ _ (fun _ => ⟨cell_al x4, cell_al y4⟩) ?_
  clear hKK KK
  refine mix_go rfl (by kernel_rfl) fun KK hKK => ?_
  refine wp_append_lies _ _ _ 84 rfl B 88 i88 (.agg #[.slice none 0 0, .int .i64 0]) 2 32 Tryd.underlying84 hi88 he0 he1 he2 rfl (by decide) (.slice eo en ec) en RE rfl (HOE4.out.alloc _) ⟨w4.heap.size, 0, none⟩ 1 1 [.slice vo cn vc, .int .i64 i] rfl rfl (news_two w4 _ _ 88) (fun u hu => by simp at hu; rcases hu with h | h <;> rw [h] <;> rfl) (by decide) (by unfold maxLen; omega) (by omega) (by show B ≤ (w4.alloc _).heap.size; simp; omega) (w4.heap.size + 1) (by show (w4.alloc _).heap.size = _; simp) ?_
  intro q qc w8 o8 gr8 hl8 hlt8
  have hs8 : w4.heap.size + 1 ≤ w8.heap.size := by
    have h : (w4.alloc (.cells #[.slice vo cn vc, .int .i64 i] 88)).heap.size ≤ w8.heap.size := gr8.size
    simpa using h
  have hblk48 : ∀ b, b < w4.heap.size → (Value.slice eo en ec).ownBlock ≠ some b → w8.heap[b]? = w4.heap[b]? := fun b hb hne => (gr8.block b (by show b < (w4.alloc _).heap.size; simp; omega) (fun e => hne e.symm)).trans (al_old w4 _ hb)
  have hblk8 : ∀ b, b < w.heap.size → (Value.slice eo en ec).ownBlock ≠ some b → w8.heap[b]? = w.heap[b]? := fun b hb hne => (hblk48 b (by omega) hne).trans (HB4.out b hb)
  have hg8 : w8.heap[g]? = w.heap[g]? := hblk8 g hgs fun e => (HFO.out g e).2.1 rfl
  have x8 : w8.cell? ⟨P, 0, none⟩ = some (.slice (some ⟨g, 0, none⟩) n cap) := (World.cell?_of_block (hblk8 P (World.block_lt_of_cell? w _ cP) (fun e => (HFO.out P e).1 rfl))).trans cP
  have y8 : w8.cell? ⟨g, t * 2, none⟩ = some (.slice eo en ec) := (World.cell?_of_block hg8).trans c0
  have orow : w8.ownsRow B 86 2 (.slice (some ⟨g, 0, none⟩) n cap) n R := own_same HG.out.row fun k hk _ => by
    have e : g = k := Option.some.inj hk
    rw [← e]; exact hg8
  have fz := orow.frozenAt (t * 2)
  refine hKK _ _ (fun _ => ⟨x8, y8⟩) ?_
  clear hKK KK
  refine mix_go rfl (by kernel_rfl) fun KK hKK => ?_
  go_simp
  refine hKK _ _ (fun _ => ⟨x8, y8⟩) ?_
  clear hKK KK
  refine mix_free ?_ rfl (by kernel_rfl) (fun w' hS => ?_) ?_; (rotate_left; (obtain ⟨s1, s2⟩ := hS; go_simp; with_reducible rfl); rotate_left)
  have HO8 := hid o8
  have HROW := hid orow
  have HB8 := hid hblk8
  have HB48 := hid hblk48
  have HS8 := hid hs8
  have HS4 := hid hs4
  have HL8 := hid hl8
  have HT8 := hid (show w8.os = w.os ∧ w8.tape = w.tape ∧ w8.output = w.output from ⟨(show w8.os = w4.os from gr8.os).trans HT4.out.1, (show w8.tape = w4.tape from gr8.tape).trans HT4.out.2.1, (show w8.output = w4.output from gr8.output).trans HT4.out.2.2⟩)
  clear o8 gr8 hl8 hlt8 hs8 hblk8 hblk48 orow hg8 hs4 x4 y4
  refine mix_go rfl (by kernel_rfl) fun KK hKK => ?_
  go_simp
  refine hKK _ _ (fun h => by cases h) ?_
  clear hKK KK
  refine mix_end (NoPanic.normal ?_)
  go_wp2
  go_end0
  have hst := HROW.out.stored (t * 2) (.slice (some ⟨q, 0, none⟩) (en + 1) qc)
  have hset : ∀ b, b ≠ g → (w8.setCell ⟨g, t * 2, none⟩ (.slice (some ⟨q, 0, none⟩) (en + 1) qc)).heap[b]? = w8.heap[b]? := fun b hb => heap_setCell_other w8 ⟨g, t * 2, none⟩ b _ (fun e => hb e)
  have hss : (w8.setCell ⟨g, t * 2, none⟩ (.slice (some ⟨q, 0, none⟩) (en + 1) qc)).heap.size = w8.heap.size := by simp
  have hs4 := HS4.out
  have hs8 := HS8.out
  have hv : ∀ b, (Value.slice (some ⟨q, 0, none⟩) (en + 1) qc).ownBlock = some b → (Value.slice eo en ec).ownBlock = some b ∨ w.heap.size ≤ b := fun b hb => by
    have e : q = b := Option.some.inj hb
    rcases HL8.out with h | h
    · exact .inl (e ▸ h)
    · exact .inr (by omega)
  have hk : ∀ k, k < w.heap.size → (Value.slice (some ⟨g, 0, none⟩) n cap).ownBlock ≠ some k → (Value.slice eo en ec).ownBlock ≠ some k → (w8.setCell ⟨g, t * 2, none⟩ (.slice (some ⟨q, 0, none⟩) (en + 1) qc)).heap[k]? = w.heap[k]? := fun k hk h1 h2 => (hset k (fun e => h1 (by rw [e]; rfl))).trans (HB8.out k hk h2)
  have hs9 : w.heap.size ≤ (w8.setCell ⟨g, t * 2, none⟩ (.slice (some ⟨q, 0, none⟩) (en + 1) qc)).heap.size := by rw [hss]; omega
  have hqg : q ≠ g := fun e => by
    rcases HL8.out with h | h
    · exact (HFO.out q h).2.1 e
    · omega
  have hcb : C ≠ [] → ∀ b, (Value.slice vo C.length vc).ownBlock = some b → w.heap.size ≤ b ∧ b < w4.heap.size := fun hC' b hb => by
    have h := HK4.out
    rw [HCN.out] at h
    rcases h with h | h
    · exact absurd h hC'
    · exact h.lt b hb
  have hcq : C ≠ [] → ∀ b, (Value.slice vo C.length vc).ownBlock = some b → b ≠ q := fun hC' b hb e => by
    have h1 := hcb hC' b hb
    rcases HL8.out with h | h
    · have := (HFO.out q h).2.2; omega
    · omega
  refine ⟨rfl, R.set (t * 2) (.slice (some ⟨q, 0, none⟩) (en + 1) qc), HG.out.addE (co := vo) (cc := vc) HM.out HR0.out (by rw [← HEN.out]; exact HOE.out) HGE.out hs9 hk hst.1 hv ?_ ?_ (fun hC' b hb => ⟨(hcb hC' b hb).1, fun e => hcq hC' b hb (Option.some.inj e).symm⟩), Gst.put HR0.out HT8.out.1 HT8.out.2.1 HT8.out.2.2 hs9 hk hv⟩
  · rw [← HEN.out, ← HCN.out]
    exact own_same HO8.out fun b hb _ => hset b (by have e : q = b := Option.some.inj hb; omega)
  · have h := HK4.out
    rw [HCN.out] at h
    refine (show ClO w4 B (.slice vo C.length vc) C from ?_).keep fun b hb hC' hl => ?_
    · rcases h with h | h
      · exact .inl h
      · exact .inr (own_mono' h hB)
    · have h1 := hcb hC' b hb
      rw [hset b (by omega), HB48.out b hl (fun e => by have := (HFO.out b e).2.2; omega)]
end Go.Proofs.YteacehfihogmpaaDoor
/- The contract of Reverse (package nfa). -/
namespace Go.Proofs.YteacehfihogmpaaDoor
open Go.RowKit

theorem Gro.keep2 {w w' : World} {B n : Nat} {V : Value} {M : List St} {R : List Value} (h : Gro w B V n M R) (hs : w.heap.size ≤ w'.heap.size) (hb : ∀ k, B ≤ k → k < w.heap.size → w'.heap[k]? = w.heap[k]?) : Gro w' B V n M R := by
  refine ⟨h.len, own_same h.row fun k hk hl => hb k (h.row.lt k hk).1 hl, h.off, h.apart, fun t s hs' => ?_, fun t s hs' => ?_⟩
  · obtain ⟨v, hv, RE, h1, h2⟩ := h.slE t s hs'
    exact ⟨v, hv, RE, own_same h1 fun k hk hl => hb k (h1.lt k hk).1 hl, h2.keep ⟨hs, fun k hk hx => hb k (Nat.le_of_not_lt fun e => hx (.inl e)) hk, fun _ _ hx => hx⟩⟩
  · obtain ⟨v, hv, h1⟩ := h.slF t s hs'
    exact ⟨v, hv, own_same h1 fun k hk hl => hb k (h1.lt k hk).1 hl⟩
theorem mkT {t e : TypeId} {i : TypeInfo} {z : Value} {by_ sz : Nat} (ht : Tryd.prog.underlying t = some (.slice e)) (hi : Tryd.prog.info? e = some i) (hz : i.zero = some z) (h1 : i.size = sz) (h2 : i.bytes = by_) (hb : by_ ≤ 48) (n : Nat) (hn : n ≤ 1000000) (W : World) :
    (Instr.makeSlice t (.int .i64 (n : Int)) (.int .i64 (n : Int))).run Tryd.prog W = .ok (.slice (some ⟨W.heap.size, 0, none⟩) n n) (W.alloc (.cells (madeCells z.cells (n * sz)) e)) := by
  have h := run_make (P := Tryd.prog) W t e i z ht hi hz .i64 .i64 (n : Int) (n : Int) (by omega) (Int.le_refl _) (by rw [h2]; have : (by_ : Int) * (n : Int) ≤ 48 * 1000000 := Int.mul_le_mul (by omega) (by omega) (by omega) (by omega); omega) (by omega)
  rw [h1] at h
  simpa using h
theorem zero2 (n : Nat) : (madeCells (Value.agg #[.slice none 0 0, .slice none 0 0]).cells (n * 2)).toList = List.replicate (n * 2) (.slice none 0 0) := by
  apply List.ext_getElem?
  intro k
  rw [Array.getElem?_toList, List.getElem?_replicate]
  unfold madeCells
  rw [Array.getElem?_map, Array.getElem?_range]
  split
  · have e : ∀ m, m < 2 → (#[Value.slice none 0 0, Value.slice none 0 0] : Array Value).getD m undef = Value.slice none 0 0 := fun m hm => by
      match m, hm with
      | 0, _ => rfl
      | 1, _ => rfl
    have hm : k % 2 < 2 := Nat.mod_lt _ (by decide)
    rw [Option.map_some]
    refine congrArg some ?_
    rw [show (Value.agg #[.slice none 0 0, .slice none 0 0]).cells = #[Value.slice none 0 0, Value.slice none 0 0] from rfl]
    rcases Nat.mod_two_eq_zero_or_one k with e | e <;> simp [e]
  · rfl
theorem Gro.start {w : World} {B g n : Nat} (hg : w.heap[g]? = some (.cells (madeCells (Value.agg #[.slice none 0 0, .slice none 0 0]).cells (n * 2)) 86)) (hB : B ≤ g) (hn : n ≤ maxLen) : Gro w B (.slice (some ⟨g, 0, none⟩) n n) n (List.replicate n ([], [])) (List.replicate (n * 2) (.slice none 0 0)) := by
  have hno : ∀ v ∈ List.replicate (n * 2) (Value.slice none 0 0), v.ownBlock = none := fun v hv => by rw [(List.mem_replicate.1 hv).2]; rfl
  refine ⟨by simp, ⟨by simp, .inr ⟨g, n, _, rfl, hB, hg, Nat.le_refl _, hn, by rw [size_madeCells], ?_⟩⟩, fun v hv b hb => ?_, fun p q u v b hu _ hb => ?_, fun t s hs => ?_, fun t s hs => ?_⟩
  · rw [zero2, List.take_of_length_le (by simp)]
  · rw [hno v hv] at hb; cases hb
  · rw [hno u (List.mem_of_getElem? hu)] at hb; cases hb
  · have ht := (List.getElem?_eq_some_iff.1 hs).1
    simp at ht
    rw [List.getElem?_replicate, if_pos ht] at hs
    cases hs
    exact ⟨.slice none 0 0, by rw [List.getElem?_replicate, if_pos (by omega)], [], World.ownsRow_nil _ _ _ _, fun j g hg => by simp at hg⟩
  · have ht := (List.getElem?_eq_some_iff.1 hs).1
    simp at ht
    rw [List.getElem?_replicate, if_pos ht] at hs
    cases hs
    exact ⟨.slice none 0 0, by rw [List.getElem?_replicate, if_pos (by omega)], World.ownsRow_nil _ _ _ _⟩
theorem Gro.nil (w : World) (B : Nat) : Gro w B (.slice none 0 0) 0 [] [] := ⟨rfl, World.ownsRow_nil _ _ _ _, fun v hv => by simp at hv, fun p q u v b hu => by simp at hu, fun t s hs => by simp at hs, fun t s hs => by simp at hs⟩
theorem rs_len : ∀ {l : List Int} {last : Int}, rs last l = true → last ≤ 63 → (l.length : Int) ≤ 63 - last
  | [], last, _, h => by simp; omega
  | c :: l, last, h, _ => by
    by_cases h1 : c ≤ last
    · rw [rs_bad (.inl h1)] at h; cases h
    · by_cases h2 : 64 ≤ c
      · rw [rs_bad (.inr h2)] at h; cases h
      · rw [rs_ok (by omega) (by omega)] at h
        have := rs_len h (by omega)
        rw [List.length_cons]; omega
theorem Gdd.lens {L : List St} {s f : Int} (h : Gdd L s f) : ∀ x ∈ L, ∀ e ∈ x.1, e.1.length ≤ 64 := fun x hx e he => by
  have h1 := h.all x hx
  unfold fmd at h1
  simp only [Bool.and_eq_true] at h1
  have := rs_len (edg_all h1.1 e he).2 (by omega)
  omega
theorem le_sum : ∀ {l : List Nat} {x : Nat}, x ∈ l → x ≤ l.sum
  | y :: l, x, h => by
    rw [List.sum_cons]
    rcases List.mem_cons.1 h with rfl | h
    · omega
    · have := le_sum h; omega
theorem eS_in {M : List St} {x : St} (h : x ∈ M) : x.1.length ≤ eS M := le_sum (List.mem_map.2 ⟨x, h, rfl⟩)
theorem fS_in {M : List St} {x : St} (h : x ∈ M) : x.2.length ≤ fS M := le_sum (List.mem_map.2 ⟨x, h, rfl⟩)
/-- While it is turned round, no state has more than there are in all. -/
theorem rv_small {L : List St} {s f : Int} (h : Gdd L s f) {i k m : Nat} {E : List Ed} {F : List Int} (hL : L[i]? = some (E, F)) : eS (rvF i (rvE i (rvK L i) (E.take k)) (F.take m)) ≤ eS L ∧ fS (rvF i (rvE i (rvK L i) (E.take k)) (F.take m)) ≤ fS L := by
  have hi := (List.getElem?_eq_some_iff.1 hL).1
  have hLe := (List.getElem?_eq_some_iff.1 hL).2
  have hE := sums_rvE i (E.take k) (rvK L i) (fun e he => by have := h.ge (u := i) (C := e.1) (t := e.2) ⟨_, hL, List.mem_of_mem_take he⟩; rw [rvK_len]; omega)
  have hF := sums_rvF i (F.take m) (rvE i (rvK L i) (E.take k)) (fun t ht => by have := h.gf (u := i) (t := t) ⟨_, hL, List.mem_of_mem_take ht⟩; rw [rvE_len, rvK_len]; omega)
  have h1 := sums_rvK h i (by omega)
  have h2 := eS_take L i hi
  have h3 := fS_take L i hi
  have h4 := eS_le L (i + 1)
  have h5 := fS_le L (i + 1)
  rw [hLe] at h2 h3
  dsimp only at h2 h3
  have h6 : (E.take k).length ≤ E.length := by rw [List.length_take]; omega
  have h7 : (F.take m).length ≤ F.length := by rw [List.length_take]; omega
  constructor
  · rw [hF.1, hE.1, h1.1]; omega
  · rw [hF.2, hE.2, h1.2]; omega
/-- What Reverse tells. -/
structure RvS (L : List St) (s f : Int) (M : List St) (a b : Int) : Prop where
  yes : gdB L s f = true → M = rv L ∧ a = f ∧ b = s
  no : gdB L s f = false → M = [] ∧ a = 0 ∧ b = 0
def RvQ (w : World) (L : List St) (s f : Int) (e : Ending) (w' : World) : Prop :=
  ∃ (B : Nat) (vo : Option Addr) (m vc : Nat) (M : List St) (R : List Value) (a b : Int), e = .returned (.agg #[.slice vo m vc, .int .i64 a, .int .i64 b]) ∧ RvS L s f M a b ∧ w.heap.size ≤ B ∧ B ≤ w'.heap.size ∧ Gro w' B (.slice vo m vc) m M R ∧ Below w.heap.size w w'
/-- What stays from the beginning on. -/
theorem Gst.old {W wr : World} {g n cap : Nat} {k : Nat} {R : List Value} (h : Gst W wr (.slice (some ⟨g, 0, none⟩) n cap) (List.replicate k (.slice none 0 0)) R) : (∀ b, b < W.heap.size → b ≠ g → wr.heap[b]? = W.heap[b]?) ∧ ∀ b, b < W.heap.size → ∀ v ∈ R, v.ownBlock ≠ some b := by
  have hno : ∀ v ∈ List.replicate k (Value.slice none 0 0), v.ownBlock = none := fun v hv => by rw [(List.mem_replicate.1 hv).2]; rfl
  refine ⟨fun b hb hne => h.block b hb (fun e => hne (Option.some.inj e).symm) (fun v hv e => by rw [hno v hv] at e; cases e), fun b hb v hv e => ?_⟩
  obtain ⟨u, hu, e'⟩ := h.sub b hb ⟨v, hv, e⟩
  rw [hno u hu] at e'; cases e'
set_option maxHeartbeats 16000000 in
set_option maxRecDepth 100000 in
theorem rev_any (so : Option Addr) (sc n : Nat) (L : List St) (s f : Int) (w : World) (hn : n = L.length) (hs : RdS w so L) (hnm : n ≤ most) (he : eS L ≤ 1000000) (hf : fS L ≤ 1000000) :
    Calls Tryd.prog 35 #[.agg #[.slice so n sc, .int .i64 s, .int .i64 f]] w fun e w' => RvQ w L s f e w' := by
  obtain ⟨i86, hi86, hs0, hs1, hs2⟩ := info_parts Tryd.info86
  have HN := hid hn
  have HS := hid hs
  have HES := hid he
  have HFS := hid hf
  obtain ⟨w1, hw1⟩ : ∃ w1, w1 = (w.alloc (.cells #[.slice so n sc, .int .i64 s, .int .i64 f] 28)).alloc (.cells #[.slice none 0 0, .int .i64 0, .int .i64 0] 28) := ⟨_, rfl⟩
  have q1 : w1.heap[w.heap.size]? = some (.cells #[.slice so n sc, .int .i64 s, .int .i64 f] 28) := by rw [hw1, al_old _ _ (by simp), al_new _ _ rfl]
  have q2 : w1.heap[w.heap.size + 1]? = some (.cells #[.slice none 0 0, .int .i64 0, .int .i64 0] 28) := by rw [hw1, al_new _ _ (by simp)]
  have hsz1 : w1.heap.size = w.heap.size + 2 := by rw [hw1]; simp
  have b1 : Below w.heap.size w w1 := by rw [hw1]; exact ((Below.refl _ _).alloc (Nat.le_refl _) _).alloc (by simp) _
  have HB1 := hid b1
  have HQ1 := hid q1
  have HQ2 := hid q2
  have HSZ1 := hid hsz1
  have c0 : w1.cell? ⟨w.heap.size, 0, none⟩ = some (.slice so n sc) := by rw [cell_of_row w1 w.heap.size 0 _ 28 (0, 0) q1]; rfl
  have c1 : w1.cell? ⟨w.heap.size, 1, none⟩ = some (.int .i64 s) := by rw [cell_of_row w1 w.heap.size 1 _ 28 (0, 0) q1]; rfl
  have c2 : w1.cell? ⟨w.heap.size, 2, none⟩ = some (.int .i64 f) := by rw [cell_of_row w1 w.heap.size 2 _ 28 (0, 0) q1]; rfl
  have HC1 := hid c1
  have HC2 := hid c2
  clear hn hs q1 q2 hsz1 b1 he hf
  go_enter Tryd.func35, Tryd.ntmps35
  go_wp2_with fail
  rw [← hw1]
  clear hw1
  refine (good_any so sc n L s f w1 HN.out (HS.out.below HB1.out) hnm).mono ?_
  rintro e w2 ⟨rfl, b2⟩
  have HB2 := hid b2
  have d0 := cell_bl b2 c0
  clear b2 c0 c1 c2
  rcases bool_cases (gdB L s f) with hG | hG
  · have hgd := gdd_of hG
    rw [hG]
    have hn4 : n ≤ 4096 := by have := hgd.few; have := HN.out; omega
    have M1 := mkT Tryd.underlying26 hi86 hs0 hs1 hs2 (by decide) n (by omega)
    obtain ⟨Z, hZ⟩ : ∃ Z, Z = madeCells (Value.agg #[.slice none 0 0, .slice none 0 0]).cells (n * 2) := ⟨_, rfl⟩
    rw [← hZ] at M1
    obtain ⟨g, hg⟩ : ∃ g, g = w2.heap.size := ⟨_, rfl⟩
    obtain ⟨W0, hW0⟩ : ∃ W0, W0 = (w2.alloc (.cells Z 86)).alloc (.cells #[.slice (some ⟨g, 0, none⟩) n n] 72) := ⟨_, rfl⟩
    have hs0' : W0.heap.size = g + 2 := by rw [hW0, hg]; simp
    have hWg : W0.heap[g]? = some (.cells Z 86) := by rw [hW0, al_old _ _ (by rw [hg]; simp), al_new _ _ hg]
    have hWP : W0.heap[g + 1]? = some (.cells #[.slice (some ⟨g, 0, none⟩) n n] 72) := by rw [hW0, al_new _ _ (by rw [hg]; simp)]
    have hWo : ∀ b, b < g → W0.heap[b]? = w2.heap[b]? := fun b hb => by rw [hW0, al_old _ _ (by simp; omega), al_old _ _ (by omega)]
    have HWP := hid hWP
    have HWO := hid hWo
    have HS0 := hid hs0'
    have hgp1 : w.heap.size + 2 ≤ g := by have h1 := HB2.out.size; have h2 := HSZ1.out; omega
    have HGR := hid (show Gro W0 g (.slice (some ⟨g, 0, none⟩) n n) n (rvK L 0) (List.replicate (n * 2) (.slice none 0 0)) from by
      rw [hZ] at hWg
      have h := Gro.start (B := g) hWg (Nat.le_refl _) (show n ≤ maxLen by unfold maxLen; omega)
      rw [HN.out] at h ⊢
      exact h)
    have HGD := hid hgd
    have HGB := hid hG
    have HGP := hid hgp1
    have HT0 := hid (show W0.os = w.os ∧ W0.tape = w.tape ∧ W0.output = w.output from by
      rw [hW0]
      exact ⟨HB2.out.os.trans HB1.out.os, HB2.out.tape.trans HB1.out.tape, HB2.out.output.trans HB1.out.output⟩)
    -- what stays, of whatever comes later
    have HKP := hid (show ∀ (wr : World) (R : List Value), Gst W0 wr (.slice (some ⟨g, 0, none⟩) n n) (List.replicate (n * 2) (.slice none 0 0)) R → Below w.heap.size w wr ∧ wr.heap[g + 1]? = some (.cells #[.slice (some ⟨g, 0, none⟩) n n] 72) ∧ wr.heap[w.heap.size]? = some (.cells #[.slice so n sc, .int .i64 s, .int .i64 f] 28) ∧ wr.heap[w.heap.size + 1]? = some (.cells #[.slice none 0 0, .int .i64 0, .int .i64 0] 28) ∧ (∀ v ∈ R, v.ownBlock ≠ some (g + 1)) ∧ g + 2 ≤ wr.heap.size from fun wr R h => by
      obtain ⟨h1, h2⟩ := h.old
      have hsz := HS0.out
      have hb2 := HB2.out
      have hz1 := HSZ1.out
      refine ⟨⟨h.os.trans HT0.out.1, h.tape.trans HT0.out.2.1, h.output.trans HT0.out.2.2, by have := h.size; omega, fun k hk => ?_⟩, ?_, ?_, ?_, h2 (g + 1) (by omega), by have := h.size; omega⟩
      · rw [h1 k (by omega) (by omega), HWO.out k (by omega), hb2.block k (by omega), HB1.out.block k hk]
      · rw [h1 (g + 1) (by omega) (by omega)]; exact HWP.out
      · rw [h1 _ (by omega) (by omega), HWO.out _ (by omega), hb2.block _ (by omega)]; exact HQ1.out
      · rw [h1 _ (by omega) (by omega), HWO.out _ (by omega), hb2.block _ (by omega)]; exact HQ2.out)
    have d0b : ((w2.alloc (.cells Z 86)).alloc (.cells #[.slice (some ⟨w2.heap.size, 0, none⟩) n n] 72)).cell? ⟨w.heap.size, 0, none⟩ = some (.slice so n sc) := cell_al (cell_al d0)
    have HG0 := hid hg
    have HW0 := hid hW0
    clear hG hgd hWg hWo HB2 hZ hs0' hg hW0 hWP hgp1
    go_wp2_with fail
    rw [← HG0.out, ← HW0.out]
    clear HG0 HW0 d0b d0 M1
    go_loopw [23] (fun y wr => ∃ i : Nat, y = .int .i64 i ∧ i ≤ n ∧ Hid (∃ R, Gro wr g (.slice (some ⟨g, 0, none⟩) n n) n (rvK L i) R ∧ Gst W0 wr (.slice (some ⟨g, 0, none⟩) n n) (List.replicate (n * 2) (.slice none 0 0)) R)) (fun y _ => n - (intOf y).toNat)
    case atStart => exact ⟨0, rfl, Nat.zero_le _, ⟨_, HGR.out, Gst.refl _ _ _⟩⟩
    case round =>
      clear HGR
      obtain ⟨i, rfl, hi, HI⟩ := hrel
      obtain ⟨R, hGr, hSt⟩ := HI.out
      clear HI
      have HG := hid hGr
      have HST := hid hSt
      obtain ⟨bw, hP, hn1, hz1, hno, hsz⟩ := HKP.out _ _ hSt
      clear hGr hSt
      by_cases hlt : i < n
      · have i3 : (i : Int) < (n : Int) := by omega
        have i0 : (0 : Int) ≤ (i : Int) := by omega
        have hiL : i < L.length := by have := HN.out; omega
        obtain ⟨E, F, hEF⟩ : ∃ E F, L[i]? = some (E, F) := ⟨L[i].1, _, List.getElem?_eq_getElem hiL⟩
        obtain ⟨a, ea, hab, eo, ec, fo, fc, f0w, f1w, hE, hF, _, _⟩ := HS.out i (E, F) hEF
        dsimp only at f0w f1w hE hF
        subst ea
        have f0 := (bw.cell (p := a.add (i * 2)) (by rw [add_blk]; exact hab)).trans f0w
        have f1 := (bw.cell (p := ⟨(a.add (i * 2)).block, (a.add (i * 2)).off + 1, none⟩) (show (a.add (i * 2)).block < _ by rw [add_blk]; exact hab)).trans f1w
        obtain ⟨en, hen⟩ : ∃ en, en = E.length := ⟨_, rfl⟩
        obtain ⟨fn, hfn⟩ : ∃ fn, fn = F.length := ⟨_, rfl⟩
        rw [← hen] at f0
        rw [← hfn] at f1
        have HEN := hid hen
        have HFN := hid hfn
        have HER := hid hE
        have HFR := hid hF
        have HEF := hid hEF
        have hle1 : en ≤ 1000000 := by
          have h1 := eS_in (List.mem_of_getElem? hEF)
          have h2 := HES.out
          dsimp only at h1
          omega
        have hle2 : fn ≤ 1000000 := by
          have h1 := fS_in (List.mem_of_getElem? hEF)
          have h2 := HFS.out
          dsimp only at h1
          omega
        obtain ⟨w5, hw5⟩ : ∃ w5, w5 = wr.alloc (.cells #[.slice eo en ec, .slice fo fn fc] 86) := ⟨_, rfl⟩
        obtain ⟨p5, hp5⟩ : ∃ p5, p5 = wr.heap.size := ⟨_, rfl⟩
        have hb5 : Below wr.heap.size wr w5 := by rw [hw5]; exact (Below.refl _ _).alloc (Nat.le_refl _) _
        have HG5 := hid (HG.out.keep hb5)
        have HST5 := hid (HST.out.trans (Gst.below hb5 _ _))
        have HP5 := hid (show ∀ (W : World) (R2 : List Value), Gst w5 W (.slice (some ⟨g, 0, none⟩) n n) R R2 → W.heap[p5]? = some (.cells #[.slice eo en ec, .slice fo fn fc] 86) from fun W R2 h => by
          rw [h.block p5 (by rw [hw5, hp5]; simp) (fun e => by have e' : g = p5 := Option.some.inj e; omega) (fun v hv e => by have := (HG.out.lts.2 v hv p5 e).2; omega), hw5]
          exact al_new _ _ hp5)
        have HW5 := hid hw5
        have HPP := hid hp5
        clear hen hfn hE hF f0w f1w hEF hab hiL hw5 hp5 hb5 hP hn1 hz1 hno HG HST
        go_wp2
        rw [← HPP.out, ← HW5.out]
        clear HPP HW5 f0 f1 hsz bw
        go_loopw [31] (fun y wr => ∃ k : Nat, y = .int .i64 k ∧ k ≤ en ∧ Hid (∃ R', Gro wr g (.slice (some ⟨g, 0, none⟩) n n) n (rvE i (rvK L i) (E.take k)) R' ∧ Gst w5 wr (.slice (some ⟨g, 0, none⟩) n n) R R')) (fun y _ => en - (intOf y).toNat)
        case atStart => exact ⟨0, rfl, Nat.zero_le _, ⟨R, HG5.out, Gst.refl _ _ _⟩⟩
        case round =>
          clear HG5
          obtain ⟨k, rfl, hk, HI⟩ := hrel
          obtain ⟨R1, hGr, hSt⟩ := HI.out
          clear HI
          have HG := hid hGr
          have HST := hid hSt
          obtain ⟨bw, hP, hn1, hz1, hno, hsz⟩ := HKP.out _ _ (HST5.out.trans hSt)
          by_cases hkl : k < en
          · have k3 : (k : Int) < (en : Int) := by omega
            have k0 : (0 : Int) ≤ (k : Int) := by omega
            have hkE : k < E.length := by have := HEN.out; omega
            obtain ⟨C, t, hCt⟩ : ∃ C t, E[k]? = some (C, t) := ⟨E[k].1, _, List.getElem?_eq_getElem hkE⟩
            obtain ⟨d, ed, hdb, co, cc, u0w, u1w, hC, _⟩ := HER.out k (C, t) hCt
            subst ed
            have htb := HGD.out.ge (u := i) (C := C) (t := t) ⟨_, HEF.out, List.mem_of_getElem? hCt⟩
            obtain ⟨tn, rfl⟩ : ∃ tn : Nat, t = (tn : Int) := ⟨t.toNat, by omega⟩
            dsimp only at u0w u1w hC
            have u0 := (bw.cell (p := d.add (k * 2)) (by rw [add_blk]; exact hdb)).trans u0w
            have u1 := (bw.cell (p := ⟨(d.add (k * 2)).block, (d.add (k * 2)).off + 1, none⟩) (show (d.add (k * 2)).block < _ by rw [add_blk]; exact hdb)).trans u1w
            have hcl : C.length ≤ 64 := HGD.out.lens _ (List.mem_of_getElem? HEF.out) _ (List.mem_of_getElem? hCt)
            obtain ⟨cn, hcn⟩ : ∃ cn, cn = C.length := ⟨_, rfl⟩
            rw [← hcn] at u0 hcl
            obtain ⟨E', F', hM⟩ : ∃ E' F', (rvE i (rvK L i) (E.take k))[tn]? = some (E', F') := ⟨_, _, List.getElem?_eq_getElem (by rw [rvE_len, rvK_len]; omega)⟩
            have hE' : E'.length ≤ 1000000 := by
              have h1 := (rv_small HGD.out (k := k) (m := 0) HEF.out).1
              have h2 := eS_in (List.mem_of_getElem? hM)
              have h3 := HES.out
              rw [List.take_zero] at h1
              have h4 : eS (rvE i (rvK L i) (E.take k)) ≤ eS L := h1
              dsimp only at h2
              omega
            obtain ⟨w6, hw6⟩ : ∃ w6, w6 = wr.alloc (.cells #[.slice co cn cc, .int .i64 (tn : Int)] 88) := ⟨_, rfl⟩
            have hb6 : Below wr.heap.size wr w6 := by rw [hw6]; exact (Below.refl _ _).alloc (Nat.le_refl _) _
            have HED := hid (edge_any g (g + 1) n tn g n _ R1 E' F' (i : Int) co cn cc C w6 (by rw [hb6.block _ (lt_of hP)]; exact hP) (HG.out.keep hb6) hno hM hE' (by have := hb6.size; omega) (hC.below (bw.trans (hb6.mono bw.size))) hcn (by omega))
            have HB6 := hid hb6
            have HW6 := hid hw6
            have HCT := hid hCt
            clear hw6 hb6 hM hE' hcn hcl hCt hC hdb hkE u0w u1w htb bw hP hn1 hz1 hno hsz hGr hSt
            go_wp2_with fail
            rw [← HW6.out]
            clear HW6 u0 u1
            refine HED.out.mono ?_
            rintro e w7 ⟨rfl, R2, hGr, hSt⟩
            have HG2 := hid hGr
            have HST2 := hid (HST.out.trans ((Gst.below HB6.out _ _).trans hSt))
            clear hGr hSt HED HB6 HST HG
            go_wp2
            go_roundw
            case rel => exact ⟨k + 1, by go_num, by omega, ⟨R2, by rw [rvE_take HCT.out]; exact HG2.out, HST2.out⟩⟩
            case measure => simp [intOf]; omega
          · have k3 : ¬ (k : Int) < (en : Int) := by omega
            have HT := hid (show E.take k = E from List.take_of_length_le (by have := HEN.out; omega))
            rw [HT.out] at HG
            have hp5 := HP5.out _ _ HST.out
            have y1 : wr.cell? ⟨p5, 1, none⟩ = some (.slice fo fn fc) := by rw [cell_of_row wr p5 1 _ 86 (0, 0) hp5]; rfl
            clear HT hp5 bw hP hn1 hz1 hno hsz hGr hSt
            go_wp2
            clear y1
            go_loopw [46] (fun y wr => ∃ k : Nat, y = .int .i64 k ∧ k ≤ fn ∧ Hid (∃ R', Gro wr g (.slice (some ⟨g, 0, none⟩) n n) n (rvF i (rvE i (rvK L i) E) (F.take k)) R' ∧ Gst w5 wr (.slice (some ⟨g, 0, none⟩) n n) R R')) (fun y _ => fn - (intOf y).toNat)
            case atStart => exact ⟨0, rfl, Nat.zero_le _, ⟨R1, HG.out, HST.out⟩⟩
            case round =>
              clear HG HST
              obtain ⟨m, rfl, hm, HI⟩ := hrel
              obtain ⟨R2, hGr, hSt⟩ := HI.out
              clear HI
              have HG := hid hGr
              have HST := hid hSt
              obtain ⟨bw, hP, hn1, hz1, hno, hsz⟩ := HKP.out _ _ (HST5.out.trans hSt)
              by_cases hml : m < fn
              · have m3 : (m : Int) < (fn : Int) := by omega
                have m0 : (0 : Int) ≤ (m : Int) := by omega
                have hmF : m < F.length := by have := HFN.out; omega
                obtain ⟨t, hFt⟩ : ∃ t, F[m]? = some t := ⟨_, List.getElem?_eq_getElem hmF⟩
                obtain ⟨d, ed, hdb, u0w⟩ := HFR.out m t hFt
                subst ed
                have htb := HGD.out.gf (u := i) (t := t) ⟨_, HEF.out, List.mem_of_getElem? hFt⟩
                obtain ⟨tn, rfl⟩ : ∃ tn : Nat, t = (tn : Int) := ⟨t.toNat, by omega⟩
                have u0 := (bw.cell (p := d.add m) (by rw [add_blk]; exact hdb)).trans u0w
                obtain ⟨E', F', hM⟩ : ∃ E' F', (rvF i (rvE i (rvK L i) E) (F.take m))[tn]? = some (E', F') := ⟨_, _, List.getElem?_eq_getElem (by rw [rvF_len, rvE_len, rvK_len]; omega)⟩
                have hF' : F'.length ≤ 1000000 := by
                  have h1 := (rv_small HGD.out (k := E.length) (m := m) HEF.out).2
                  have h2 := fS_in (List.mem_of_getElem? hM)
                  have h3 := HFS.out
                  rw [List.take_of_length_le (Nat.le_refl _)] at h1
                  dsimp only at h2
                  omega
                have HFE := hid (free_any g (g + 1) n tn g n _ R2 E' F' (i : Int) wr hP HG.out hno hM hF' (by omega))
                have HCT := hid hFt
                clear hM hF' hFt hdb hmF u0w htb bw hP hn1 hz1 hno hsz hGr hSt
                go_wp2_with fail
                clear u0
                refine HFE.out.mono ?_
                rintro e w7 ⟨rfl, R3, hGr, hSt⟩
                have HG2 := hid hGr
                have HST2 := hid (HST.out.trans hSt)
                clear hGr hSt HFE HST HG
                go_wp2
                go_roundw
                case rel => exact ⟨m + 1, by go_num, by omega, ⟨R3, by rw [rvF_take HCT.out]; exact HG2.out, HST2.out⟩⟩
                case measure => simp [intOf]; omega
              · have m3 : ¬ (m : Int) < (fn : Int) := by omega
                have HT := hid (show F.take m = F from List.take_of_length_le (by have := HFN.out; omega))
                rw [HT.out] at HG
                have HG2 := hid (show Gro wr g (.slice (some ⟨g, 0, none⟩) n n) n (rvK L (i + 1)) R2 by rw [rvK_next HEF.out]; exact HG.out)
                have HST2 := hid (HST5.out.trans HST.out)
                clear HT HG HST bw hP hn1 hz1 hno hsz hGr hSt
                go_wp2
                go_roundw
                case rel => exact ⟨i + 1, by go_num, by omega, ⟨R2, HG2.out, HST2.out⟩⟩
                case measure => simp [intOf]; omega
      · have i3 : ¬ (i : Int) < (n : Int) := by omega
        have hin : i = n := by omega
        subst hin
        have r0 : wr.cell? ⟨g + 1, 0, none⟩ = some (.slice (some ⟨g, 0, none⟩) i i) := by rw [cell_of_row wr (g + 1) 0 _ 72 (0, 0) hP]; rfl
        have c1 : wr.cell? ⟨w.heap.size, 1, none⟩ = some (.int .i64 s) := by rw [cell_of_row wr w.heap.size 1 _ 28 (0, 0) hn1]; rfl
        have c2 : wr.cell? ⟨w.heap.size, 2, none⟩ = some (.int .i64 f) := by rw [cell_of_row wr w.heap.size 2 _ 28 (0, 0) hn1]; rfl
        have z0 := frozen_of_row wr (w.heap.size + 1) 0 _ 28 hz1
        have z1 := frozen_of_row wr (w.heap.size + 1) 1 _ 28 hz1
        have z2 := frozen_of_row wr (w.heap.size + 1) 2 _ 28 hz1
        have y0 : wr.cell? ⟨w.heap.size + 1, 0, none⟩ = some (.slice none 0 0) := by rw [cell_of_row wr (w.heap.size + 1) 0 _ 28 (0, 0) hz1]; rfl
        have y1 : wr.cell? ⟨w.heap.size + 1, 1, none⟩ = some (.int .i64 0) := by rw [cell_of_row wr (w.heap.size + 1) 1 _ 28 (0, 0) hz1]; rfl
        have y2 : wr.cell? ⟨w.heap.size + 1, 2, none⟩ = some (.int .i64 0) := by rw [cell_of_row wr (w.heap.size + 1) 2 _ 28 (0, 0) hz1]; rfl
        have HR := hid hz1
        have HBW := hid bw
        have hgg : w.heap.size + 2 ≤ g := HGP.out
        clear hz1 bw hP hn1 hno
        go_wp2_with fail
        refine wp_region_mix [(0, true), (1, true), (2, true), (3, true), (4, true), (5, true), (6, true), (7, true), (8, true), (9, false)] (fun w' => w'.cell? ⟨g + 1, 0, none⟩ = some (.slice (some ⟨g, 0, none⟩) i i) ∧ w'.cell? ⟨w.heap.size, 1, none⟩ = some (.int .i64 s) ∧ w'.cell? ⟨w.heap.size, 2, none⟩ = some (.int .i64 f)) (fun j => j == 9) (by kernel_rfl) (by kernel_rfl) (fun j hj => by have := beq_iff_eq.1 hj; subst this; decide) rfl (by kernel_rfl) ⟨r0, c1, c2⟩ ?_
        iterate 9 (refine mix_free ?_ rfl (by kernel_rfl) (fun w' hS => ?_) ?_; (rotate_left; (obtain ⟨s1, s2, s3⟩ := hS; go_simp; with_reducible rfl); rotate_left))
        refine mix_go rfl (by kernel_rfl) fun KK hKK => ?_
        go_simp
        refine hKK _ _ (fun h => by cases h) ?_
        clear hKK KK
        refine mix_end (NoPanic.normal ?_)
        go_wp2
        (try simp only [Exit.inBlock, Exit.then])
        have e1 := heap_setCell_same wr (w.heap.size + 1) 0 _ 28 (.slice (some ⟨g, 0, none⟩) i i) HR.out
        have e2 := heap_setCell_same _ (w.heap.size + 1) 1 _ 28 (.int .i64 f) e1
        have e3 := heap_setCell_same _ (w.heap.size + 1) 2 _ 28 (.int .i64 s) e2
        refine bodyPost_ret (results_cell_row rfl _ _ (w.heap.size + 1) 28 #[.slice (some ⟨g, 0, none⟩) i i, .int .i64 f, .int .i64 s] (0, 0) _ rfl e3 Tryd.underlying28 rfl (by kernel_rfl)) rfl ?_
        have hoth : ∀ b, b ≠ w.heap.size + 1 → (((wr.setCell ⟨w.heap.size + 1, 0, none⟩ (.slice (some ⟨g, 0, none⟩) i i)).setCell ⟨w.heap.size + 1, 1, none⟩ (.int .i64 f)).setCell ⟨w.heap.size + 1, 2, none⟩ (.int .i64 s)).heap[b]? = wr.heap[b]? := fun b hb => by
          rw [heap_setCell_other _ ⟨w.heap.size + 1, 2, none⟩ b _ (fun e => hb e), heap_setCell_other _ ⟨w.heap.size + 1, 1, none⟩ b _ (fun e => hb e), heap_setCell_other _ ⟨w.heap.size + 1, 0, none⟩ b _ (fun e => hb e)]
        have hfin : Below w.heap.size w (((wr.setCell ⟨w.heap.size + 1, 0, none⟩ (.slice (some ⟨g, 0, none⟩) i i)).setCell ⟨w.heap.size + 1, 1, none⟩ (.int .i64 f)).setCell ⟨w.heap.size + 1, 2, none⟩ (.int .i64 s)) := HBW.out.trans ⟨rfl, rfl, rfl, by simp, fun b hb => hoth b (by omega)⟩
        have hrv : rvK L i = rv L := by rw [HN.out]; rfl
        refine ⟨g, _, _, _, rv L, R, f, s, rfl, ⟨fun _ => ⟨rfl, rfl, rfl⟩, fun h => by rw [HGB.out] at h; cases h⟩, by omega, (by have h : g ≤ wr.heap.size := (by omega); simpa using h), ?_, hfin.drew⟩
        rw [← hrv]
        exact HG.out.keep2 (by simp) fun k hk _ => hoth k (by omega)
  · rw [hG]
    have hz1 : w2.heap[w.heap.size + 1]? = some (.cells #[.slice none 0 0, .int .i64 0, .int .i64 0] 28) := by rw [HB2.out.block _ (by have := HSZ1.out; omega)]; exact HQ2.out
    have z0 := frozen_of_row w2 (w.heap.size + 1) 0 _ 28 hz1
    have z1 := frozen_of_row w2 (w.heap.size + 1) 1 _ 28 hz1
    have z2 := frozen_of_row w2 (w.heap.size + 1) 2 _ 28 hz1
    have y0 : w2.cell? ⟨w.heap.size + 1, 0, none⟩ = some (.slice none 0 0) := by rw [cell_of_row w2 (w.heap.size + 1) 0 _ 28 (0, 0) hz1]; rfl
    have y1 : w2.cell? ⟨w.heap.size + 1, 1, none⟩ = some (.int .i64 0) := by rw [cell_of_row w2 (w.heap.size + 1) 1 _ 28 (0, 0) hz1]; rfl
    have y2 : w2.cell? ⟨w.heap.size + 1, 2, none⟩ = some (.int .i64 0) := by rw [cell_of_row w2 (w.heap.size + 1) 2 _ 28 (0, 0) hz1]; rfl
    have HR := hid hz1
    have HGB := hid hG
    have HBW := hid (HB1.out.trans (HB2.out.mono HB1.out.size))
    clear hz1 hG d0
    go_wp2
    (try simp only [Exit.inBlock, Exit.then])
    have e1 := heap_setCell_same w2 (w.heap.size + 1) 0 _ 28 (.slice none 0 0) HR.out
    have e2 := heap_setCell_same _ (w.heap.size + 1) 1 _ 28 (.int .i64 0) e1
    have e3 := heap_setCell_same _ (w.heap.size + 1) 2 _ 28 (.int .i64 0) e2
    refine bodyPost_ret (results_cell_row rfl _ _ (w.heap.size + 1) 28 #[.slice none 0 0, .int .i64 0, .int .i64 0] (0, 0) _ rfl e3 Tryd.underlying28 rfl (by kernel_rfl)) rfl ?_
    have hfin : Below w.heap.size w (((w2.setCell ⟨w.heap.size + 1, 0, none⟩ (.slice none 0 0)).setCell ⟨w.heap.size + 1, 1, none⟩ (.int .i64 0)).setCell ⟨w.heap.size + 1, 2, none⟩ (.int .i64 0)) := HBW.out.trans ⟨rfl, rfl, rfl, by simp, fun b hb => by
      rw [heap_setCell_other _ ⟨w.heap.size + 1, 2, none⟩ b _ (fun e => by have e' : b = w.heap.size + 1 := e; omega), heap_setCell_other _ ⟨w.heap.size + 1, 1, none⟩ b _ (fun e => by have e' : b = w.heap.size + 1 := e; omega), heap_setCell_other _ ⟨w.heap.size + 1, 0, none⟩ b _ (fun e => by have e' : b = w.heap.size + 1 := e; omega)]⟩
    exact ⟨w.heap.size, none, 0, 0, [], [], 0, 0, rfl, ⟨fun h => (by rw [HGB.out] at h; cases h), fun _ => ⟨rfl, rfl, rfl⟩⟩, Nat.le_refl _, hfin.size, Gro.nil _ _, hfin⟩
end Go.Proofs.YteacehfihogmpaaDoor
/- The contract of spoil (the laws'): an automaton's rows are written over. -/
namespace Go.Proofs.YteacehfihogmpaaDoor
open Go.RowKit

/-- Rows that may be written over. -/
def SpI (w : World) (B : Nat) (v : Value) (n : Nat) : Prop := n ≤ 1000000 ∧ (n = 0 ∨ ∃ xs, w.ownsRow B 3 1 v n xs)
def SpE (w : World) (B : Nat) (v : Value) (n : Nat) : Prop := n ≤ 1000000 ∧ ∃ RE, w.ownsRow B 88 2 v n RE ∧ ∀ k, k < n → ∃ (co : Option Addr) (cn cc : Nat) (u : Value), RE[k * 2]? = some (.slice co cn cc) ∧ RE[k * 2 + 1]? = some u ∧ SpI w B (.slice co cn cc) cn
def SpS (w : World) (B : Nat) (V : Value) (n : Nat) (R : List Value) : Prop := w.ownsRow B 86 2 V n R ∧ ∀ t, t < n → ∃ (eo : Option Addr) (en ec : Nat) (fo : Option Addr) (fn fc : Nat), R[t * 2]? = some (.slice eo en ec) ∧ R[t * 2 + 1]? = some (.slice fo fn fc) ∧ SpE w B (.slice eo en ec) en ∧ SpI w B (.slice fo fn fc) fn
/-- All blocks stay but those of some types. -/
structure Kty (T : Nat → Bool) (w w' : World) : Prop where
  size : w'.heap.size = w.heap.size
  block : ∀ b : Nat, (∀ (c : Array Value) (e : Nat), w.heap[b]? = some (Obj.cells c e) → T e = false) → w'.heap[b]? = w.heap[b]?
section
variable {w w' w'' : World} {B n : Nat} {v V : Value} {R : List Value} {T : Nat → Bool}
theorem Kty.refl (T : Nat → Bool) (w : World) : Kty T w w := ⟨rfl, fun _ _ => rfl⟩
theorem Kty.trans (h : Kty T w w') (h' : Kty T w' w'') : Kty T w w'' := ⟨h'.size.trans h.size, fun b hb => (h'.block b (fun c e hc => hb c e (by rw [← h.block b hb]; exact hc))).trans (h.block b hb)⟩
theorem Kty.set {g j e : Nat} {c : Array Value} {u : Value} (hg : w.heap[g]? = some (.cells c e)) (hT : T e = true) : Kty T w (w.setCell ⟨g, j, none⟩ u) := ⟨by simp, fun b hb => heap_setCell_other w ⟨g, j, none⟩ b u (fun eb => by
  have h : T e = false := hb c e (by rw [eb]; exact hg)
  rw [hT] at h; cases h)⟩
theorem Kty.row (h : Kty T w w') {b e : Nat} {c : Array Value} (hb : w.heap[b]? = some (.cells c e)) (hT : T e = false) : w'.heap[b]? = some (.cells c e) := (h.block b (fun c' e' hc => by rw [hb] at hc; cases hc; exact hT)).trans hb
theorem Kty.mono {T' : Nat → Bool} (h : Kty T w w') (hT : ∀ e, T e = true → T' e = true) : Kty T' w w' := ⟨h.size, fun b hb => h.block b fun c e hc => by
  have h1 := hb c e hc
  rcases bool_cases (T e) with h2 | h2
  · rw [hT e h2] at h1; cases h1
  · exact h2⟩
theorem own_sets {e sz m : Nat} {xs : List Value} (h : w.ownsRow B e sz v m xs) (g j : Nat) (u : Value) : ∃ xs', (w.setCell ⟨g, j, none⟩ u).ownsRow B e sz v m xs' ∧ ∀ i, i ≠ j → xs'[i]? = xs[i]? := by
  by_cases hv : v.ownBlock = some g
  · obtain ⟨cap, rfl⟩ : ∃ cap, v = .slice (some ⟨g, 0, none⟩) m cap := by
      rcases h.2 with ⟨rfl, _⟩ | ⟨g', cap, cur, rfl, _⟩
      · cases hv
      · have e : g' = g := Option.some.inj hv
        subst e
        exact ⟨cap, rfl⟩
    exact ⟨_, (h.stored j u).1, fun i hi => by rw [List.getElem?_set, if_neg (Ne.symm hi)]⟩
  · exact ⟨xs, own_same h fun k hk _ => heap_setCell_other w ⟨g, j, none⟩ k u (fun e => hv (by rw [hk, e])), fun _ _ => rfl⟩
theorem own_other {e e' sz m g j : Nat} {xs : List Value} {c : Array Value} {u : Value} (h : w.ownsRow B e sz v m xs) (hg : w.heap[g]? = some (.cells c e')) (hne : e ≠ e') : (w.setCell ⟨g, j, none⟩ u).ownsRow B e sz v m xs :=
  own_same h fun k hk _ => heap_setCell_other w ⟨g, j, none⟩ k u (fun ek => by
    obtain ⟨c', hc⟩ := own_type h hk
    have hc' : w.heap[g]? = some (.cells c' e) := by rw [show g = k from ek.symm]; exact hc
    rw [hg] at hc'
    cases hc'
    exact hne rfl)
theorem SpI.set (h : SpI w B v n) (g j : Nat) (u : Value) : SpI (w.setCell ⟨g, j, none⟩ u) B v n := ⟨h.1, by
  rcases h.2 with h0 | ⟨xs, h0⟩
  · exact .inl h0
  · obtain ⟨xs', h1, _⟩ := own_sets h0 g j u
    exact .inr ⟨xs', h1⟩⟩
theorem SpE.set3 (h : SpE w B v n) {g j : Nat} {c : Array Value} (hg : w.heap[g]? = some (.cells c 3)) (u : Value) : SpE (w.setCell ⟨g, j, none⟩ u) B v n := by
  obtain ⟨h0, RE, h1, h2⟩ := h
  refine ⟨h0, RE, own_other h1 hg (by decide), fun k hk => ?_⟩
  obtain ⟨co, cn, cc, x, e1, e2, e3⟩ := h2 k hk
  exact ⟨co, cn, cc, x, e1, e2, e3.set g j u⟩
theorem SpE.set88 (h : SpE w B v n) (g i : Nat) (u : Value) : SpE (w.setCell ⟨g, i * 2 + 1, none⟩ u) B v n := by
  obtain ⟨h0, RE, h1, h2⟩ := h
  obtain ⟨RE', h3, h4⟩ := own_sets h1 g (i * 2 + 1) u
  refine ⟨h0, RE', h3, fun k hk => ?_⟩
  obtain ⟨co, cn, cc, x, e1, e2, e3⟩ := h2 k hk
  have hl : RE'.length = n * 2 := h3.1
  exact ⟨co, cn, cc, _, by rw [h4 (k * 2) (by omega)]; exact e1, List.getElem?_eq_getElem (by omega), e3.set g _ u⟩
theorem SpS.set3 (h : SpS w B V n R) {g j : Nat} {c : Array Value} (hg : w.heap[g]? = some (.cells c 3)) (u : Value) : SpS (w.setCell ⟨g, j, none⟩ u) B V n R := by
  refine ⟨own_other h.1 hg (by decide), fun t ht => ?_⟩
  obtain ⟨eo, en, ec, fo, fn, fc, e1, e2, e3, e4⟩ := h.2 t ht
  exact ⟨eo, en, ec, fo, fn, fc, e1, e2, e3.set3 hg u, e4.set g j u⟩
theorem SpS.set88 (h : SpS w B V n R) {g i : Nat} {c : Array Value} (hg : w.heap[g]? = some (.cells c 88)) (u : Value) : SpS (w.setCell ⟨g, i * 2 + 1, none⟩ u) B V n R := by
  refine ⟨own_other h.1 hg (by decide), fun t ht => ?_⟩
  obtain ⟨eo, en, ec, fo, fn, fc, e1, e2, e3, e4⟩ := h.2 t ht
  exact ⟨eo, en, ec, fo, fn, fc, e1, e2, e3.set88 g i u, e4.set g _ u⟩
theorem SpI.keep (h : SpI w B v n) (hb : ∀ k, k < w.heap.size → w'.heap[k]? = w.heap[k]?) : SpI w' B v n := ⟨h.1, by
  rcases h.2 with h0 | ⟨xs, h0⟩
  · exact .inl h0
  · exact .inr ⟨xs, own_same h0 fun k _ hk => hb k hk⟩⟩
theorem SpS.keep (h : SpS w B V n R) (hb : ∀ k, k < w.heap.size → w'.heap[k]? = w.heap[k]?) : SpS w' B V n R := by
  refine ⟨own_same h.1 fun k _ hk => hb k hk, fun t ht => ?_⟩
  obtain ⟨eo, en, ec, fo, fn, fc, e1, e2, ⟨h0, RE, h1, h2⟩, e4⟩ := h.2 t ht
  refine ⟨eo, en, ec, fo, fn, fc, e1, e2, ⟨h0, RE, own_same h1 fun k _ hk => hb k hk, fun k hk => ?_⟩, e4.keep hb⟩
  obtain ⟨co, cn, cc, x, d1, d2, d3⟩ := h2 k hk
  exact ⟨co, cn, cc, x, d1, d2, d3.keep hb⟩
theorem Gro.spoils {M : List St} (h : Gro w B V n M R) (hb : ∀ s ∈ M, s.1.length ≤ 1000000 ∧ s.2.length ≤ 1000000 ∧ ∀ e ∈ s.1, e.1.length ≤ 1000000) : SpS w B V n R := by
  refine ⟨h.row, fun t ht => ?_⟩
  obtain ⟨s, hs⟩ : ∃ s, M[t]? = some s := ⟨_, List.getElem?_eq_getElem (by have := h.len; omega)⟩
  obtain ⟨b1, b2, b3⟩ := hb s (List.mem_of_getElem? hs)
  obtain ⟨u, hu, RE, ho, hG⟩ := h.slE t s hs
  obtain ⟨x, hx, hF⟩ := h.slF t s hs
  have hsl : ∀ {e sz m : Nat} {x : Value} {xs : List Value}, w.ownsRow B e sz x m xs → ∃ xo xc, x = .slice xo m xc := fun hx => by
    rcases hx.2 with ⟨rfl, rfl⟩ | ⟨g, cap, cur, rfl, _⟩
    · exact ⟨none, 0, rfl⟩
    · exact ⟨_, _, rfl⟩
  obtain ⟨eo, ec, rfl⟩ := hsl ho
  obtain ⟨fo, fc, rfl⟩ := hsl hF
  refine ⟨eo, _, ec, fo, _, fc, hu, hx, ⟨b1, RE, ho, fun k hk => ?_⟩, ⟨b2, .inr ⟨_, hF⟩⟩⟩
  obtain ⟨co, cc, h1, h2, h3, _⟩ := hG k _ (List.getElem?_eq_getElem hk)
  refine ⟨co, _, cc, _, h1, h2, b3 _ (List.getElem_mem hk), ?_⟩
  rcases h3 with h3 | h3
  · exact .inl (by rw [h3]; rfl)
  · exact .inr ⟨_, h3⟩
theorem SpI.form {co : Option Addr} {cn cc j : Nat} (h : SpI w B (.slice co cn cc) cn) (hj : j < cn) : ∃ (q : Nat) (c : Array Value) (u : Value), co = some ⟨q, 0, none⟩ ∧ B ≤ q ∧ w.heap[q]? = some (.cells c 3) ∧ w.cell? ⟨q, j, none⟩ = some u ∧ w.frozen? ⟨q, j, none⟩ = false := by
  rcases h.2 with h0 | ⟨xs, h0⟩
  · omega
  · rcases h0.2 with ⟨e, _⟩ | ⟨q, cap, cur, e, hb, hg, _⟩
    · cases e; omega
    · cases e
      have hl : xs.length = cn * 1 := h0.1
      exact ⟨q, cur, xs[j], rfl, hb, hg, by rw [h0.cellAt j (by omega)]; exact List.getElem?_eq_getElem (by omega), h0.frozenAt j⟩
theorem SpE.form {co : Option Addr} {cn cc k : Nat} (h : SpE w B (.slice co cn cc) cn) (hk : k < cn) : ∃ (q : Nat) (c : Array Value) (eo : Option Addr) (en ec : Nat) (u : Value), co = some ⟨q, 0, none⟩ ∧ B ≤ q ∧ w.heap[q]? = some (.cells c 88) ∧ w.cell? ⟨q, k * 2, none⟩ = some (.slice eo en ec) ∧ w.cell? ⟨q, k * 2 + 1, none⟩ = some u ∧ w.frozen? ⟨q, k * 2 + 1, none⟩ = false ∧ SpI w B (.slice eo en ec) en := by
  obtain ⟨_, RE, h0, h2⟩ := h
  obtain ⟨eo, en, ec, u, e1, e2, e3⟩ := h2 k hk
  rcases h0.2 with ⟨e, _⟩ | ⟨q, cap, cur, e, hb, hg, _⟩
  · cases e; omega
  · cases e
    exact ⟨q, cur, eo, en, ec, u, rfl, hb, hg, by rw [h0.cellAt (k * 2) (by omega)]; exact e1, by rw [h0.cellAt (k * 2 + 1) (by omega)]; exact e2, h0.frozenAt _, e3⟩
end
theorem set_below {w0 w : World} {B g j : Nat} {u : Value} (h : Below B w0 w) (hg : B ≤ g) : Below B w0 (w.setCell ⟨g, j, none⟩ u) := h.trans ⟨rfl, rfl, rfl, by simp, fun k hk => heap_setCell_other w ⟨g, j, none⟩ k u (fun e => by have e' : k = g := e; omega)⟩
set_option maxHeartbeats 16000000 in
set_option maxRecDepth 100000 in
theorem spoil_any (B : Nat) (so : Option Addr) (sc n : Nat) (s f : Int) (R : List Value) (w : World) (h : SpS w B (.slice so n sc) n R) (hn : n ≤ 1000000) (hB : B ≤ w.heap.size) :
    Calls Tryd.prog 16 #[.agg #[.slice so n sc, .int .i64 s, .int .i64 f]] w fun e w' => e = .returned (.tuple #[]) ∧ Below B w w' := by
  have HSP := hid (h.keep (w' := w.alloc (.cells #[.slice so n sc, .int .i64 s, .int .i64 f] 28)) fun k hk => al_old _ _ hk)
  have HB0 := hid ((Below.refl B w).alloc hB (.cells #[.slice so n sc, .int .i64 s, .int .i64 f] 28))
  have HP1 := hid (al_new w (.cells #[.slice so n sc, .int .i64 s, .int .i64 f] 28) rfl)
  clear h
  go_enter Tryd.func16, Tryd.ntmps16
  go_wp2
  go_loopw [2] (fun y wr => ∃ i : Nat, y = .int .i64 i ∧ i ≤ n ∧ Hid (SpS wr B (.slice so n sc) n R) ∧ Hid (Below B w wr) ∧ Hid (wr.heap[w.heap.size]? = some (.cells #[.slice so n sc, .int .i64 s, .int .i64 f] 28))) (fun y _ => n - (intOf y).toNat)
  case atStart => exact ⟨0, rfl, Nat.zero_le _, HSP, HB0, HP1⟩
  case round =>
    clear HSP HB0 HP1
    obtain ⟨i, rfl, hi, HSP, HBW, HP1⟩ := hrel
    have c0 : wr.cell? ⟨w.heap.size, 0, none⟩ = some (.slice so n sc) := by rw [cell_of_row wr w.heap.size 0 _ 28 (0, 0) HP1.out]; rfl
    by_cases hlt : i < n
    · have i3 : (i : Int) < (n : Int) := by omega
      have i0 : (0 : Int) ≤ (i : Int) := by omega
      obtain ⟨eo, en, ec, fo, fn, fc, r0, r1, hE, hF⟩ := HSP.out.2 i hlt
      obtain ⟨g, eg, hgB, hgs, x0, x1⟩ := own2_form HSP.out.1 r0 r1
      subst eg
      have hen : en ≤ 1000000 := hE.1
      have hfn : fn ≤ 1000000 := hF.1
      have HR0 := hid r0
      have HR1 := hid r1
      obtain ⟨p3, hp3⟩ : ∃ p3, p3 = wr.heap.size := ⟨_, rfl⟩
      obtain ⟨w3, hw3⟩ : ∃ w3, w3 = wr.alloc (.cells #[.slice eo en ec, .slice fo fn fc] 86) := ⟨_, rfl⟩
      have HSP3 := hid (HSP.out.keep (w' := w3) fun k hk => by rw [hw3]; exact al_old _ _ hk)
      have HB3 := hid (show Below B w w3 by rw [hw3]; exact HBW.out.alloc (by have := HBW.out.size; omega) _)
      have HP13 := hid (show w3.heap[w.heap.size]? = some (.cells #[.slice (some ⟨g, 0, none⟩) n sc, .int .i64 s, .int .i64 f] 28) by rw [hw3, al_old _ _ (lt_of HP1.out)]; exact HP1.out)
      have HP33 := hid (show w3.heap[p3]? = some (.cells #[.slice eo en ec, .slice fo fn fc] 86) by rw [hw3]; exact al_new _ _ hp3)
      clear hE hF r0 r1 hgB hgs
      go_wp2
      rw [← hw3, ← hp3]
      clear hw3 hp3 c0 x0 x1 HSP HBW HP1
      go_loopw [4] (fun y wr => ∃ k : Nat, y = .int .i64 k ∧ k ≤ en ∧ Hid (SpS wr B (.slice (some ⟨g, 0, none⟩) n sc) n R) ∧ Hid (Below B w wr) ∧ Hid (Kty (fun e => e == 3 || e == 88) w3 wr)) (fun y _ => en - (intOf y).toNat)
      case atStart => exact ⟨0, rfl, Nat.zero_le _, HSP3, HB3, Kty.refl _ _⟩
      case round =>
        clear HSP3 HB3
        obtain ⟨k, rfl, hk, HSP, HBW, HK⟩ := hrel
        have hp3 := HK.out.row HP33.out rfl
        have y0 : wr.cell? ⟨p3, 0, none⟩ = some (.slice eo en ec) := by rw [cell_of_row wr p3 0 _ 86 (0, 0) hp3]; rfl
        by_cases hke : k < en
        · have k3 : (k : Int) < (en : Int) := by omega
          have k0 : (0 : Int) ≤ (k : Int) := by omega
          obtain ⟨eo', en', ec', fo', fn', fc', r0, r1, hE, hF⟩ := HSP.out.2 i hlt
          rw [HR0.out] at r0
          cases r0
          obtain ⟨q, cq, co, cn, cc, u, eq, hqB, hq, z0, z1, z2, hI⟩ := hE.form hke
          subst eq
          have hcn : cn ≤ 1000000 := hI.1
          obtain ⟨w4, hw4⟩ : ∃ w4, w4 = wr := ⟨_, rfl⟩
          rw [← hw4] at HSP HBW HK y0 hq z0 hI hp3 ⊢
          have HQ := hid hq
          have HP3 := hid hp3
          have HIC := hid hI
          have HZ0 := hid z0
          clear z1 z2 hF hE r1 u hw4
          go_wp2
          go_loopw [5] (fun y wr => ∃ j : Nat, y = .int .i64 j ∧ j ≤ cn ∧ Hid (SpS wr B (.slice (some ⟨g, 0, none⟩) n sc) n R) ∧ Hid (Below B w wr) ∧ Hid (Kty (fun e => e == 3) w4 wr) ∧ Hid (SpI wr B (.slice co cn cc) cn)) (fun y _ => cn - (intOf y).toNat)
          case atStart => exact ⟨0, rfl, Nat.zero_le _, HSP, HBW, Kty.refl _ _, HIC⟩
          case round =>
            clear HSP HBW HIC y0 z0 hp3 hq hI
            obtain ⟨j, rfl, hj, HSP, HBW, HK4, HIC⟩ := hrel
            have hp3 := HK4.out.row HP3.out rfl
            have hq := HK4.out.row HQ.out rfl
            have y0 : wr.cell? ⟨p3, 0, none⟩ = some (.slice (some ⟨q, 0, none⟩) en ec) := by rw [cell_of_row wr p3 0 _ 86 (0, 0) hp3]; rfl
            have z0 : wr.cell? ⟨q, k * 2, none⟩ = some (.slice co cn cc) := (World.cell?_of_block (a := ⟨q, k * 2, none⟩) (show wr.heap[q]? = w4.heap[q]? from hq.trans HQ.out.symm)).trans HZ0.out
            by_cases hjc : j < cn
            · have j3 : (j : Int) < (cn : Int) := by omega
              have j0 : (0 : Int) ≤ (j : Int) := by omega
              obtain ⟨q2, c2, u2, eq2, hqB2, hq2, y1, y2⟩ := HIC.out.form hjc
              subst eq2
              have HA := hid (HSP.out.set3 (j := j) hq2 (.int .i64 (-7)))
              have HBb := hid (set_below (j := j) (u := .int .i64 (-7)) HBW.out hqB2)
              have HC := hid (HK4.out.trans (Kty.set (T := fun e => e == 3) (j := j) (u := .int .i64 (-7)) hq2 rfl))
              have HD := hid (HIC.out.set q2 j (.int .i64 (-7)))
              clear HSP HBW HK4 HIC hq2 hqB2 hp3 hq
              go_wp2
              go_roundw
              case rel => exact ⟨j + 1, by go_num, by omega, HA, HBb, HC, HD⟩
              case measure => simp [intOf]; omega
            · have j3 : ¬ (j : Int) < (cn : Int) := by omega
              obtain ⟨eo', en', ec', fo', fn', fc', r0, r1, hE, hF⟩ := HSP.out.2 i hlt
              rw [HR0.out] at r0
              cases r0
              obtain ⟨q', cq', co', cn', cc', u, eq', hqB', hq', zz, z1, z2, _⟩ := hE.form hke
              cases eq'
              have HA := hid (HSP.out.set88 (i := k) hq' (.int .i64 (-7)))
              have HBb := hid (set_below (j := k * 2 + 1) (u := .int .i64 (-7)) HBW.out hqB')
              have HC := hid (HK.out.trans ((HK4.out.mono (T' := fun e => e == 3 || e == 88) (fun e he => by simp at he ⊢; omega)).trans (Kty.set (T := fun e => e == 3 || e == 88) (j := k * 2 + 1) (u := .int .i64 (-7)) hq' rfl)))
              clear HSP HBW HK4 HIC hq' hqB' hp3 hq hE hF r1 zz hjc
              go_wp2
              go_roundw
              case rel => exact ⟨k + 1, by go_num, by omega, HA, HBb, HC⟩
              case measure => simp [intOf]; omega
        · have k3 : ¬ (k : Int) < (en : Int) := by omega
          obtain ⟨eo', en', ec', fo', fn', fc', r0, r1, hE, hF⟩ := HSP.out.2 i hlt
          rw [HR1.out] at r1
          cases r1
          obtain ⟨w4, hw4⟩ : ∃ w4, w4 = wr := ⟨_, rfl⟩
          rw [← hw4] at HSP HBW HK y0 hp3 hF ⊢
          have HP3 := hid hp3
          have HIC := hid hF
          have y1 : w4.cell? ⟨p3, 1, none⟩ = some (.slice fo fn fc) := by rw [cell_of_row w4 p3 1 _ 86 (0, 0) hp3]; rfl
          clear hw4 hE hF r0 hp3
          go_wp2
          go_loopw [6] (fun y wr => ∃ j : Nat, y = .int .i64 j ∧ j ≤ fn ∧ Hid (SpS wr B (.slice (some ⟨g, 0, none⟩) n sc) n R) ∧ Hid (Below B w wr) ∧ Hid (Kty (fun e => e == 3) w4 wr) ∧ Hid (SpI wr B (.slice fo fn fc) fn)) (fun y _ => fn - (intOf y).toNat)
          case atStart => exact ⟨0, rfl, Nat.zero_le _, HSP, HBW, Kty.refl _ _, HIC⟩
          case round =>
            clear HSP HBW HIC y0 y1
            obtain ⟨j, rfl, hj, HSP, HBW, HK4, HIC⟩ := hrel
            have hp3 := HK4.out.row HP3.out rfl
            have y1 : wr.cell? ⟨p3, 1, none⟩ = some (.slice fo fn fc) := by rw [cell_of_row wr p3 1 _ 86 (0, 0) hp3]; rfl
            by_cases hjc : j < fn
            · have j3 : (j : Int) < (fn : Int) := by omega
              have j0 : (0 : Int) ≤ (j : Int) := by omega
              obtain ⟨q2, c2, u2, eq2, hqB2, hq2, y3, y2⟩ := HIC.out.form hjc
              subst eq2
              have HA := hid (HSP.out.set3 (j := j) hq2 (.int .i64 (-7)))
              have HBb := hid (set_below (j := j) (u := .int .i64 (-7)) HBW.out hqB2)
              have HC := hid (HK4.out.trans (Kty.set (T := fun e => e == 3) (j := j) (u := .int .i64 (-7)) hq2 rfl))
              have HD := hid (HIC.out.set q2 j (.int .i64 (-7)))
              clear HSP HBW HK4 HIC hq2 hqB2 hp3
              go_wp2
              go_roundw
              case rel => exact ⟨j + 1, by go_num, by omega, HA, HBb, HC, HD⟩
              case measure => simp [intOf]; omega
            · have j3 : ¬ (j : Int) < (fn : Int) := by omega
              have HP := hid (show wr.heap[w.heap.size]? = some (.cells #[.slice (some ⟨g, 0, none⟩) n sc, .int .i64 s, .int .i64 f] 28) from HK4.out.row (HK.out.row HP13.out rfl) rfl)
              clear HK4 HIC hp3 hjc
              go_wp2
              go_roundw
              case rel => exact ⟨i + 1, by go_num, by omega, HSP, HBW, HP⟩
              case measure => simp [intOf]; omega
    · have i3 : ¬ (i : Int) < (n : Int) := by omega
      go_wp2
      go_end0
      exact ⟨rfl, HBW.out⟩
end Go.Proofs.YteacehfihogmpaaDoor
/- What the laws on automata share: small ones have short lists; Takes told by what is taken; operations whose guard is false. -/
namespace Go.Proofs.YteacehfihogmpaaDoor
open Go.RowKit

theorem wid_len {L : List St} (h : wdb L = false) : ∀ x ∈ L, x.1.length ≤ 1000000 ∧ x.2.length ≤ 1000000 ∧ ∀ e ∈ x.1, e.1.length ≤ 1000000 := fun x hx => by
  have h1 := (wdb_small h).2
  have h2 := wS_in hx
  unfold wS at h2
  refine ⟨by omega, by omega, fun e he => ?_⟩
  rw [List.take_of_length_le (by omega)] at h2
  have := wE_in he
  omega
theorem TakA.tk {w w' : World} {L : List St} {s f : Int} {c : List Int} {e : Ending} (h : TakA w L s f c e w') (hg : gdB L s f = true) : e = .returned (.bool (Go.Proofs.YteacehfihogmpaaDoor.tk L s f c)) ∧ Below w.heap.size w w' := by
  obtain ⟨E, h1, h2, h3⟩ := h
  have h4 := h2.yes ⟨hg, by omega, by omega⟩
  exact ⟨by rw [h1, tk_last h4], h3⟩
section
variable {P : Program} {ops : Array Oper} {Q : Exit → Act → World → Prop} {S : World → Prop} {fin : Nat → Bool} {o : Oper} {k : Nat} {r : List (Nat × Bool)} {a : Act} {w : World}
/-- An operation whose guard is false, and whose slot is empty as yet. -/
theorem mix_pass0 (h0 : ops[k]? = some o) (hw : Region.wanted o (yielded ops a.tmps) = false) (he : a.put o.dst undef = a) (h2 : wpMix P ops Q S fin r a w) : wpMix P ops Q S fin ((k, true) :: r) a w :=
  mix_pass h0 hw (by rw [he]; exact h2)
theorem mix_skip0 (h0 : ops[k]? = some o) (hw : Region.wanted o (yielded ops a.tmps) = false) (he : a.put o.dst undef = a) (hS : fin k = false → S w) (h2 : wpMix P ops Q S fin r a w) : wpMix P ops Q S fin ((k, false) :: r) a w :=
  ⟨o, h0, by rw [if_neg (by rw [hw]; decide), he]; exact ⟨hS, h2⟩⟩
end
end Go.Proofs.YteacehfihogmpaaDoor
/- Two automata joined, as lists: either, and one behind the other: what they take. -/
namespace Go.Proofs.YteacehfihogmpaaDoor

/-- Edges, numbers, states moved by a number. -/
def mvE (k : Int) (E : List Ed) : List Ed := E.map fun e => (e.1, e.2 + k)
def mvF (k : Int) (F : List Int) : List Int := F.map fun t => t + k
def mv (k : Int) (L : List St) : List St := L.map fun s => (mvE k s.1, mvF k s.2)
theorem mv_len (k : Int) (L : List St) : (mv k L).length = L.length := by simp [mv]
theorem mv_at (k : Int) (L : List St) (u : Nat) : (mv k L)[u]? = (L[u]?).map fun s => (mvE k s.1, mvF k s.2) := by simp [mv]
theorem ge_mv (k : Int) (L : List St) (u : Nat) (C : List Int) (t : Int) : Ge (mv k L) u (C, t) ↔ ∃ t', t = t' + k ∧ Ge L u (C, t') := by
  unfold Ge
  rw [mv_at]
  constructor
  · rintro ⟨s, h1, h2⟩
    obtain ⟨x, h3, rfl⟩ := Option.map_eq_some_iff.1 h1
    obtain ⟨e, h4, h5⟩ := List.mem_map.1 (show (C, t) ∈ x.1.map (fun e => (e.1, e.2 + k)) from h2)
    simp only [Prod.mk.injEq] at h5
    exact ⟨e.2, h5.2.symm, x, h3, by rw [← h5.1]; exact h4⟩
  · rintro ⟨t', rfl, x, h1, h2⟩
    exact ⟨_, by rw [h1]; rfl, List.mem_map.2 ⟨_, h2, rfl⟩⟩
theorem gf_mv (k : Int) (L : List St) (u : Nat) (t : Int) : Gf (mv k L) u t ↔ ∃ t', t = t' + k ∧ Gf L u t' := by
  unfold Gf
  rw [mv_at]
  constructor
  · rintro ⟨s, h1, h2⟩
    obtain ⟨x, h3, rfl⟩ := Option.map_eq_some_iff.1 h1
    obtain ⟨e, h4, h5⟩ := List.mem_map.1 (show t ∈ x.2.map (fun t => t + k) from h2)
    exact ⟨e, h5.symm, x, h3, h4⟩
  · rintro ⟨t', rfl, x, h1, h2⟩
    exact ⟨_, by rw [h1]; rfl, List.mem_map.2 ⟨_, h2, rfl⟩⟩
theorem ge_app (L M : List St) (u : Nat) (x : Ed) : Ge (L ++ M) u x ↔ Ge L u x ∨ (L.length ≤ u ∧ Ge M (u - L.length) x) := by
  unfold Ge
  by_cases h : u < L.length
  · rw [List.getElem?_append_left h]
    constructor
    · exact .inl
    · rintro (h1 | ⟨h1, _⟩)
      · exact h1
      · omega
  · rw [List.getElem?_append_right (by omega)]
    constructor
    · intro h1; exact .inr ⟨by omega, h1⟩
    · rintro (⟨s, h1, _⟩ | ⟨_, h1⟩)
      · have := (List.getElem?_eq_some_iff.1 h1).1; omega
      · exact h1
theorem gf_app (L M : List St) (u : Nat) (x : Int) : Gf (L ++ M) u x ↔ Gf L u x ∨ (L.length ≤ u ∧ Gf M (u - L.length) x) := by
  unfold Gf
  by_cases h : u < L.length
  · rw [List.getElem?_append_left h]
    constructor
    · exact .inl
    · rintro (h1 | ⟨h1, _⟩)
      · exact h1
      · omega
  · rw [List.getElem?_append_right (by omega)]
    constructor
    · intro h1; exact .inr ⟨by omega, h1⟩
    · rintro (⟨s, h1, _⟩ | ⟨_, h1⟩)
      · have := (List.getElem?_eq_some_iff.1 h1).1; omega
      · exact h1
/-- A part of an automaton that reads as another, moved: what leads out of it is given besides. -/
structure Emb (J A : List St) (k : Int) (Out : Int → Int → Prop) : Prop where
  edge : ∀ (x : Int) (C : List Int) (t : Int), 0 ≤ x → x < A.length → (Ge J (x + k).toNat (C, t) ↔ ∃ t', t = t' + k ∧ Ge A x.toNat (C, t'))
  free : ∀ (x : Int) (t : Int), 0 ≤ x → x < A.length → (Gf J (x + k).toNat t ↔ (∃ t', t = t' + k ∧ Gf A x.toNat t') ∨ Out x t)
theorem Emb.up {J A : List St} {k : Int} {Out : Int → Int → Prop} {s f : Int} (h : Emb J A k Out) (hg : Gdd A s f) {x y : Int} {c : List Int} (hp : Pth A x c y) : 0 ≤ x → x < A.length → Pth J (x + k) c (y + k) := by
  induction hp with
  | nil x => exact fun _ _ => .nil _
  | @free x y z c h1 _ ih =>
    intro h2 h3
    have h4 := hg.gf h1
    exact .free ((h.free x (y + k) h2 h3).2 (.inl ⟨y, rfl, h1⟩)) (ih h4.1 h4.2)
  | @edge x y z a C c h1 ha _ ih =>
    intro h2 h3
    have h4 := hg.ge h1
    exact .edge ((h.edge x C (y + k) h2 h3).2 ⟨y, rfl, h1⟩) ha (ih h4.1 h4.2)
/-- A way that begins in the part: it stays there, or leaves it. -/
theorem Emb.down {J A : List St} {k : Int} {Out : Int → Int → Prop} {s f : Int} (h : Emb J A k Out) (hg : Gdd A s f) {p z : Int} {e : List Int} (hp : Pth J p e z) : ∀ x, p = x + k → 0 ≤ x → x < A.length → (∃ y, z = y + k ∧ Pth A x e y) ∨ ∃ c d y q, e = c ++ d ∧ Pth A x c y ∧ 0 ≤ y ∧ y < (A.length : Int) ∧ Out y q ∧ Pth J q d z := by
  induction hp with
  | nil p => intro x hx _ _; exact .inl ⟨x, hx, .nil x⟩
  | @free p q z c h1 h2 ih =>
    intro x hx h3 h4
    subst hx
    rcases (h.free x q h3 h4).1 h1 with ⟨t', rfl, h5⟩ | h5
    · have h6 := hg.gf h5
      rcases ih t' rfl h6.1 h6.2 with ⟨y, h7, h8⟩ | ⟨c1, d, y, q, h7, h8, h9, h10⟩
      · exact .inl ⟨y, h7, .free h5 h8⟩
      · exact .inr ⟨c1, d, y, q, h7, .free h5 h8, h9, h10⟩
    · exact .inr ⟨[], c, x, q, rfl, .nil x, h3, h4, h5, h2⟩
  | @edge p q z a C c h1 ha h2 ih =>
    intro x hx h3 h4
    subst hx
    obtain ⟨t', rfl, h5⟩ := (h.edge x C q h3 h4).1 h1
    have h6 := hg.ge h5
    rcases ih t' rfl h6.1 h6.2 with ⟨y, h7, h8⟩ | ⟨c1, d, y, q, h7, h8, h9, h10⟩
    · exact .inl ⟨y, h7, .edge h5 ha h8⟩
    · exact .inr ⟨a :: c1, d, y, q, by rw [h7]; rfl, .edge h5 ha h8, h9, h10⟩
theorem Gdd.path {A : List St} {s f : Int} (hg : Gdd A s f) {x y : Int} {c : List Int} (hp : Pth A x c y) : 0 ≤ x → x < A.length → 0 ≤ y ∧ y < (A.length : Int) := by
  induction hp with
  | nil x => exact fun h1 h2 => ⟨h1, h2⟩
  | free h1 _ ih => intro _ _; have h4 := hg.gf h1; exact ih h4.1 h4.2
  | edge h1 _ _ ih => intro _ _; have h4 := hg.ge h1; exact ih h4.1 h4.2
/-- One behind the other. -/
def thn (A : List St) (fa : Int) (B : List St) (sb : Int) : List St := adF (mv 0 A ++ mv A.length B) fa.toNat (sb + A.length)
/-- Either. -/
def orl (A : List St) (sa fa : Int) (B : List St) (sb fb : Int) : List St :=
  adF (adF ([([], [sa + 1, sb + (1 + A.length)])] ++ mv 1 A ++ mv (1 + A.length) B ++ [([], [])]) (fa + 1).toNat (1 + A.length + B.length)) (fb + (1 + A.length)).toNat (1 + A.length + B.length)
theorem tk_pth {L : List St} {s f : Int} {c : List Int} : tk L s f c = true ↔ Pth L s c f := by
  rw [tk_iff, rd_pth]
  exact ⟨fun ⟨x, e, h⟩ => e ▸ h, fun h => ⟨s, rfl, h⟩⟩
section
variable {A B : List St} {sa fa sb fb : Int}
theorem thn_a (ha : Gdd A sa fa) : Emb (thn A fa B sb) A 0 (fun x t => x = fa ∧ t = sb + A.length) := by
  have hf := ha.fi
  refine ⟨fun x C t h1 h2 => ?_, fun x t h1 h2 => ?_⟩
  · unfold thn
    rw [ge_adF, ge_app, mv_len, ge_mv]
    constructor
    · rintro (h | ⟨h, _⟩)
      · simpa using h
      · omega
    · intro h; exact .inl (by simpa using h)
  · unfold thn
    rw [gf_adF, gf_app, mv_len, gf_mv]
    constructor
    · rintro ((h | ⟨h, _⟩) | ⟨h3, _, h4⟩)
      · exact .inl (by simpa using h)
      · omega
      · exact .inr ⟨by omega, h4⟩
    · rintro (h | ⟨h3, h4⟩)
      · exact .inl (.inl (by simpa using h))
      · exact .inr ⟨by rw [h3]; simp, by simp only [List.length_append, mv_len]; omega, h4⟩
theorem thn_b (ha : Gdd A sa fa) : Emb (thn A fa B sb) B A.length (fun _ _ => False) := by
  have hf := ha.fi
  refine ⟨fun x C t h1 h2 => ?_, fun x t h1 h2 => ?_⟩
  · unfold thn
    rw [ge_adF, ge_app, mv_len, ge_mv]
    constructor
    · rintro (⟨_, _, h⟩ | ⟨_, h⟩)
      · have := h.lt; omega
      · rw [ge_mv] at h
        rwa [show (x + (A.length : Int)).toNat - A.length = x.toNat by omega] at h
    · intro h
      refine .inr ⟨by omega, ?_⟩
      rw [ge_mv, show (x + (A.length : Int)).toNat - A.length = x.toNat by omega]
      exact h
  · unfold thn
    rw [gf_adF, gf_app, mv_len, gf_mv]
    constructor
    · rintro ((⟨_, _, h⟩ | ⟨_, h⟩) | ⟨h, _⟩)
      · have := h.lt; omega
      · rw [gf_mv] at h
        rw [show (x + (A.length : Int)).toNat - A.length = x.toNat by omega] at h
        exact .inl h
      · omega
    · rintro (h | h)
      · refine .inl (.inr ⟨by omega, ?_⟩)
        rw [gf_mv, show (x + (A.length : Int)).toNat - A.length = x.toNat by omega]
        exact h
      · exact h.elim
theorem tk_thn (ha : gdB A sa fa = true) (hb : gdB B sb fb = true) (c : List Int) : tk (thn A fa B sb) sa (fb + A.length) c = true ↔ ∃ k, k ≤ c.length ∧ tk A sa fa (c.take k) = true ∧ tk B sb fb (c.drop k) = true := by
  have ga := gdd_of ha
  have gb := gdd_of hb
  have ea := thn_a (B := B) (sb := sb) ga
  have eb := thn_b (B := B) (sb := sb) ga
  have sta := ga.st
  have stb := gb.st
  simp only [tk_pth]
  constructor
  · intro h
    rcases ea.down ga h sa (by omega) sta.1 sta.2 with ⟨y, h1, h2⟩ | ⟨c1, d, y, q, h1, h2, h3, h4, ⟨rfl, rfl⟩, h6⟩
    · have := ga.path h2 sta.1 sta.2
      have := gb.fi
      omega
    · rcases eb.down gb h6 sb rfl stb.1 stb.2 with ⟨y, h7, h8⟩ | ⟨_, _, _, _, _, _, _, _, h7, _⟩
      · obtain rfl : y = fb := by omega
        exact ⟨c1.length, by rw [h1]; simp, by rw [h1]; simpa using h2, by rw [h1]; simpa using h8⟩
      · exact h7.elim
  · rintro ⟨k, _, h1, h2⟩
    have h3 := ea.up ga h1 sta.1 sta.2
    have h4 := eb.up gb h2 stb.1 stb.2
    have h5 : Pth (thn A fa B sb) (fa + 0) [] (sb + A.length) := .free ((ea.free fa _ ga.fi.1 ga.fi.2).2 (.inr ⟨rfl, rfl⟩)) (.nil _)
    have h6 := (h3.trans h5).trans h4
    simpa using h6
theorem orl_zero (u : Nat) (hu : u = 0) (ha : Gdd A sa fa) (hb : Gdd B sb fb) : (∀ g, ¬ Ge (orl A sa fa B sb fb) u g) ∧ ∀ t, Gf (orl A sa fa B sb fb) u t ↔ t = sa + 1 ∨ t = sb + (1 + A.length) := by
  subst hu
  have h1 := ha.fi
  have h2 := hb.fi
  refine ⟨fun g hg => ?_, fun t => ?_⟩
  · unfold orl at hg
    rw [ge_adF, ge_adF] at hg
    obtain ⟨s, h3, h4⟩ := hg
    simp at h3
    subst h3
    simp at h4
  · unfold orl
    rw [gf_adF, gf_adF]
    constructor
    · rintro ((⟨s, h3, h4⟩ | ⟨h3, _⟩) | ⟨h3, _⟩)
      · simp at h3
        subst h3
        simpa using h4
      · omega
      · omega
    · intro h
      exact .inl (.inl ⟨([], [sa + 1, sb + (1 + A.length)]), by simp, by simpa using h⟩)
theorem orl_last (u : Nat) (hu : u = 1 + A.length + B.length) (ha : Gdd A sa fa) (hb : Gdd B sb fb) : (∀ g, ¬ Ge (orl A sa fa B sb fb) u g) ∧ ∀ t, ¬ Gf (orl A sa fa B sb fb) u t := by
  subst hu
  have h1 := ha.fi
  have h2 := hb.fi
  have hlen : ([([], [sa + 1, sb + (1 + A.length)])] ++ mv 1 A ++ mv (1 + A.length) B : List St).length = 1 + A.length + B.length := by simp only [List.length_append, mv_len, List.length_cons, List.length_nil]
  refine ⟨fun g hg => ?_, fun t ht => ?_⟩
  · unfold orl at hg
    rw [ge_adF, ge_adF, ge_app] at hg
    rcases hg with h | ⟨_, s, h3, h4⟩
    · have := h.lt; omega
    · rw [hlen] at h3
      simp at h3
      subst h3
      simp at h4
  · unfold orl at ht
    rw [gf_adF, gf_adF, gf_app] at ht
    rcases ht with (h | ⟨_, s, h3, h4⟩) | ⟨h3, _⟩
    · rcases h with h | ⟨_, s, h3, h4⟩
      · have := h.lt; omega
      · rw [hlen] at h3
        simp at h3
        subst h3
        simp at h4
    · omega
    · omega
theorem orl_a (ha : Gdd A sa fa) (hb : Gdd B sb fb) : Emb (orl A sa fa B sb fb) A 1 (fun x t => x = fa ∧ t = 1 + A.length + B.length) := by
  have hf := ha.fi
  have hfb := hb.fi
  have hlen : ([([], [sa + 1, sb + (1 + A.length)])] ++ mv 1 A : List St).length = 1 + A.length := by simp only [List.length_append, mv_len, List.length_cons, List.length_nil]
  refine ⟨fun x C t h1 h2 => ?_, fun x t h1 h2 => ?_⟩
  · have key : Ge (mv 1 A) ((x + 1).toNat - 1) (C, t) ↔ ∃ t', t = t' + 1 ∧ Ge A x.toNat (C, t') := by
      rw [ge_mv, show (x + 1).toNat - 1 = x.toNat by omega]
    unfold orl
    rw [ge_adF, ge_adF, ge_app, ge_app, ge_app]
    constructor
    · rintro (((h | ⟨_, h⟩) | ⟨h, _⟩) | ⟨h, _⟩)
      · have := h.lt; simp at this; omega
      · exact key.1 h
      · rw [hlen] at h; omega
      · rw [List.length_append, hlen] at h; omega
    · intro h
      exact .inl (.inl (.inr ⟨by simp; omega, key.2 h⟩))
  · have key : Gf (mv 1 A) ((x + 1).toNat - 1) t ↔ ∃ t', t = t' + 1 ∧ Gf A x.toNat t' := by
      rw [gf_mv, show (x + 1).toNat - 1 = x.toNat by omega]
    unfold orl
    rw [gf_adF, gf_adF, gf_app, gf_app, gf_app]
    constructor
    · rintro (((((h | ⟨_, h⟩) | ⟨h, _⟩) | ⟨h, _⟩) | ⟨h3, _, h4⟩) | ⟨h, _⟩)
      · have := h.lt; simp at this; omega
      · exact .inl (key.1 h)
      · rw [hlen] at h; omega
      · rw [List.length_append, hlen] at h; omega
      · exact .inr ⟨by omega, h4⟩
      · omega
    · rintro (h | ⟨h3, h4⟩)
      · exact .inl (.inl (.inl (.inl (.inr ⟨by simp; omega, key.2 h⟩))))
      · exact .inl (.inr ⟨by rw [h3], by simp only [List.length_append, mv_len, List.length_cons, List.length_nil]; omega, h4⟩)
theorem orl_b (ha : Gdd A sa fa) (hb : Gdd B sb fb) : Emb (orl A sa fa B sb fb) B (1 + A.length) (fun x t => x = fb ∧ t = 1 + A.length + B.length) := by
  have hf := ha.fi
  have hfb := hb.fi
  have hlen : ([([], [sa + 1, sb + (1 + A.length)])] ++ mv 1 A : List St).length = 1 + A.length := by simp only [List.length_append, mv_len, List.length_cons, List.length_nil]
  refine ⟨fun x C t h1 h2 => ?_, fun x t h1 h2 => ?_⟩
  · have key : Ge (mv (1 + A.length) B) ((x + (1 + A.length)).toNat - (1 + A.length)) (C, t) ↔ ∃ t', t = t' + (1 + A.length) ∧ Ge B x.toNat (C, t') := by
      rw [ge_mv, show (x + (1 + (A.length : Int))).toNat - (1 + A.length) = x.toNat by omega]
    unfold orl
    rw [ge_adF, ge_adF, ge_app, ge_app]
    constructor
    · rintro ((h | ⟨_, h⟩) | ⟨h, _⟩)
      · have := h.lt; rw [hlen] at this; omega
      · rw [hlen] at h; exact key.1 h
      · rw [List.length_append, hlen, mv_len] at h; omega
    · intro h
      exact .inl (.inr ⟨by rw [hlen]; omega, by rw [hlen]; exact key.2 h⟩)
  · have key : Gf (mv (1 + A.length) B) ((x + (1 + A.length)).toNat - (1 + A.length)) t ↔ ∃ t', t = t' + (1 + A.length) ∧ Gf B x.toNat t' := by
      rw [gf_mv, show (x + (1 + (A.length : Int))).toNat - (1 + A.length) = x.toNat by omega]
    unfold orl
    rw [gf_adF, gf_adF, gf_app, gf_app]
    constructor
    · rintro ((((h | ⟨_, h⟩) | ⟨h, _⟩) | ⟨h3, _, h4⟩) | ⟨h3, _, h4⟩)
      · have := h.lt; rw [hlen] at this; omega
      · rw [hlen] at h; exact .inl (key.1 h)
      · rw [List.length_append, hlen, mv_len] at h; omega
      · omega
      · exact .inr ⟨by omega, h4⟩
    · rintro (h | ⟨h3, h4⟩)
      · exact .inl (.inl (.inl (.inr ⟨by rw [hlen]; omega, by rw [hlen]; exact key.2 h⟩)))
      · exact .inr ⟨by rw [h3], by rw [adF_len]; simp only [List.length_append, mv_len, List.length_cons, List.length_nil]; omega, h4⟩
theorem tk_orl (ha : gdB A sa fa = true) (hb : gdB B sb fb = true) (c : List Int) : tk (orl A sa fa B sb fb) 0 (1 + A.length + B.length) c = (tk A sa fa c || tk B sb fb c) := by
  have ga := gdd_of ha
  have gb := gdd_of hb
  have ea := orl_a ga gb
  have eb := orl_b ga gb
  have sta := ga.st
  have stb := gb.st
  have fia := ga.fi
  have fib := gb.fi
  rw [Bool.eq_iff_iff, Bool.or_eq_true, tk_pth, tk_pth, tk_pth]
  have endp : ∀ {p z : Int} {d : List Int}, Pth (orl A sa fa B sb fb) p d z → p = 1 + A.length + B.length → d = [] := by
    intro p z d h
    induction h with
    | nil => exact fun _ => rfl
    | free h1 _ _ => intro e; exact absurd h1 ((orl_last _ (by omega) ga gb).2 _)
    | edge h1 _ _ _ => intro e; exact absurd h1 ((orl_last _ (by omega) ga gb).1 _)
  constructor
  · intro h
    generalize hp0 : (0 : Int) = p0 at h
    generalize hz0 : ((1 : Int) + A.length + B.length) = z0 at h
    cases h with
    | nil => omega
    | edge h1 _ _ => exact absurd h1 ((orl_zero _ (by omega) ga gb).1 _)
    | @free _ y _ _ h1 h2 =>
      subst hz0
      rcases ((orl_zero _ (by omega) ga gb).2 y).1 h1 with rfl | rfl
      · rcases ea.down ga h2 sa rfl sta.1 sta.2 with ⟨y, h3, h4⟩ | ⟨c1, d, y, q, h3, h4, _, _, ⟨rfl, rfl⟩, h6⟩
        · have := ga.path h4 sta.1 sta.2
          omega
        · rw [endp h6 rfl] at h3
          rw [h3]
          exact .inl (by simpa using h4)
      · rcases eb.down gb h2 sb rfl stb.1 stb.2 with ⟨y, h3, h4⟩ | ⟨c1, d, y, q, h3, h4, _, _, ⟨rfl, rfl⟩, h6⟩
        · have := gb.path h4 stb.1 stb.2
          omega
        · rw [endp h6 rfl] at h3
          rw [h3]
          exact .inr (by simpa using h4)
  · rintro (h | h)
    · have h3 := ea.up ga h sta.1 sta.2
      have h5 : Pth (orl A sa fa B sb fb) (fa + 1) [] (1 + A.length + B.length) := .free ((ea.free fa _ fia.1 fia.2).2 (.inr ⟨rfl, rfl⟩)) (.nil _)
      exact .free (((orl_zero _ (by omega) ga gb).2 _).2 (.inl rfl)) (by simpa using h3.trans h5)
    · have h3 := eb.up gb h stb.1 stb.2
      have h5 : Pth (orl A sa fa B sb fb) (fb + (1 + A.length)) [] (1 + A.length + B.length) := .free ((eb.free fb _ fib.1 fib.2).2 (.inr ⟨rfl, rfl⟩)) (.nil _)
      exact .free (((orl_zero _ (by omega) ga gb).2 _).2 (.inr rfl)) (by simpa using h3.trans h5)
end
theorem gdB_ge {L : List St} {s f : Int} (hl : L.length ≤ 4096) (hs : 0 ≤ s ∧ s < L.length) (hf : 0 ≤ f ∧ f < L.length) (hE : ∀ u C t, Ge L u (C, t) → (0 ≤ t ∧ t < (L.length : Int)) ∧ rs (-1) C = true) (hF : ∀ u t, Gf L u t → 0 ≤ t ∧ t < (L.length : Int)) : gdB L s f = true := by
  refine gdB_of ⟨hl, hs, hf, fun x hx => ?_⟩
  obtain ⟨u, hu⟩ := List.mem_iff_getElem?.1 hx
  unfold fmd
  rw [edg_of fun e he => ?_, fre_of fun t ht => ?_]
  · rfl
  · exact wn_iff.2 (hF u t ⟨x, hu, ht⟩)
  · obtain ⟨h1, h2⟩ := hE u e.1 e.2 ⟨x, hu, he⟩
    exact ⟨wn_iff.2 h1, h2⟩
theorem Gdd.rise {L : List St} {s f : Int} (h : Gdd L s f) {u : Nat} {C : List Int} {t : Int} (hg : Ge L u (C, t)) : rs (-1) C = true := by
  obtain ⟨x, h1, h2⟩ := hg
  have h4 := h.all x (List.mem_of_getElem? h1)
  unfold fmd at h4
  simp only [Bool.and_eq_true] at h4
  exact (edg_all h4.1 _ h2).2
section
variable {A B : List St} {sa fa sb fb : Int}
theorem thn_len : (thn A fa B sb).length = A.length + B.length := by unfold thn; rw [adF_len, List.length_append, mv_len, mv_len]
theorem orl_len : (orl A sa fa B sb fb).length = 1 + A.length + B.length + 1 := by
  unfold orl
  rw [adF_len, adF_len]
  simp only [List.length_append, mv_len, List.length_cons, List.length_nil]
theorem gd_thn (ha : gdB A sa fa = true) (hb : gdB B sb fb = true) (hl : A.length + B.length ≤ 4096) : gdB (thn A fa B sb) sa (fb + A.length) = true := by
  have ga := gdd_of ha
  have gb := gdd_of hb
  have sta := ga.st
  have stb := gb.st
  have fib := gb.fi
  refine gdB_ge (by rw [thn_len]; exact hl) (by rw [thn_len]; omega) (by rw [thn_len]; omega) (fun u C t h => ?_) (fun u t h => ?_)
  · rw [thn_len]
    unfold thn at h
    rw [ge_adF, ge_app, ge_mv] at h
    rcases h with ⟨t', rfl, h⟩ | ⟨_, h⟩
    · have := ga.ge h
      exact ⟨by omega, ga.rise h⟩
    · rw [ge_mv] at h
      obtain ⟨t', rfl, h⟩ := h
      have := gb.ge h
      exact ⟨by omega, gb.rise h⟩
  · rw [thn_len]
    unfold thn at h
    rw [gf_adF, gf_app, gf_mv] at h
    rcases h with (⟨t', rfl, h⟩ | ⟨_, h⟩) | ⟨_, _, h⟩
    · have := ga.gf h; omega
    · rw [gf_mv] at h
      obtain ⟨t', rfl, h⟩ := h
      have := gb.gf h; omega
    · omega
theorem gd_orl (ha : gdB A sa fa = true) (hb : gdB B sb fb = true) (hl : A.length + B.length + 2 ≤ 4096) : gdB (orl A sa fa B sb fb) 0 (1 + A.length + B.length) = true := by
  have ga := gdd_of ha
  have gb := gdd_of hb
  have sta := ga.st
  have stb := gb.st
  have fib := gb.fi
  refine gdB_ge (by rw [orl_len]; omega) (by rw [orl_len]; omega) (by rw [orl_len]; omega) (fun u C t h => ?_) (fun u t h => ?_)
  · rw [orl_len]
    unfold orl at h
    rw [ge_adF, ge_adF, ge_app, ge_app, ge_app] at h
    rcases h with ((h | ⟨_, h⟩) | ⟨_, h⟩) | ⟨_, h⟩
    · obtain ⟨s, h1, h2⟩ := h
      obtain rfl := List.mem_singleton.1 (List.mem_of_getElem? h1)
      simp at h2
    · rw [ge_mv] at h
      obtain ⟨t', rfl, h⟩ := h
      have := ga.ge h
      exact ⟨by omega, ga.rise h⟩
    · rw [ge_mv] at h
      obtain ⟨t', rfl, h⟩ := h
      have := gb.ge h
      exact ⟨by omega, gb.rise h⟩
    · obtain ⟨s, h1, h2⟩ := h
      obtain rfl := List.mem_singleton.1 (List.mem_of_getElem? h1)
      simp at h2
  · rw [orl_len]
    unfold orl at h
    rw [gf_adF, gf_adF, gf_app, gf_app, gf_app] at h
    rcases h with ((((h | ⟨_, h⟩) | ⟨_, h⟩) | ⟨_, h⟩) | ⟨_, _, h⟩) | ⟨_, _, h⟩
    · obtain ⟨s, h1, h2⟩ := h
      obtain rfl := List.mem_singleton.1 (List.mem_of_getElem? h1)
      simp at h2
      omega
    · rw [gf_mv] at h
      obtain ⟨t', rfl, h⟩ := h
      have := ga.gf h; omega
    · rw [gf_mv] at h
      obtain ⟨t', rfl, h⟩ := h
      have := gb.gf h; omega
    · obtain ⟨s, h1, h2⟩ := h
      obtain rfl := List.mem_singleton.1 (List.mem_of_getElem? h1)
      simp at h2
    · omega
    · omega
end
theorem eS_app (L M : List St) : eS (L ++ M) = eS L + eS M := by unfold eS; rw [List.map_append, List.sum_append]
theorem fS_app (L M : List St) : fS (L ++ M) = fS L + fS M := by unfold fS; rw [List.map_append, List.sum_append]
theorem eS_mv (k : Int) (L : List St) : eS (mv k L) = eS L := by unfold eS mv mvE; rw [List.map_map]; congr 1; apply List.map_congr_left; intro s _; simp
theorem fS_mv (k : Int) (L : List St) : fS (mv k L) = fS L := by unfold fS mv mvF; rw [List.map_map]; congr 1; apply List.map_congr_left; intro s _; simp
end Go.Proofs.YteacehfihogmpaaDoor
/- The builder that grows (package nfa): one state more; a whole automaton behind what there is. -/
namespace Go.Proofs.YteacehfihogmpaaDoor
open Go.RowKit

/-- From one world to a later one: all stays but what grows (the rows Q), and the builder's own block P. -/
structure Gsu (P : Nat) (w w' : World) (Q Q' : List Value) : Prop where
  os : w'.os = w.os
  tape : w'.tape = w.tape
  output : w'.output = w.output
  size : w.heap.size ≤ w'.heap.size
  block : ∀ k, k < w.heap.size → k ≠ P → (∀ v ∈ Q, v.ownBlock ≠ some k) → w'.heap[k]? = w.heap[k]?
  sub : ∀ b, b < w.heap.size → (∃ v ∈ Q', v.ownBlock = some b) → ∃ v ∈ Q, v.ownBlock = some b
section
variable {P : Nat} {w w' w'' : World} {Q Q' Q'' : List Value}
theorem Gsu.refl (P : Nat) (w : World) (Q : List Value) : Gsu P w w Q Q := ⟨rfl, rfl, rfl, Nat.le_refl _, fun _ _ _ _ => rfl, fun _ _ h => h⟩
theorem Gsu.trans (h : Gsu P w w' Q Q') (h' : Gsu P w' w'' Q' Q'') : Gsu P w w'' Q Q'' :=
  ⟨h'.os.trans h.os, h'.tape.trans h.tape, h'.output.trans h.output, Nat.le_trans h.size h'.size, fun k hk hP hQ => (h'.block k (Nat.lt_of_lt_of_le hk h.size) hP fun v hv e => by
    obtain ⟨u, hu, he⟩ := h.sub k hk ⟨v, hv, e⟩
    exact hQ u hu he).trans (h.block k hk hP hQ), fun b hb hx => h.sub b hb (h'.sub b (Nat.lt_of_lt_of_le hb h.size) hx)⟩
theorem Gsu.below (hb : Below w.heap.size w w') (P : Nat) (Q : List Value) : Gsu P w w' Q Q := ⟨hb.os, hb.tape, hb.output, hb.size, fun k hk _ _ => hb.block k hk, fun _ _ h => h⟩
theorem Gst.gsu {V : Value} {R R' : List Value} (h : Gst w w' V R R') (P : Nat) : Gsu P w w' (V :: R) (V :: R') :=
  ⟨h.os, h.tape, h.output, h.size, fun k hk _ hQ => h.block k hk (hQ V (by simp)) (fun v hv => hQ v (by simp [hv])), fun b hb ⟨v, hv, e⟩ => by
    rcases List.mem_cons.1 hv with rfl | hv
    · exact ⟨v, by simp, e⟩
    · obtain ⟨u, hu, e'⟩ := h.sub b hb ⟨v, hv, e⟩
      exact ⟨u, by simp [hu], e'⟩⟩
end
/-- A builder at P, with the automaton that it has laid so far. -/
structure Bu (w : World) (P B : Nat) (V : Value) (n : Nat) (M : List St) (R : List Value) : Prop where
  box : w.heap[P]? = some (.cells #[V] 72)
  gro : Gro w B V n M R
  off : ∀ v ∈ V :: R, v.ownBlock ≠ some P
  low : P < B
section
variable {w w' : World} {P B n : Nat} {V : Value} {M : List St} {R : List Value}
theorem Bu.keep (h : Bu w P B V n M R) (hb : Below w.heap.size w w') : Bu w' P B V n M R := ⟨by rw [hb.block P (lt_of h.box)]; exact h.box, h.gro.keep hb, h.off, h.low⟩
theorem Bu.form (h : Bu w P B V n M R) : ∃ vo vc, V = .slice vo n vc := by
  rcases h.gro.row.2 with ⟨h1, h2⟩ | ⟨g, cap, _, h1, _⟩
  · exact ⟨none, 0, by rw [h1, h2]⟩
  · exact ⟨_, _, h1⟩
theorem Bu.form' (h : Bu w P B V n M R) (hn : 0 < n) : ∃ g cap, V = .slice (some ⟨g, 0, none⟩) n cap := by
  rcases h.gro.row.2 with ⟨_, h2⟩ | ⟨g, cap, _, h1, _⟩
  · omega
  · exact ⟨_, _, h1⟩
theorem Bu.lts (h : Bu w P B V n M R) : ∀ v ∈ V :: R, ∀ b, v.ownBlock = some b → B ≤ b ∧ b < w.heap.size := fun v hv b hb => by
  rcases List.mem_cons.1 hv with rfl | hv
  · exact h.gro.lts.1 b hb
  · exact h.gro.lts.2 v hv b hb
/-- One state more: its row is longer, and may lie anew. -/
theorem Gro.grow {V' : Value} (h : Gro w B V n M R) (hs : w.heap.size ≤ w'.heap.size) (hk : ∀ k, B ≤ k → k < w.heap.size → V.ownBlock ≠ some k → w'.heap[k]? = w.heap[k]?) (hrow : w'.ownsRow B 86 2 V' (n + 1) (R ++ [.slice none 0 0, .slice none 0 0])) (hv : ∀ b, V'.ownBlock = some b → V.ownBlock = some b ∨ w.heap.size ≤ b) : Gro w' B V' (n + 1) (M ++ [([], [])]) (R ++ [.slice none 0 0, .slice none 0 0]) := by
  have hlt := h.lts
  have hR : R.length = n * 2 := h.row.1
  have hmem : ∀ {x : Value} {b : Nat}, x ∈ R ++ [.slice none 0 0, .slice none 0 0] → x.ownBlock = some b → x ∈ R := fun {x b} hx hb => by
    rcases List.mem_append.1 hx with hx | hx
    · exact hx
    · simp at hx; subst hx; cases hb
  have hix : ∀ {p : Nat} {x : Value} {b : Nat}, (R ++ [.slice none 0 0, .slice none 0 0])[p]? = some x → x.ownBlock = some b → R[p]? = some x := fun {p x b} hx hb => by
    by_cases hp : p < R.length
    · rwa [List.getElem?_append_left hp] at hx
    · rw [List.getElem?_append_right (by omega)] at hx
      have := List.mem_of_getElem? hx
      simp at this; subst this; cases hb
  have hkp : Kp w w' (Grw B V R) (Grw B V' (R ++ [.slice none 0 0, .slice none 0 0])) := ⟨hs, fun k hk' hx => hk k (Nat.le_of_not_lt fun e => hx (.inl e)) hk' (fun e => hx (.inr (.inl e))), fun b hb hx => by
    rcases hx with hx | hx | ⟨x, hx, e⟩
    · exact .inl hx
    · rcases hv b hx with h1 | h1
      · exact .inr (.inl h1)
      · omega
    · exact .inr (.inr ⟨x, hmem hx e, e⟩)⟩
  refine ⟨by rw [List.length_append, h.len]; rfl, hrow, fun x hx b hb e => ?_, fun p q u v b hu hv' hbu hbv => h.apart p q u v b (hix hu hbu) (hix hv' hbv) hbu hbv, fun t s hs' => ?_, fun t s hs' => ?_⟩
  · have hxR := hmem hx hb
    rcases hv b e with h1 | h1
    · exact h.off x hxR b hb h1
    · have := (hlt.2 x hxR b hb).2; omega
  · by_cases ht : t < M.length
    · rw [List.getElem?_append_left ht] at hs'
      obtain ⟨v, h1, RE, h2, h3⟩ := h.slE t s hs'
      have hl := (List.getElem?_eq_some_iff.1 h1).1
      exact ⟨v, by rw [List.getElem?_append_left hl]; exact h1, RE, own_same h2 fun k hk' hl' => hk k (h2.lt k hk').1 hl' (h.off v (List.mem_of_getElem? h1) k hk'), h3.keep hkp⟩
    · rw [List.getElem?_append_right (by omega)] at hs'
      obtain rfl := List.mem_singleton.1 (List.mem_of_getElem? hs')
      have ht' := (List.getElem?_eq_some_iff.1 hs').1
      simp at ht'
      have hn := h.len
      refine ⟨.slice none 0 0, ?_, [], World.ownsRow_nil _ _ _ _, fun j g hg => by simp at hg⟩
      rw [List.getElem?_append_right (by omega), show t * 2 - R.length = 0 by omega]; rfl
  · by_cases ht : t < M.length
    · rw [List.getElem?_append_left ht] at hs'
      obtain ⟨v, h1, h2⟩ := h.slF t s hs'
      have hl := (List.getElem?_eq_some_iff.1 h1).1
      exact ⟨v, by rw [List.getElem?_append_left hl]; exact h1, own_same h2 fun k hk' hl' => hk k (h2.lt k hk').1 hl' (h.off v (List.mem_of_getElem? h1) k hk')⟩
    · rw [List.getElem?_append_right (by omega)] at hs'
      obtain rfl := List.mem_singleton.1 (List.mem_of_getElem? hs')
      have ht' := (List.getElem?_eq_some_iff.1 hs').1
      simp at ht'
      have hn := h.len
      refine ⟨.slice none 0 0, ?_, World.ownsRow_nil _ _ _ _⟩
      rw [List.getElem?_append_right (by omega), show t * 2 + 1 - R.length = 1 by omega]; rfl
end
def BuQ (P B : Nat) (w : World) (Q : List Value) (n : Nat) (M : List St) (w' : World) : Prop := ∃ V' R', Bu w' P B V' n M R' ∧ Gsu P w w' Q (V' :: R')
theorem Bu.free {w : World} {P B n t : Nat} {V : Value} {M : List St} {R : List Value} {E : List Ed} {F : List Int} {i : Int} (h : Bu w P B V n M R) (hM : M[t]? = some (E, F)) (hF : F.length ≤ 1000000) (hB : B ≤ w.heap.size) :
    Calls Tryd.prog 54 #[.pointer (some ⟨P, 0, none⟩), .int .i64 (t : Int), .int .i64 i] w fun e w' => e = .returned (.tuple #[]) ∧ BuQ P B w (V :: R) n (adF M t i) w' := by
  have ht : t < n := by have := h.gro.len; have := (List.getElem?_eq_some_iff.1 hM).1; omega
  obtain ⟨g, cap, rfl⟩ := h.form' (by omega)
  refine (free_any B P n t g cap M R E F i w h.box h.gro (fun v hv => h.off v (by simp [hv])) hM hF hB).mono ?_
  rintro e w' ⟨rfl, R', h1, h2⟩
  have hlP := lt_of h.box
  refine ⟨rfl, _, R', ⟨by rw [h2.block P hlP (h.off _ (by simp)) (fun v hv => h.off v (by simp [hv]))]; exact h.box, h1, fun v hv e => ?_, h.low⟩, h2.gsu P⟩
  obtain ⟨u, hu, e'⟩ := (h2.gsu P).sub P hlP ⟨v, hv, e⟩
  exact h.off u hu e'
theorem Bu.edge {w : World} {P B n t : Nat} {V : Value} {M : List St} {R : List Value} {E : List Ed} {F : List Int} {i : Int} {co : Option Addr} {cn cc : Nat} {C : List Int} (h : Bu w P B V n M R) (hM : M[t]? = some (E, F)) (hE : E.length ≤ 1000000) (hB : B ≤ w.heap.size) (hC : RdI w co C) (hcn : cn = C.length) (hcl : cn ≤ 1000000) :
    Calls Tryd.prog 55 #[.pointer (some ⟨P, 0, none⟩), .int .i64 (t : Int), .int .i64 i, .slice co cn cc] w fun e w' => e = .returned (.tuple #[]) ∧ BuQ P B w (V :: R) n (adE M t (C, i)) w' := by
  have ht : t < n := by have := h.gro.len; have := (List.getElem?_eq_some_iff.1 hM).1; omega
  obtain ⟨g, cap, rfl⟩ := h.form' (by omega)
  refine (edge_any B P n t g cap M R E F i co cn cc C w h.box h.gro (fun v hv => h.off v (by simp [hv])) hM hE hB hC hcn hcl).mono ?_
  rintro e w' ⟨rfl, R', h1, h2⟩
  have hlP := lt_of h.box
  refine ⟨rfl, _, R', ⟨by rw [h2.block P hlP (h.off _ (by simp)) (fun v hv => h.off v (by simp [hv]))]; exact h.box, h1, fun v hv e => ?_, h.low⟩, h2.gsu P⟩
  obtain ⟨u, hu, e'⟩ := (h2.gsu P).sub P hlP ⟨v, hv, e⟩
  exact h.off u hu e'
theorem news22 (w : World) (v v' : Value) (T : TypeId) : ∀ j u, [v, v'][j]? = some u → (w.alloc (.cells #[v, v'] T)).cell? ((⟨w.heap.size, 0, none⟩ : Addr).add j) = some u := fun j u hj => by
  rw [Addr.add_lit, Nat.zero_add, cell_of_row _ w.heap.size j #[v, v'] T (0, 0) (show (w.heap.push _)[w.heap.size]? = _ by simp)]
  simpa using hj
set_option maxHeartbeats 4000000 in
set_option maxRecDepth 100000 in
theorem Bu.state {w : World} {P B n : Nat} {V : Value} {M : List St} {R : List Value} (h : Bu w P B V n M R) (hn : n ≤ 100000) (hB : B ≤ w.heap.size) :
    Calls Tryd.prog 53 #[.pointer (some ⟨P, 0, none⟩)] w fun e w' => e = .returned (.int .i64 (n : Int)) ∧ BuQ P B w (V :: R) (n + 1) (M ++ [([], [])]) w' := by
  obtain ⟨i86, hi86, hs0, hs1, hs2⟩ := info_parts Tryd.info86
  obtain ⟨vo, vc, rfl⟩ := h.form
  have cP : w.cell? ⟨P, 0, none⟩ = some (.slice vo n vc) := by rw [cell_of_row w P 0 _ 72 (0, 0) h.box]; rfl
  have cPa : (w.alloc (.cells #[.slice none 0 0, .slice none 0 0] 86)).cell? ⟨P, 0, none⟩ = some (.slice vo n vc) := cell_al cP
  have HH := hid h
  have hP := lt_of h.box
  have HOW := hid h.gro.row
  clear h
  go_enter Tryd.func53, Tryd.ntmps53
  go_wp2_with (at_builtin; go_loud (refine wpList_append_lies _ rfl _ _ 26 rfl B 86 i86 (.agg #[.slice none 0 0, .slice none 0 0]) 2 48 Tryd.underlying26 hi86 hs0 hs1 hs2 rfl (by decide) (.slice vo n vc) n R rfl (HOW.out.alloc _) ⟨w.heap.size, 0, none⟩ 1 1 [.slice none 0 0, .slice none 0 0] rfl rfl (news22 w _ _ 86) (fun u hu => by simp at hu; rw [hu]; rfl) (by decide) (by unfold maxLen; omega) (by omega) (by simp; omega) (w.heap.size + 1) (by simp) ?_); intro g9 c9 w9 o9 gr9 hl9 hlt9; have hs9 : w.heap.size + 1 ≤ w9.heap.size := (by have := gr9.size; simpa using this); have hP9 : w9.heap[P]? = some (.cells #[.slice vo n vc] 72) := (gr9.block P (by simp; omega) (fun e => HH.out.off _ (by simp) e.symm)).trans ((al_old _ _ hP).trans HH.out.box); have x9 : w9.cell? ⟨P, 0, none⟩ = some (.slice vo n vc) := (by rw [cell_of_row w9 P 0 _ 72 (0, 0) hP9]; rfl); have fz := frozen_of_row w9 P 0 _ 72 hP9; have HP9 := hid hP9; have HS9 := hid hs9; have HG9 := hid gr9; have HO9 := hid o9; have HL9 := hid hl9; clear hs9 hP9 gr9 o9 hl9 hlt9)
  go_ret
  have hrow := heap_setCell_same w9 P 0 _ 72 (.slice (some ⟨g9, 0, none⟩) (n + 1) c9) HP9.out
  have hset : ∀ b, b ≠ P → (w9.setCell ⟨P, 0, none⟩ (.slice (some ⟨g9, 0, none⟩) (n + 1) c9)).heap[b]? = w9.heap[b]? := fun b hb => heap_setCell_other w9 ⟨P, 0, none⟩ b _ (fun e => hb e)
  have hss : (w9.setCell ⟨P, 0, none⟩ (.slice (some ⟨g9, 0, none⟩) (n + 1) c9)).heap.size = w9.heap.size := by simp
  have hs9 := HS9.out
  have hgP : g9 ≠ P := fun e => by
    rcases HL9.out with h | h
    · exact HH.out.off _ (by simp) (e ▸ h)
    · omega
  have hv : ∀ b, (Value.slice (some ⟨g9, 0, none⟩) (n + 1) c9).ownBlock = some b → (Value.slice vo n vc).ownBlock = some b ∨ w.heap.size ≤ b := fun b hb => by
    have e : g9 = b := Option.some.inj hb
    rcases HL9.out with h | h
    · exact .inl (e ▸ h)
    · exact .inr (by omega)
  have hk : ∀ k, k < w.heap.size → k ≠ P → (Value.slice vo n vc).ownBlock ≠ some k → (w9.setCell ⟨P, 0, none⟩ (.slice (some ⟨g9, 0, none⟩) (n + 1) c9)).heap[k]? = w.heap[k]? := fun k hk h1 h2 => (hset k h1).trans ((HG9.out.block k (by simp; omega) (fun e => h2 e.symm)).trans (al_old _ _ hk))
  have hmem : ∀ (x : Value) (b : Nat), x ∈ (Value.slice (some ⟨g9, 0, none⟩) (n + 1) c9) :: (R ++ [.slice none 0 0, .slice none 0 0]) → x.ownBlock = some b → b < w.heap.size → ∃ v ∈ Value.slice vo n vc :: R, v.ownBlock = some b := fun x b hx hb hl => by
    rcases List.mem_cons.1 hx with rfl | hx
    · rcases hv b hb with h | h
      · exact ⟨_, by simp, h⟩
      · omega
    · rcases List.mem_append.1 hx with hx | hx
      · exact ⟨x, by simp [hx], hb⟩
      · simp at hx; subst hx; cases hb
  refine ⟨by go_num, .slice (some ⟨g9, 0, none⟩) (n + 1) c9, _, ⟨hrow.trans rfl, ?_, fun x hx e => ?_, HH.out.low⟩, ⟨HG9.out.os, HG9.out.tape, HG9.out.output, by rw [hss]; omega, fun k hk' hP' hQ => hk k hk' hP' (hQ _ (by simp)), fun b hb ⟨x, hx, e⟩ => hmem x b hx e hb⟩⟩
  · refine HH.out.gro.grow (by rw [hss]; omega) (fun k h1 h2 h3 => hk k h2 (by have := HH.out.low; omega) h3) (own_same HO9.out fun b hb _ => hset b (by have e : g9 = b := Option.some.inj hb; omega)) hv
  · obtain ⟨u, hu, e'⟩ := hmem x P hx e hP
    exact HH.out.off u hu e'
end Go.Proofs.YteacehfihogmpaaDoor
/- The contract of behind (package nfa's builder): an automaton's states laid behind those that there are. -/
namespace Go.Proofs.YteacehfihogmpaaDoor
open Go.RowKit

theorem modify_last {f : St → St} (X : List St) (s : St) : (X ++ [s]).modify X.length f = X ++ [f s] := by
  induction X with
  | nil => rfl
  | cons x l ih => simpa using ih
theorem adE_last (X : List St) (E : List Ed) (F : List Int) (g : Ed) {t : Nat} (ht : t = X.length) : adE (X ++ [(E, F)]) t g = X ++ [(E ++ [g], F)] := by rw [ht]; exact modify_last X (E, F)
theorem adF_last (X : List St) (E : List Ed) (F : List Int) (i : Int) {t : Nat} (ht : t = X.length) : adF (X ++ [(E, F)]) t i = X ++ [(E, F ++ [i])] := by rw [ht]; exact modify_last X (E, F)
theorem mvE_take {m : Int} {E : List Ed} {k : Nat} {C : List Int} {t : Int} (h : E[k]? = some (C, t)) : mvE m (E.take (k + 1)) = mvE m (E.take k) ++ [(C, t + m)] := by
  unfold mvE
  rw [List.take_add_one, h, List.map_append]
  rfl
theorem mvF_take {m : Int} {F : List Int} {k : Nat} {t : Int} (h : F[k]? = some t) : mvF m (F.take (k + 1)) = mvF m (F.take k) ++ [t + m] := by
  unfold mvF
  rw [List.take_add_one, h, List.map_append]
  rfl
theorem mv_take {m : Int} {L : List St} {k : Nat} {E : List Ed} {F : List Int} (h : L[k]? = some (E, F)) : mv m (L.take (k + 1)) = mv m (L.take k) ++ [(mvE m E, mvF m F)] := by
  unfold mv
  rw [List.take_add_one, h, List.map_append]
  rfl
theorem lst_at {X : List St} {s : St} {t : Nat} (ht : t = X.length) : (X ++ [s])[t]? = some s := by rw [ht]; simp
/-- What lies below the builder's rows, and apart from its block, stays. -/
theorem Gsu.low {P B n : Nat} {w0 w w' : World} {V : Value} {M : List St} {R Q' : List Value} (h : Gsu P w w' (V :: R) Q') (hb : Bu w P B V n M R) (h0 : Below w0.heap.size w0 w) (hB : w0.heap.size ≤ B) (hP : w0.heap.size ≤ P) : Below w0.heap.size w0 w' :=
  ⟨h.os.trans h0.os, h.tape.trans h0.tape, h.output.trans h0.output, Nat.le_trans h0.size h.size, fun k hk => (h.block k (Nat.lt_of_lt_of_le hk h0.size) (by omega) (fun v hv e => by have := (hb.lts v hv k e).1; omega)).trans (h0.block k hk)⟩
set_option maxHeartbeats 16000000 in
set_option maxRecDepth 100000 in
theorem behind_any (so : Option Addr) (sc n : Nat) (L : List St) (s f : Int) (P B m : Nat) (V : Value) (M : List St) (R : List Value) (w0 w : World) (hbu : Bu w P B V m M R) (hn : n = L.length) (hs : RdS w0 so L) (h0 : Below w0.heap.size w0 w) (h0B : w0.heap.size ≤ B) (h0P : w0.heap.size ≤ P) (hB : B ≤ w.heap.size) (hmn : m + n ≤ 100000) (hg : Gdd L s f) (he : eS L ≤ 1000000) (hf : fS L ≤ 1000000) :
    Calls Tryd.prog 95 #[.pointer (some ⟨P, 0, none⟩), .agg #[.slice so n sc, .int .i64 s, .int .i64 f]] w fun e w' => e = .returned (.int .i64 (m : Int)) ∧ BuQ P B w (V :: R) (m + n) (M ++ mv m L) w' := by
  obtain ⟨vo, vc, rfl⟩ := hbu.form
  have HN := hid hn
  have HS := hid hs
  have HGD := hid hg
  have HES := hid he
  have HFS := hid hf
  have HBU0 := hid hbu
  obtain ⟨w1, hw1⟩ : ∃ w1, w1 = w.alloc (.cells #[.slice so n sc, .int .i64 s, .int .i64 f] 28) := ⟨_, rfl⟩
  have q1 : w1.heap[w.heap.size]? = some (.cells #[.slice so n sc, .int .i64 s, .int .i64 f] 28) := by rw [hw1]; exact al_new _ _ rfl
  have b1 : Below w.heap.size w w1 := by rw [hw1]; exact (Below.refl _ _).alloc (Nat.le_refl _) _
  have HQ1 := hid q1
  have HB1 := hid b1
  have HS1 := hid (show w1.heap.size = w.heap.size + 1 by rw [hw1]; simp)
  have HBU1 := hid (hbu.keep b1)
  have H01 := hid (show Below w0.heap.size w0 w1 from h0.trans (b1.mono h0.size))
  have HLEN := hid hbu.gro.len
  have cP : w1.cell? ⟨P, 0, none⟩ = some (.slice vo m vc) := by rw [cell_of_row w1 P 0 _ 72 (0, 0) (hbu.keep b1).box]; rfl
  have c0 : w1.cell? ⟨w.heap.size, 0, none⟩ = some (.slice so n sc) := by rw [cell_of_row w1 w.heap.size 0 _ 28 (0, 0) q1]; rfl
  have HW1 := hid hw1
  rw [hw1] at cP c0
  clear hn hs hg he hf hbu hw1 q1 b1 h0
  go_enter Tryd.func95, Tryd.ntmps95
  go_wp2
  rw [← HW1.out]
  clear HW1 cP c0
  go_loopw [21] (fun y wr => ∃ i : Nat, y = .int .i64 i ∧ i ≤ n ∧ Hid (∃ V' R', Bu wr P B V' (m + i) (M ++ mv m (L.take i)) R' ∧ Gsu P w1 wr (.slice vo m vc :: R) (V' :: R'))) (fun y _ => n - (intOf y).toNat)
  case atStart => exact ⟨0, rfl, Nat.zero_le _, ⟨_, R, by simpa [mv] using HBU1.out, Gsu.refl _ _ _⟩⟩
  case round =>
    obtain ⟨i, rfl, hi, HI⟩ := hrel
    obtain ⟨V1, R1, hBu, hSt⟩ := HI.out
    clear HI
    have HBU := hid hBu
    have HST := hid hSt
    have HBW := hid (hSt.low HBU1.out H01.out h0B h0P)
    have hBw : B ≤ wr.heap.size := by have h1 := hSt.size; have h2 := HB1.out.size; omega
    clear hBu hSt
    by_cases hlt : i < n
    · have i3 : (i : Int) < (n : Int) := by omega
      have i0 : (0 : Int) ≤ (i : Int) := by omega
      have hiL : i < L.length := by have := HN.out; omega
      obtain ⟨E, F, hEF⟩ : ∃ E F, L[i]? = some (E, F) := ⟨L[i].1, _, List.getElem?_eq_getElem hiL⟩
      obtain ⟨a, ea, hab, eo, ec, fo, fc, f0w, f1w, hE, hF, _, _⟩ := HS.out i (E, F) hEF
      dsimp only at f0w f1w hE hF
      subst ea
      have f0 := (HBW.out.cell (p := a.add (i * 2)) (by rw [add_blk]; exact hab)).trans f0w
      have f1 := (HBW.out.cell (p := ⟨(a.add (i * 2)).block, (a.add (i * 2)).off + 1, none⟩) (show (a.add (i * 2)).block < _ by rw [add_blk]; exact hab)).trans f1w
      obtain ⟨en, hen⟩ : ∃ en, en = E.length := ⟨_, rfl⟩
      obtain ⟨fn, hfn⟩ : ∃ fn, fn = F.length := ⟨_, rfl⟩
      rw [← hen] at f0
      rw [← hfn] at f1
      have HEN := hid hen
      have HFN := hid hfn
      have HER := hid hE
      have HFR := hid hF
      have HEF := hid hEF
      have hle1 : en ≤ 1000000 := by
        have h1 := eS_in (List.mem_of_getElem? hEF)
        have h2 := HES.out
        dsimp only at h1
        omega
      have hle2 : fn ≤ 1000000 := by
        have h1 := fS_in (List.mem_of_getElem? hEF)
        have h2 := HFS.out
        dsimp only at h1
        omega
      obtain ⟨w5, hw5⟩ : ∃ w5, w5 = wr.alloc (.cells #[.slice eo en ec, .slice fo fn fc] 86) := ⟨_, rfl⟩
      obtain ⟨p5, hp5⟩ : ∃ p5, p5 = wr.heap.size := ⟨_, rfl⟩
      have hb5 : Below wr.heap.size wr w5 := by rw [hw5]; exact (Below.refl _ _).alloc (Nat.le_refl _) _
      have HBU5 := hid (HBU.out.keep hb5)
      have HST5 := hid (HST.out.trans (Gsu.below hb5 _ _))
      have HBW5 := hid (show Below w0.heap.size w0 w5 from HBW.out.trans (hb5.mono HBW.out.size))
      have hPw : P < wr.heap.size := lt_of HBU.out.box
      have HP5 := hid (show ∀ (W : World) (Q : List Value), Gsu P w5 W (V1 :: R1) Q → W.heap[p5]? = some (.cells #[.slice eo en ec, .slice fo fn fc] 86) ∧ Below w0.heap.size w0 W ∧ B ≤ W.heap.size from fun W Q h => by
        refine ⟨?_, h.low HBU5.out HBW5.out h0B h0P, by have h1 := h.size; have h2 := hb5.size; omega⟩
        rw [h.block p5 (by rw [hw5, hp5]; simp) (by omega) (fun v hv e => by have := (HBU.out.lts v hv p5 e).2; omega), hw5]
        exact al_new _ _ hp5)
      have HL := hid (show ((M ++ mv m (L.take i)).length = m + i) from by rw [List.length_append, mv_len, List.length_take, HLEN.out]; omega)
      have HSE := hid (HBU5.out.state (by omega) (by have := hb5.size; omega))
      have HW5 := hid hw5
      have HPP := hid hp5
      clear hen hfn hE hF f0w f1w hEF hab hiL hw5 hp5 hb5 HBU HST hPw
      go_wp2_with fail
      rw [← HPP.out, ← HW5.out]
      clear HPP HW5 f0 f1
      refine HSE.out.mono ?_
      rintro e w6 ⟨rfl, V6, R6, hBu, hSt⟩
      have HBU6 := hid hBu
      have HST6 := hid hSt
      obtain ⟨hr5, _, _⟩ := HP5.out _ _ hSt
      have y0 : w6.cell? ⟨p5, 0, none⟩ = some (.slice eo en ec) := by rw [cell_of_row w6 p5 0 _ 86 (0, 0) hr5]; rfl
      clear hBu hSt HSE hr5
      go_wp2
      clear y0
      go_loopw [30] (fun y wr => ∃ k : Nat, y = .int .i64 k ∧ k ≤ en ∧ Hid (∃ V' R', Bu wr P B V' (m + i + 1) (M ++ mv m (L.take i) ++ [(mvE m (E.take k), [])]) R' ∧ Gsu P w5 wr (V1 :: R1) (V' :: R'))) (fun y _ => en - (intOf y).toNat)
      case atStart => exact ⟨0, rfl, Nat.zero_le _, ⟨V6, R6, HBU6.out, HST6.out⟩⟩
      case round =>
        clear HBU6 HST6
        obtain ⟨k, rfl, hk, HI⟩ := hrel
        obtain ⟨V2, R2, hBu, hSt⟩ := HI.out
        clear HI
        have HBU := hid hBu
        have HST := hid hSt
        obtain ⟨hr5, bw, hBw2⟩ := HP5.out _ _ hSt
        by_cases hkl : k < en
        · have k3 : (k : Int) < (en : Int) := by omega
          have k0 : (0 : Int) ≤ (k : Int) := by omega
          have hkE : k < E.length := by have := HEN.out; omega
          obtain ⟨C, t, hCt⟩ : ∃ C t, E[k]? = some (C, t) := ⟨E[k].1, _, List.getElem?_eq_getElem hkE⟩
          obtain ⟨d, ed, hdb, co, cc, u0w, u1w, hC, _⟩ := HER.out k (C, t) hCt
          subst ed
          have htb := HGD.out.ge (u := i) (C := C) (t := t) ⟨_, HEF.out, List.mem_of_getElem? hCt⟩
          dsimp only at u0w u1w hC
          have u0 := (bw.cell (p := d.add (k * 2)) (by rw [add_blk]; exact hdb)).trans u0w
          have u1 := (bw.cell (p := ⟨(d.add (k * 2)).block, (d.add (k * 2)).off + 1, none⟩) (show (d.add (k * 2)).block < _ by rw [add_blk]; exact hdb)).trans u1w
          have hcl : C.length ≤ 64 := HGD.out.lens _ (List.mem_of_getElem? HEF.out) _ (List.mem_of_getElem? hCt)
          obtain ⟨cn, hcn⟩ : ∃ cn, cn = C.length := ⟨_, rfl⟩
          rw [← hcn] at u0 hcl
          obtain ⟨w7, hw7⟩ : ∃ w7, w7 = wr.alloc (.cells #[.slice co cn cc, .int .i64 t] 88) := ⟨_, rfl⟩
          have hb7 : Below wr.heap.size wr w7 := by rw [hw7]; exact (Below.refl _ _).alloc (Nat.le_refl _) _
          have hED := ((HBU.out.keep hb7).edge (t := m + i) (i := (m : Int) + t) (cc := cc) (lst_at HL.out.symm) (by unfold mvE; rw [List.length_map, List.length_take]; omega) (by have := hb7.size; omega) (hC.below (bw.trans (hb7.mono bw.size))) hcn (by omega))
          rw [Int.natCast_add, adE_last _ _ _ _ HL.out.symm, Int.add_comm (m : Int) t, ← mvE_take hCt, Int.add_comm t (m : Int)] at hED
          have HED := hid hED
          have hm9 : IntKind.i64.wrap ((m : Int) + t) = (m : Int) + t := by rw [IntKind.wrap_i64]; have := HN.out; omega
          have HB7 := hid hb7
          have HW7 := hid hw7
          have HCT := hid hCt
          have HTB := hid htb
          clear hED hw7 hb7 hcn hcl hCt hC hdb hkE u0w u1w htb bw hr5 hBw2 hBu hSt
          go_wp2_with fail
          rw [← HW7.out]
          clear HW7 u0 u1 hm9
          refine HED.out.mono ?_
          rintro e w8 ⟨rfl, V3, R3, hBu, hSt⟩
          have HBU3 := hid hBu
          have HST3 := hid (HST.out.trans ((Gsu.below HB7.out _ _).trans hSt))
          clear hBu hSt HED HB7 HST HBU
          go_wp2
          go_roundw
          case rel => exact ⟨k + 1, by go_num, by omega, ⟨V3, R3, HBU3.out, HST3.out⟩⟩
          case measure => simp [intOf]; omega
        · have k3 : ¬ (k : Int) < (en : Int) := by omega
          have HT := hid (show E.take k = E from List.take_of_length_le (by have := HEN.out; omega))
          rw [HT.out] at HBU
          have y1 : wr.cell? ⟨p5, 1, none⟩ = some (.slice fo fn fc) := by rw [cell_of_row wr p5 1 _ 86 (0, 0) hr5]; rfl
          clear HT hr5 bw hBw2 hBu hSt
          go_wp2
          clear y1
          go_loopw [47] (fun y wr => ∃ k : Nat, y = .int .i64 k ∧ k ≤ fn ∧ Hid (∃ V' R', Bu wr P B V' (m + i + 1) (M ++ mv m (L.take i) ++ [(mvE m E, mvF m (F.take k))]) R' ∧ Gsu P w5 wr (V1 :: R1) (V' :: R'))) (fun y _ => fn - (intOf y).toNat)
          case atStart => exact ⟨0, rfl, Nat.zero_le _, ⟨V2, R2, HBU.out, HST.out⟩⟩
          case round =>
            clear HBU HST
            obtain ⟨j, rfl, hj, HI⟩ := hrel
            obtain ⟨V3, R3, hBu, hSt⟩ := HI.out
            clear HI
            have HBU := hid hBu
            have HST := hid hSt
            obtain ⟨hr5, bw, hBw2⟩ := HP5.out _ _ hSt
            by_cases hjl : j < fn
            · have j3 : (j : Int) < (fn : Int) := by omega
              have j0 : (0 : Int) ≤ (j : Int) := by omega
              have hjF : j < F.length := by have := HFN.out; omega
              obtain ⟨t, hFt⟩ : ∃ t, F[j]? = some t := ⟨_, List.getElem?_eq_getElem hjF⟩
              obtain ⟨d, ed, hdb, u0w⟩ := HFR.out j t hFt
              subst ed
              have htb := HGD.out.gf (u := i) (t := t) ⟨_, HEF.out, List.mem_of_getElem? hFt⟩
              have u0 := (bw.cell (p := d.add j) (by rw [add_blk]; exact hdb)).trans u0w
              have hm9 : IntKind.i64.wrap ((m : Int) + t) = (m : Int) + t := by rw [IntKind.wrap_i64]; have := HN.out; omega
              have hFE := HBU.out.free (t := m + i) (i := (m : Int) + t) (lst_at HL.out.symm) (by unfold mvF; rw [List.length_map, List.length_take]; omega) hBw2
              rw [Int.natCast_add, adF_last _ _ _ _ HL.out.symm, Int.add_comm (m : Int) t, ← mvF_take hFt, Int.add_comm t (m : Int)] at hFE
              have HFE := hid hFE
              clear hFE hFt hdb hjF u0w htb bw hBw2 hr5 hBu hSt
              go_wp2_with fail
              clear u0 hm9
              refine HFE.out.mono ?_
              rintro e w8 ⟨rfl, V4, R4, hBu, hSt⟩
              have HBU3 := hid hBu
              have HST3 := hid (HST.out.trans hSt)
              clear hBu hSt HFE HST HBU
              go_wp2
              go_roundw
              case rel => exact ⟨j + 1, by go_num, by omega, ⟨V4, R4, HBU3.out, HST3.out⟩⟩
              case measure => simp [intOf]; omega
            · have j3 : ¬ (j : Int) < (fn : Int) := by omega
              have HT := hid (show F.take j = F from List.take_of_length_le (by have := HFN.out; omega))
              rw [HT.out, List.append_assoc, ← mv_take HEF.out] at HBU
              have HST2 := hid (HST5.out.trans HST.out)
              clear HT hr5 bw hBw2 hBu hSt HST
              go_wp2
              go_roundw
              case rel => exact ⟨i + 1, by go_num, by omega, ⟨V3, R3, HBU.out, HST2.out⟩⟩
              case measure => simp [intOf]; omega
    · have i3 : ¬ (i : Int) < (n : Int) := by omega
      have hin : i = n := by omega
      subst hin
      have HT := hid (show L.take i = L from List.take_of_length_le (by have := HN.out; omega))
      rw [HT.out] at HBU
      go_wp2
      go_ret
      exact ⟨rfl, V1, R1, HBU.out, (Gsu.below HB1.out _ _).trans HST.out⟩
end Go.Proofs.YteacehfihogmpaaDoor
/- The contracts of Or and Then (package nfa). -/
namespace Go.Proofs.YteacehfihogmpaaDoor
open Go.RowKit

/-- What a joining tells. -/
structure JnS (ok : Bool) (J : List St) (x y : Int) (M : List St) (a b : Int) : Prop where
  yes : ok = true → M = J ∧ a = x ∧ b = y
  no : ok = false → M = [] ∧ a = 0 ∧ b = 0
theorem JnS.uniq {ok : Bool} {J M M' : List St} {x y a b a' b' : Int} (h : JnS ok J x y M a b) (h' : JnS ok J x y M' a' b') : M = M' ∧ a = a' ∧ b = b' := by
  rcases bool_cases ok with hg | hg
  · obtain ⟨h1, h2, h3⟩ := h.yes hg
    obtain ⟨h4, h5, h6⟩ := h'.yes hg
    exact ⟨h1.trans h4.symm, h2.trans h5.symm, h3.trans h6.symm⟩
  · obtain ⟨h1, h2, h3⟩ := h.no hg
    obtain ⟨h4, h5, h6⟩ := h'.no hg
    exact ⟨h1.trans h4.symm, h2.trans h5.symm, h3.trans h6.symm⟩
def JnQ (w : World) (ok : Bool) (J : List St) (x y : Int) (e : Ending) (w' : World) : Prop :=
  ∃ (B : Nat) (vo : Option Addr) (m vc : Nat) (M : List St) (R : List Value) (a b : Int), e = .returned (.agg #[.slice vo m vc, .int .i64 a, .int .i64 b]) ∧ JnS ok J x y M a b ∧ w.heap.size ≤ B ∧ B ≤ w'.heap.size ∧ Gro w' B (.slice vo m vc) m M R ∧ Below w.heap.size w w'
theorem or_eq {A B : List St} {sa fa sb fb x1 x2 q1 q2 l k2 : Nat} (h2 : k2 = 1 + A.length) (e1 : x1 = 1 + sa) (e2 : x2 = k2 + sb) (e3 : q1 = 1 + fa) (e4 : q2 = k2 + fb) (e5 : l = k2 + B.length) :
    adF (adF (adF (adF ([([], [])] ++ mv (1 : Nat) A ++ mv (k2 : Nat) B ++ [([], [])]) 0 (x1 : Int)) 0 (x2 : Int)) q1 (l : Int)) q2 (l : Int) = orl A sa fa B sb fb := by
  unfold orl
  have h0 : adF (adF ([([], [])] ++ mv (1 : Nat) A ++ mv (k2 : Nat) B ++ [([], [])]) 0 (x1 : Int)) 0 (x2 : Int) = [([], [(sa : Int) + 1, (sb : Int) + (1 + A.length)])] ++ mv 1 A ++ mv (1 + A.length) B ++ [([], [])] := by
    have e : ([(x1 : Int), (x2 : Int)] : List Int) = [(sa : Int) + 1, (sb : Int) + (1 + A.length)] := by rw [show (x1 : Int) = (sa : Int) + 1 by omega, show (x2 : Int) = (sb : Int) + (1 + A.length) by omega]
    have e' : ((k2 : Nat) : Int) = 1 + A.length := by omega
    rw [← e, e']
    rfl
  rw [h0, show ((fa : Int) + 1).toNat = q1 by omega, show ((fb : Int) + (1 + A.length)).toNat = q2 by omega, show ((1 : Int) + A.length + B.length) = (l : Int) by omega]
theorem thn_eq {A B : List St} {fa sb q x : Nat} (e1 : q = fa) (e2 : x = A.length + sb) : adF (mv (0 : Nat) A ++ mv (A.length : Nat) B) q (x : Int) = thn A fa B sb := by
  unfold thn
  rw [e1, show ((fa : Int)).toNat = fa by omega, show ((sb : Int) + A.length) = (x : Int) by omega]
  rfl
theorem Bu.nil {w : World} {P : Nat} (h : w.heap[P]? = some (.cells #[.slice none 0 0] 72)) : Bu w P (P + 1) (.slice none 0 0) 0 [] [] := ⟨h, Gro.nil _ _, fun v hv e => (by simp at hv; subst hv; cases e), Nat.lt_succ_self _⟩
theorem frees_in {M : List St} {t k : Nat} (ht : t < M.length) (hk : fS M ≤ k) (hk' : k ≤ 1000000) : ∃ E F, M[t]? = some (E, F) ∧ F.length ≤ 1000000 := ⟨(M[t]).1, (M[t]).2, List.getElem?_eq_getElem ht, by
  have h := fS_in (List.getElem_mem ht)
  exact Nat.le_trans h (Nat.le_trans hk hk')⟩
set_option maxHeartbeats 16000000 in
set_option maxRecDepth 100000 in
theorem or_any (so to : Option Addr) (sc tc na nb : Nat) (A B : List St) (sa fa sb fb : Int) (w : World) (hna : na = A.length) (hnb : nb = B.length) (hsA : RdS w so A) (hsB : RdS w to B) (hla : na ≤ 1000) (hlb : nb ≤ 1000) (hea : eS A ≤ 100000) (hfa : fS A ≤ 100000) (heb : eS B ≤ 100000) (hfb : fS B ≤ 100000) :
    Calls Tryd.prog 46 #[.agg #[.slice so na sc, .int .i64 sa, .int .i64 fa], .agg #[.slice to nb tc, .int .i64 sb, .int .i64 fb]] w fun e w' => JnQ w (gdB A sa fa && gdB B sb fb) (orl A sa fa B sb fb) 0 (1 + A.length + B.length) e w' := by
  have HNA := hid hna
  have HNB := hid hnb
  have HSA := hid hsA
  have HSB := hid hsB
  have HEA := hid hea
  have HFA := hid hfa
  have HEB := hid heb
  have HFB := hid hfb
  obtain ⟨w1, hw1⟩ : ∃ w1, w1 = ((w.alloc (.cells #[.slice so na sc, .int .i64 sa, .int .i64 fa] 28)).alloc (.cells #[.slice to nb tc, .int .i64 sb, .int .i64 fb] 28)).alloc (.cells #[.slice none 0 0, .int .i64 0, .int .i64 0] 28) := ⟨_, rfl⟩
  have q1 : w1.heap[w.heap.size]? = some (.cells #[.slice so na sc, .int .i64 sa, .int .i64 fa] 28) := by rw [hw1, al_old _ _ (by simp; omega), al_old _ _ (by simp), al_new _ _ rfl]
  have q2 : w1.heap[w.heap.size + 1]? = some (.cells #[.slice to nb tc, .int .i64 sb, .int .i64 fb] 28) := by rw [hw1, al_old _ _ (by simp), al_new _ _ (by simp)]
  have q3 : w1.heap[w.heap.size + 2]? = some (.cells #[.slice none 0 0, .int .i64 0, .int .i64 0] 28) := by rw [hw1, al_new _ _ (by simp)]
  have hsz1 : w1.heap.size = w.heap.size + 3 := by rw [hw1]; simp
  have b1 : Below w.heap.size w w1 := by rw [hw1]; exact (((Below.refl _ _).alloc (Nat.le_refl _) _).alloc (by simp) _).alloc (by simp; omega) _
  have HB1 := hid b1
  have HQ3 := hid q3
  have HSZ1 := hid hsz1
  have a0 : w1.cell? ⟨w.heap.size, 0, none⟩ = some (.slice so na sc) := by rw [cell_of_row w1 w.heap.size 0 _ 28 (0, 0) q1]; rfl
  have a1 : w1.cell? ⟨w.heap.size, 1, none⟩ = some (.int .i64 sa) := by rw [cell_of_row w1 w.heap.size 1 _ 28 (0, 0) q1]; rfl
  have a2 : w1.cell? ⟨w.heap.size, 2, none⟩ = some (.int .i64 fa) := by rw [cell_of_row w1 w.heap.size 2 _ 28 (0, 0) q1]; rfl
  have b0 : w1.cell? ⟨w.heap.size + 1, 0, none⟩ = some (.slice to nb tc) := by rw [cell_of_row w1 (w.heap.size + 1) 0 _ 28 (0, 0) q2]; rfl
  have b1' : w1.cell? ⟨w.heap.size + 1, 1, none⟩ = some (.int .i64 sb) := by rw [cell_of_row w1 (w.heap.size + 1) 1 _ 28 (0, 0) q2]; rfl
  have b2 : w1.cell? ⟨w.heap.size + 1, 2, none⟩ = some (.int .i64 fb) := by rw [cell_of_row w1 (w.heap.size + 1) 2 _ 28 (0, 0) q2]; rfl
  have HC := hid (show (w1.cell? ⟨w.heap.size, 0, none⟩ = some (.slice so na sc) ∧ w1.cell? ⟨w.heap.size, 1, none⟩ = some (.int .i64 sa) ∧ w1.cell? ⟨w.heap.size, 2, none⟩ = some (.int .i64 fa)) ∧ w1.cell? ⟨w.heap.size + 1, 0, none⟩ = some (.slice to nb tc) ∧ w1.cell? ⟨w.heap.size + 1, 1, none⟩ = some (.int .i64 sb) ∧ w1.cell? ⟨w.heap.size + 1, 2, none⟩ = some (.int .i64 fb) from ⟨⟨a0, a1, a2⟩, b0, b1', b2⟩)
  clear hna hnb hsA hsB q1 q2 q3 hsz1 b1 hea hfa heb hfb a0 a1 a2 b0 b1' b2
  go_enter Tryd.func46, Tryd.ntmps46
  obtain ⟨⟨a0, a1, a2⟩, b0, b1, b2⟩ := HC.out
  rw [hw1] at a0 a1 a2 b0 b1 b2
  go_wp2_with fail
  rw [← hw1]
  clear a0 a1 a2 b0 b1 b2 hw1
  refine (good_any so sc na A sa fa w1 HNA.out (HSA.out.below HB1.out) (by unfold most; omega)).mono ?_
  rintro e w2 ⟨rfl, be_w2⟩
  have HB2 := hid be_w2
  clear be_w2
  have HBAD := hid (show ∀ W, Below w1.heap.size w1 W → W.heap[w.heap.size + 2]? = some (.cells #[.slice none 0 0, .int .i64 0, .int .i64 0] 28) ∧ Below w.heap.size w W from fun W h => ⟨by rw [h.block _ (by have := HSZ1.out; omega)]; exact HQ3.out, HB1.out.trans (h.mono HB1.out.size)⟩)
  rcases bool_cases (gdB A sa fa) with hGA | hGA
  · rw [hGA]
    obtain ⟨⟨a0, a1, a2⟩, b0, b1, b2⟩ := HC.out
    have a0 := cell_bl HB2.out a0
    have b0 := cell_bl HB2.out b0
    have b1 := cell_bl HB2.out b1
    have b2 := cell_bl HB2.out b2
    clear a1 a2
    go_wp2_with fail
    refine (good_any to tc nb B sb fb w2 HNB.out ((HSB.out.below HB1.out).below HB2.out) (by unfold most; omega)).mono ?_
    rintro e w3 ⟨rfl, be_w3⟩
    have HB3 := hid (HB2.out.trans (be_w3.mono HB2.out.size))
    clear be_w3 a0 b0 b1 b2
    rcases bool_cases (gdB B sb fb) with hGB | hGB
    · rw [hGB]
      have HOK := hid (show (gdB A sa fa && gdB B sb fb) = true by rw [hGA, hGB]; rfl)
      have HGA := hid (gdd_of hGA)
      have HGB := hid (gdd_of hGB)
      have sta := HGA.out.st
      have fia := HGA.out.fi
      have stb := HGB.out.st
      have fib := HGB.out.fi
      obtain ⟨sx, rfl⟩ : ∃ x : Nat, sa = (x : Int) := ⟨sa.toNat, by omega⟩
      obtain ⟨fx, rfl⟩ : ∃ x : Nat, fa = (x : Int) := ⟨fa.toNat, by omega⟩
      obtain ⟨sy, rfl⟩ : ∃ x : Nat, sb = (x : Int) := ⟨sb.toNat, by omega⟩
      obtain ⟨fy, rfl⟩ : ∃ x : Nat, fb = (x : Int) := ⟨fb.toNat, by omega⟩
      have HLT := hid (show sx < na ∧ fx < na ∧ sy < nb ∧ fy < nb by have h1 := HNA.out; have h2 := HNB.out; omega)
      clear hGA hGB sta fia stb fib HB2
      have hnn : ¬ (4096 : Int) < (na : Int) + (nb : Int) + 2 := by omega
      have hw0 : IntKind.i64.wrap ((na : Int) + (nb : Int)) = (na : Int) + (nb : Int) := by rw [IntKind.wrap_i64]; omega
      have hw2 : IntKind.i64.wrap ((na : Int) + (nb : Int) + 2) = (na : Int) + (nb : Int) + 2 := by rw [IntKind.wrap_i64]; omega
      obtain ⟨⟨a0, _, _⟩, b0, _, _⟩ := HC.out
      have a0 := cell_bl HB3.out a0
      have b0 := cell_bl HB3.out b0
      obtain ⟨P, hP⟩ : ∃ P, P = w3.heap.size := ⟨_, rfl⟩
      obtain ⟨W0, hW0⟩ : ∃ W, W = w3.alloc (.cells #[.slice none 0 0] 72) := ⟨_, rfl⟩
      have hr : W0.heap[P]? = some (.cells #[.slice none 0 0] 72) := by rw [hW0]; exact al_new _ _ hP
      have hb0 : Below w3.heap.size w3 W0 := by rw [hW0]; exact (Below.refl _ _).alloc (Nat.le_refl _) _
      have hs0 : W0.heap.size = P + 1 := by rw [hW0, hP]; simp
      have HBU0 := hid (Bu.nil hr)
      have HKP := hid (show ∀ (W : World) (Q : List Value), Gsu P W0 W [.slice none 0 0] Q → Below w3.heap.size w3 W ∧ Below w1.heap.size w1 W ∧ P + 1 ≤ W.heap.size from fun W Q h => by
        have h1 := h.low HBU0.out hb0 (by omega) (by omega)
        exact ⟨h1, HB3.out.trans (h1.mono HB3.out.size), by have := h.size; omega⟩)
      have HCW := hid (show ∀ W, Below w1.heap.size w1 W → (W.cell? ⟨w.heap.size, 0, none⟩ = some (.slice so na sc) ∧ W.cell? ⟨w.heap.size, 1, none⟩ = some (.int .i64 (sx : Int)) ∧ W.cell? ⟨w.heap.size, 2, none⟩ = some (.int .i64 (fx : Int))) ∧ W.cell? ⟨w.heap.size + 1, 0, none⟩ = some (.slice to nb tc) ∧ W.cell? ⟨w.heap.size + 1, 1, none⟩ = some (.int .i64 (sy : Int)) ∧ W.cell? ⟨w.heap.size + 1, 2, none⟩ = some (.int .i64 (fy : Int)) from fun W h => by
        obtain ⟨⟨h1, h2, h3⟩, h4, h5, h6⟩ := HC.out
        exact ⟨⟨cell_bl h h1, cell_bl h h2, cell_bl h h3⟩, cell_bl h h4, cell_bl h h5, cell_bl h h6⟩)
      have HSA3 := hid (show RdS w3 so A from (HSA.out.below HB1.out).below HB3.out)
      have HSB3 := hid (show RdS w3 to B from (HSB.out.below HB1.out).below HB3.out)
      have HST0 := hid (HBU0.out.state (by omega) (by omega))
      have HPW := hid (show P = w3.heap.size from hP)
      have HPP := hid hP
      have HWW := hid hW0
      have HPG := hid (show w.heap.size + 3 ≤ P by have h1 := HSZ1.out; have h2 := HB3.out.size; omega)
      clear hP hW0 hr hb0 hs0 HC
      go_wp2_with fail
      rw [← HPP.out, ← HWW.out]
      clear HPP HWW a0 b0 hnn hw0 hw2
      refine HST0.out.mono ?_
      rintro e w4 ⟨rfl, V4, R4, hBu, hSt⟩
      have HBU4 := hid (show Bu w4 P (P + 1) V4 1 [([], [])] R4 from hBu)
      have HST4 := hid hSt
      clear hBu hSt HST0
      obtain ⟨hk3, hk1, hks⟩ := HKP.out _ _ HST4.out
      obtain ⟨⟨a0, a1, a2⟩, b0, b1, b2⟩ := HCW.out _ hk1
      have HBE := hid (behind_any so sc na A sx fx P (P + 1) 1 V4 [([], [])] R4 w3 w4.drew (HBU4.out.keep (Below.refl _ _).drew) HNA.out HSA3.out (hk3.drew) (by have := HPW.out; omega) (by have := HPW.out; omega) hks (by omega) HGA.out (by have := HEA.out; omega) (by have := HFA.out; omega))
      clear hk3 hk1 hks
      go_wp2_with fail
      refine wp_region_mixT (.one 0 1 (.one 1 1 (.one 3 1 (.one 4 1 (.one 2 2 (.one 5 2 (.one 6 2 (.one 7 2 .nil)))))))) (fun _ => True) (fun w' => (w'.cell? ⟨w.heap.size, 0, none⟩ = some (.slice so na sc) ∧ w'.cell? ⟨w.heap.size, 1, none⟩ = some (.int .i64 (sx : Int)) ∧ w'.cell? ⟨w.heap.size, 2, none⟩ = some (.int .i64 (fx : Int))) ∧ w'.cell? ⟨w.heap.size + 1, 0, none⟩ = some (.slice to nb tc) ∧ w'.cell? ⟨w.heap.size + 1, 1, none⟩ = some (.int .i64 (sy : Int)) ∧ w'.cell? ⟨w.heap.size + 1, 2, none⟩ = some (.int .i64 (fy : Int))) (fun _ => false) (by kernel_rfl) (by kernel_rfl) (fun j hj => by cases hj) rfl (by kernel_rfl) trivial ⟨⟨a0, a1, a2⟩, b0, b1, b2⟩ ?_
      iterate 4 (refine mixT_t ?_ rfl (by kernel_rfl) (fun w' hS => ?_) ?_; (rotate_left; (obtain ⟨⟨s1, s2, s3⟩, s4, s5, s6⟩ := hS; go_simp; with_reducible rfl); rotate_left))
      clear a0 a1 a2 b0 b1 b2
      refine mixT_go rfl (by kernel_rfl) fun KK hKK => ?_
      go_simp
      refine HBE.out.mono ?_
      rintro e w5 ⟨rfl, V5, R5, hBu, hSt⟩
      obtain ⟨k2, hk2⟩ : ∃ k2, k2 = 1 + na := ⟨_, rfl⟩
      rw [← hk2] at hBu
      have HBU5 := hid hBu
      have HST5 := hid (HST4.out.trans ((Gsu.below (Below.refl w4.heap.size w4).drew P (V4 :: R4)).trans hSt))
      have HK2 := hid hk2
      clear hBu hSt HBE
      obtain ⟨hk3, hk1, hks⟩ := HKP.out _ _ HST5.out
      refine hKK _ _ (fun _ => trivial) (HCW.out _ hk1) ?_
      clear hKK KK
      refine mixT_go rfl (by kernel_rfl) fun KK hKK => ?_
      go_simp
      refine (behind_any to tc nb B sy fy P (P + 1) k2 V5 _ R5 w3 w5 HBU5.out HNB.out HSB3.out hk3 (by have := HPW.out; omega) (by have := HPW.out; omega) hks (by omega) HGB.out (by have := HEB.out; omega) (by have := HFB.out; omega)).mono ?_
      rintro e w6 ⟨rfl, V6, R6, hBu, hSt⟩
      obtain ⟨k3, hk3'⟩ : ∃ k3, k3 = k2 + nb := ⟨_, rfl⟩
      rw [← hk3'] at hBu
      have HBU6 := hid hBu
      have HST6 := hid (HST5.out.trans hSt)
      have HK3 := hid hk3'
      clear hBu hSt hk3 hk1 hks hk2 hk3'
      obtain ⟨hk3, hk1, hks⟩ := HKP.out _ _ HST6.out
      refine hKK _ _ (fun _ => trivial) (HCW.out _ hk1) ?_
      clear hKK KK
      refine mixT_go rfl (by kernel_rfl) fun KK hKK => ?_
      go_simp
      refine hKK _ _ (fun _ => trivial) (HCW.out _ hk1) ?_
      clear hKK KK
      refine mixT_go rfl (by kernel_rfl) fun KK hKK => ?_
      go_simp
      refine hKK _ _ (fun _ => trivial) (HCW.out _ hk1) ?_
      clear hKK KK
      refine mixT_end (NoPanic.normal ?_)
      clear hk3 hk1 HBU4 HBU5 HST4 HST5
      have HSE := hid (HBU6.out.state (by have h1 := HK2.out; have h2 := HK3.out; omega) hks)
      clear hks
      go_wp2_with fail
      refine HSE.out.mono ?_
      rintro e w7 ⟨rfl, V7, R7, hBu, hSt⟩
      have HBU7 := hid hBu
      have HST7 := hid (HST6.out.trans hSt)
      clear hBu hSt HSE HBU6 HST6
      obtain ⟨x1, hx1⟩ : ∃ x : Nat, x = 1 + sx := ⟨_, rfl⟩
      obtain ⟨x2, hx2⟩ : ∃ x : Nat, x = k2 + sy := ⟨_, rfl⟩
      obtain ⟨q1, hq1⟩ : ∃ x : Nat, x = 1 + fx := ⟨_, rfl⟩
      obtain ⟨q2, hq2⟩ : ∃ x : Nat, x = k2 + fy := ⟨_, rfl⟩
      have e1 : IntKind.i64.wrap (1 + (sx : Int)) = (x1 : Int) := by rw [IntKind.wrap_i64]; have := HLT.out; omega
      have e2 : IntKind.i64.wrap ((k2 : Int) + (sy : Int)) = (x2 : Int) := by rw [IntKind.wrap_i64]; have h1 := HLT.out; have h2 := HK2.out; omega
      have e3 : IntKind.i64.wrap (1 + (fx : Int)) = (q1 : Int) := by rw [IntKind.wrap_i64]; have := HLT.out; omega
      have e4 : IntKind.i64.wrap ((k2 : Int) + (fy : Int)) = (q2 : Int) := by rw [IntKind.wrap_i64]; have h1 := HLT.out; have h2 := HK2.out; omega
      have HX := hid (show x1 = 1 + sx ∧ x2 = k2 + sy ∧ q1 = 1 + fx ∧ q2 = k2 + fy from ⟨hx1, hx2, hq1, hq2⟩)
      have HBD := hid (show q1 < k3 + 1 ∧ q2 < k3 + 1 from by have h1 := HLT.out; have h2 := HK2.out; have h3 := HK3.out; omega)
      clear hx1 hx2 hq1 hq2
      obtain ⟨X7, hX7⟩ : ∃ X : List St, X = [([], [])] ++ mv (1 : Nat) A ++ mv (k2 : Nat) B ++ [([], [])] := ⟨_, rfl⟩
      have HL7 := hid (show X7.length = k3 + 1 from HBU7.out.gro.len ▸ (by rw [hX7]))
      have HF7 := hid (show fS X7 ≤ 200000 by
        have h1 := HFA.out
        have h2 := HFB.out
        rw [hX7, fS_app, fS_app, fS_app, fS_mv, fS_mv]
        have h0 : fS [(([], []) : St)] = 0 := rfl
        rw [h0]
        omega)
      rw [← hX7] at HBU7
      have HX7 := hid hX7
      clear hX7
      obtain ⟨hk3, hk1, hks⟩ := HKP.out _ _ HST7.out
      obtain ⟨⟨a0, a1, a2⟩, b0, b1, b2⟩ := HCW.out _ hk1
      obtain ⟨E7, F7, hM, hF⟩ := frees_in (M := X7) (t := 0) (k := 200000) (by have h1 := HL7.out; have h2 := HBD.out; omega) HF7.out (by omega)
      have hFE := HBU7.out.free (i := (x1 : Int)) hM hF hks
      rw [show ((0 : Nat) : Int) = 0 from rfl] at hFE
      have HFE := hid hFE
      clear hFE hM hF hk3 hk1 hks a0 a2 b0 b1 b2
      go_wp2_with fail
      clear a1
      refine HFE.out.mono ?_
      rintro e w8 ⟨rfl, V8, R8, hBu, hSt⟩
      obtain ⟨X8, hX⟩ : ∃ X, X = adF X7 0 (x1 : Int) := ⟨_, rfl⟩
      rw [← hX] at hBu
      have HBU8 := hid hBu
      have HST8 := hid (HST7.out.trans hSt)
      have HL8 := hid (show X8.length = k3 + 1 by rw [hX, adF_len]; exact HL7.out)
      have HF8 := hid (show fS X8 ≤ 200001 by
        rw [hX, fS_adF _ _ _ (by have h1 := HL7.out; have h2 := HBD.out; omega)]
        have := HF7.out
        omega)
      have HX8 := hid hX
      clear hX hBu hSt HFE HBU7 HST7
      obtain ⟨hk3, hk1, hks⟩ := HKP.out _ _ HST8.out
      obtain ⟨⟨a0, a1, a2⟩, b0, b1, b2⟩ := HCW.out _ hk1
      obtain ⟨E8, F8, hM, hF⟩ := frees_in (M := X8) (t := 0) (k := 200001) (by have h1 := HL8.out; have h2 := HBD.out; omega) HF8.out (by omega)
      have hFE := HBU8.out.free (i := (x2 : Int)) hM hF hks
      rw [show ((0 : Nat) : Int) = 0 from rfl] at hFE
      have HFE := hid hFE
      clear hFE hM hF hk3 hk1 hks a0 a1 a2 b0 b2
      go_wp2_with fail
      clear b1
      refine HFE.out.mono ?_
      rintro e w9 ⟨rfl, V9, R9, hBu, hSt⟩
      obtain ⟨X9, hX⟩ : ∃ X, X = adF X8 0 (x2 : Int) := ⟨_, rfl⟩
      rw [← hX] at hBu
      have HBU9 := hid hBu
      have HST9 := hid (HST8.out.trans hSt)
      have HL9 := hid (show X9.length = k3 + 1 by rw [hX, adF_len]; exact HL8.out)
      have HF9 := hid (show fS X9 ≤ 200002 by
        rw [hX, fS_adF _ _ _ (by have h1 := HL8.out; have h2 := HBD.out; omega)]
        have := HF8.out
        omega)
      have HX9 := hid hX
      clear hX hBu hSt HFE HBU8 HST8
      obtain ⟨hk3, hk1, hks⟩ := HKP.out _ _ HST9.out
      obtain ⟨⟨a0, a1, a2⟩, b0, b1, b2⟩ := HCW.out _ hk1
      obtain ⟨E9, F9, hM, hF⟩ := frees_in (M := X9) (t := q1) (k := 200002) (by have h1 := HL9.out; have h2 := HBD.out; omega) HF9.out (by omega)
      have hFE := HBU9.out.free (i := (k3 : Int)) hM hF hks
      have HFE := hid hFE
      clear hFE hM hF hk3 hk1 hks a0 a1 b0 b1 b2
      go_wp2_with fail
      clear a2
      refine HFE.out.mono ?_
      rintro e w10 ⟨rfl, V10, R10, hBu, hSt⟩
      obtain ⟨X10, hX⟩ : ∃ X, X = adF X9 q1 (k3 : Int) := ⟨_, rfl⟩
      rw [← hX] at hBu
      have HBU10 := hid hBu
      have HST10 := hid (HST9.out.trans hSt)
      have HL10 := hid (show X10.length = k3 + 1 by rw [hX, adF_len]; exact HL9.out)
      have HF10 := hid (show fS X10 ≤ 200003 by
        rw [hX, fS_adF _ _ _ (by have h1 := HL9.out; have h2 := HBD.out; omega)]
        have := HF9.out
        omega)
      have HX10 := hid hX
      clear hX hBu hSt HFE HBU9 HST9
      obtain ⟨hk3, hk1, hks⟩ := HKP.out _ _ HST10.out
      obtain ⟨⟨a0, a1, a2⟩, b0, b1, b2⟩ := HCW.out _ hk1
      obtain ⟨E10, F10, hM, hF⟩ := frees_in (M := X10) (t := q2) (k := 200003) (by have h1 := HL10.out; have h2 := HBD.out; omega) HF10.out (by omega)
      have hFE := HBU10.out.free (i := (k3 : Int)) hM hF hks
      have HFE := hid hFE
      clear hFE hM hF hk3 hk1 hks a0 a1 a2 b0 b1
      go_wp2_with fail
      clear b2
      refine HFE.out.mono ?_
      rintro e w11 ⟨rfl, V11, R11, hBu, hSt⟩
      obtain ⟨X11, hX⟩ : ∃ X, X = adF X10 q2 (k3 : Int) := ⟨_, rfl⟩
      rw [← hX] at hBu
      have HBU11 := hid hBu
      have HST11 := hid (HST10.out.trans hSt)
      have HL11 := hid (show X11.length = k3 + 1 by rw [hX, adF_len]; exact HL10.out)
      have HF11 := hid (show fS X11 ≤ 200004 by
        rw [hX, fS_adF _ _ _ (by have h1 := HL10.out; have h2 := HBD.out; omega)]
        have := HF10.out
        omega)
      have HX11 := hid hX
      clear hX hBu hSt HFE HBU10 HST10
      obtain ⟨hk3, hk1, hks⟩ := HKP.out _ _ HST11.out
      obtain ⟨vo, vc, rfl⟩ := HBU11.out.form
      have r0 : w11.cell? ⟨P, 0, none⟩ = some (.slice vo (k3 + 1) vc) := by rw [cell_of_row w11 P 0 _ 72 (0, 0) HBU11.out.box]; rfl
      obtain ⟨hz1, hbw⟩ := HBAD.out _ hk1
      have z0 := frozen_of_row w11 (w.heap.size + 2) 0 _ 28 hz1
      have z1 := frozen_of_row w11 (w.heap.size + 2) 1 _ 28 hz1
      have z2 := frozen_of_row w11 (w.heap.size + 2) 2 _ 28 hz1
      have y0 : w11.cell? ⟨w.heap.size + 2, 0, none⟩ = some (.slice none 0 0) := by rw [cell_of_row w11 (w.heap.size + 2) 0 _ 28 (0, 0) hz1]; rfl
      have y1 : w11.cell? ⟨w.heap.size + 2, 1, none⟩ = some (.int .i64 0) := by rw [cell_of_row w11 (w.heap.size + 2) 1 _ 28 (0, 0) hz1]; rfl
      have y2 : w11.cell? ⟨w.heap.size + 2, 2, none⟩ = some (.int .i64 0) := by rw [cell_of_row w11 (w.heap.size + 2) 2 _ 28 (0, 0) hz1]; rfl
      have HR := hid hz1
      have HBW := hid hbw
      clear hz1 hbw hk3 hk1 e1 e2 e3 e4
      go_wp2
      (try simp only [Exit.inBlock, Exit.then])
      have e1 := heap_setCell_same w11 (w.heap.size + 2) 0 _ 28 (.slice vo (k3 + 1) vc) HR.out
      have e2 := heap_setCell_same _ (w.heap.size + 2) 1 _ 28 (.int .i64 0) e1
      have e3 := heap_setCell_same _ (w.heap.size + 2) 2 _ 28 (.int .i64 (k3 : Int)) e2
      refine bodyPost_ret (results_cell_row rfl _ _ (w.heap.size + 2) 28 #[.slice vo (k3 + 1) vc, .int .i64 0, .int .i64 (k3 : Int)] (0, 0) _ rfl e3 Tryd.underlying28 rfl (by kernel_rfl)) rfl ?_
      have hoth : ∀ b, b ≠ w.heap.size + 2 → (((w11.setCell ⟨w.heap.size + 2, 0, none⟩ (.slice vo (k3 + 1) vc)).setCell ⟨w.heap.size + 2, 1, none⟩ (.int .i64 0)).setCell ⟨w.heap.size + 2, 2, none⟩ (.int .i64 (k3 : Int))).heap[b]? = w11.heap[b]? := fun b hb => by
        rw [heap_setCell_other _ ⟨w.heap.size + 2, 2, none⟩ b _ (fun e => hb e), heap_setCell_other _ ⟨w.heap.size + 2, 1, none⟩ b _ (fun e => hb e), heap_setCell_other _ ⟨w.heap.size + 2, 0, none⟩ b _ (fun e => hb e)]
      have hfin : Below w.heap.size w (((w11.setCell ⟨w.heap.size + 2, 0, none⟩ (.slice vo (k3 + 1) vc)).setCell ⟨w.heap.size + 2, 1, none⟩ (.int .i64 0)).setCell ⟨w.heap.size + 2, 2, none⟩ (.int .i64 (k3 : Int))) := HBW.out.trans ⟨rfl, rfl, rfl, by simp, fun b hb => hoth b (by omega)⟩
      have hpg := HPG.out
      have hJ : X11 = orl A sx fx B sy fy := by
        rw [HX11.out, HX10.out, HX9.out, HX8.out, HX7.out]
        obtain ⟨h1, h2, h3, h4⟩ := HX.out
        exact or_eq (by rw [HK2.out, HNA.out]) h1 h2 h3 h4 (by rw [HK3.out, HNB.out])
      refine ⟨P + 1, _, _, _, X11, R11, 0, (k3 : Int), rfl, ⟨fun _ => ⟨hJ, rfl, by have h1 := HK3.out; have h2 := HK2.out; have h3 := HNA.out; have h4 := HNB.out; omega⟩, fun h => (by rw [HOK.out] at h; cases h)⟩, by omega, (by have h : P + 1 ≤ w11.heap.size := hks; simpa using h), ?_, hfin⟩
      exact HBU11.out.gro.keep2 (by simp) fun k hk _ => hoth k (by omega)
    · rw [hGB]
      obtain ⟨hz1, hbw⟩ := HBAD.out _ HB3.out
      have z0 := frozen_of_row w3 (w.heap.size + 2) 0 _ 28 hz1
      have z1 := frozen_of_row w3 (w.heap.size + 2) 1 _ 28 hz1
      have z2 := frozen_of_row w3 (w.heap.size + 2) 2 _ 28 hz1
      have y0 : w3.cell? ⟨w.heap.size + 2, 0, none⟩ = some (.slice none 0 0) := by rw [cell_of_row w3 (w.heap.size + 2) 0 _ 28 (0, 0) hz1]; rfl
      have y1 : w3.cell? ⟨w.heap.size + 2, 1, none⟩ = some (.int .i64 0) := by rw [cell_of_row w3 (w.heap.size + 2) 1 _ 28 (0, 0) hz1]; rfl
      have y2 : w3.cell? ⟨w.heap.size + 2, 2, none⟩ = some (.int .i64 0) := by rw [cell_of_row w3 (w.heap.size + 2) 2 _ 28 (0, 0) hz1]; rfl
      have HR := hid hz1
      have HBW := hid hbw
      have HGB := hid (show (gdB A sa fa && gdB B sb fb) = false by rw [hGA, hGB]; rfl)
      clear hz1 hbw
      go_wp2
      (try simp only [Exit.inBlock, Exit.then])
      have e1 := heap_setCell_same w3 (w.heap.size + 2) 0 _ 28 (.slice none 0 0) HR.out
      have e2 := heap_setCell_same _ (w.heap.size + 2) 1 _ 28 (.int .i64 0) e1
      have e3 := heap_setCell_same _ (w.heap.size + 2) 2 _ 28 (.int .i64 0) e2
      refine bodyPost_ret (results_cell_row rfl _ _ (w.heap.size + 2) 28 #[.slice none 0 0, .int .i64 0, .int .i64 0] (0, 0) _ rfl e3 Tryd.underlying28 rfl (by kernel_rfl)) rfl ?_
      have hfin : Below w.heap.size w (((w3.setCell ⟨w.heap.size + 2, 0, none⟩ (.slice none 0 0)).setCell ⟨w.heap.size + 2, 1, none⟩ (.int .i64 0)).setCell ⟨w.heap.size + 2, 2, none⟩ (.int .i64 0)) := HBW.out.trans ⟨rfl, rfl, rfl, by simp, fun b hb => by
        rw [heap_setCell_other _ ⟨w.heap.size + 2, 2, none⟩ b _ (fun e => by have e' : b = w.heap.size + 2 := e; omega), heap_setCell_other _ ⟨w.heap.size + 2, 1, none⟩ b _ (fun e => by have e' : b = w.heap.size + 2 := e; omega), heap_setCell_other _ ⟨w.heap.size + 2, 0, none⟩ b _ (fun e => by have e' : b = w.heap.size + 2 := e; omega)]⟩
      exact ⟨w.heap.size, none, 0, 0, [], [], 0, 0, rfl, ⟨fun h => (by rw [HGB.out] at h; cases h), fun _ => ⟨rfl, rfl, rfl⟩⟩, Nat.le_refl _, hfin.size, Gro.nil _ _, hfin⟩
  · rw [hGA]
    obtain ⟨hz1, hbw⟩ := HBAD.out _ HB2.out
    have z0 := frozen_of_row w2 (w.heap.size + 2) 0 _ 28 hz1
    have z1 := frozen_of_row w2 (w.heap.size + 2) 1 _ 28 hz1
    have z2 := frozen_of_row w2 (w.heap.size + 2) 2 _ 28 hz1
    have y0 : w2.cell? ⟨w.heap.size + 2, 0, none⟩ = some (.slice none 0 0) := by rw [cell_of_row w2 (w.heap.size + 2) 0 _ 28 (0, 0) hz1]; rfl
    have y1 : w2.cell? ⟨w.heap.size + 2, 1, none⟩ = some (.int .i64 0) := by rw [cell_of_row w2 (w.heap.size + 2) 1 _ 28 (0, 0) hz1]; rfl
    have y2 : w2.cell? ⟨w.heap.size + 2, 2, none⟩ = some (.int .i64 0) := by rw [cell_of_row w2 (w.heap.size + 2) 2 _ 28 (0, 0) hz1]; rfl
    have HR := hid hz1
    have HBW := hid hbw
    have HGB := hid (show (gdB A sa fa && gdB B sb fb) = false by rw [hGA]; rfl)
    clear hz1 hbw
    go_wp2
    (try simp only [Exit.inBlock, Exit.then])
    have e1 := heap_setCell_same w2 (w.heap.size + 2) 0 _ 28 (.slice none 0 0) HR.out
    have e2 := heap_setCell_same _ (w.heap.size + 2) 1 _ 28 (.int .i64 0) e1
    have e3 := heap_setCell_same _ (w.heap.size + 2) 2 _ 28 (.int .i64 0) e2
    refine bodyPost_ret (results_cell_row rfl _ _ (w.heap.size + 2) 28 #[.slice none 0 0, .int .i64 0, .int .i64 0] (0, 0) _ rfl e3 Tryd.underlying28 rfl (by kernel_rfl)) rfl ?_
    have hfin : Below w.heap.size w (((w2.setCell ⟨w.heap.size + 2, 0, none⟩ (.slice none 0 0)).setCell ⟨w.heap.size + 2, 1, none⟩ (.int .i64 0)).setCell ⟨w.heap.size + 2, 2, none⟩ (.int .i64 0)) := HBW.out.trans ⟨rfl, rfl, rfl, by simp, fun b hb => by
      rw [heap_setCell_other _ ⟨w.heap.size + 2, 2, none⟩ b _ (fun e => by have e' : b = w.heap.size + 2 := e; omega), heap_setCell_other _ ⟨w.heap.size + 2, 1, none⟩ b _ (fun e => by have e' : b = w.heap.size + 2 := e; omega), heap_setCell_other _ ⟨w.heap.size + 2, 0, none⟩ b _ (fun e => by have e' : b = w.heap.size + 2 := e; omega)]⟩
    exact ⟨w.heap.size, none, 0, 0, [], [], 0, 0, rfl, ⟨fun h => (by rw [HGB.out] at h; cases h), fun _ => ⟨rfl, rfl, rfl⟩⟩, Nat.le_refl _, hfin.size, Gro.nil _ _, hfin⟩
end Go.Proofs.YteacehfihogmpaaDoor
/- The contract of Then (package nfa). -/
namespace Go.Proofs.YteacehfihogmpaaDoor
open Go.RowKit

set_option maxHeartbeats 16000000 in
set_option maxRecDepth 100000 in
theorem then_any (so to : Option Addr) (sc tc na nb : Nat) (A B : List St) (sa fa sb fb : Int) (w : World) (hna : na = A.length) (hnb : nb = B.length) (hsA : RdS w so A) (hsB : RdS w to B) (hla : na ≤ 1000) (hlb : nb ≤ 1000) (hea : eS A ≤ 100000) (hfa : fS A ≤ 100000) (heb : eS B ≤ 100000) (hfb : fS B ≤ 100000) :
    Calls Tryd.prog 47 #[.agg #[.slice so na sc, .int .i64 sa, .int .i64 fa], .agg #[.slice to nb tc, .int .i64 sb, .int .i64 fb]] w fun e w' => JnQ w (gdB A sa fa && gdB B sb fb) (thn A fa B sb) sa (fb + A.length) e w' := by
  have HNA := hid hna
  have HNB := hid hnb
  have HSA := hid hsA
  have HSB := hid hsB
  have HEA := hid hea
  have HFA := hid hfa
  have HEB := hid heb
  have HFB := hid hfb
  obtain ⟨w1, hw1⟩ : ∃ w1, w1 = ((w.alloc (.cells #[.slice so na sc, .int .i64 sa, .int .i64 fa] 28)).alloc (.cells #[.slice to nb tc, .int .i64 sb, .int .i64 fb] 28)).alloc (.cells #[.slice none 0 0, .int .i64 0, .int .i64 0] 28) := ⟨_, rfl⟩
  have q1 : w1.heap[w.heap.size]? = some (.cells #[.slice so na sc, .int .i64 sa, .int .i64 fa] 28) := by rw [hw1, al_old _ _ (by simp; omega), al_old _ _ (by simp), al_new _ _ rfl]
  have q2 : w1.heap[w.heap.size + 1]? = some (.cells #[.slice to nb tc, .int .i64 sb, .int .i64 fb] 28) := by rw [hw1, al_old _ _ (by simp), al_new _ _ (by simp)]
  have q3 : w1.heap[w.heap.size + 2]? = some (.cells #[.slice none 0 0, .int .i64 0, .int .i64 0] 28) := by rw [hw1, al_new _ _ (by simp)]
  have hsz1 : w1.heap.size = w.heap.size + 3 := by rw [hw1]; simp
  have b1 : Below w.heap.size w w1 := by rw [hw1]; exact (((Below.refl _ _).alloc (Nat.le_refl _) _).alloc (by simp) _).alloc (by simp; omega) _
  have HB1 := hid b1
  have HQ3 := hid q3
  have HSZ1 := hid hsz1
  have a0 : w1.cell? ⟨w.heap.size, 0, none⟩ = some (.slice so na sc) := by rw [cell_of_row w1 w.heap.size 0 _ 28 (0, 0) q1]; rfl
  have a1 : w1.cell? ⟨w.heap.size, 1, none⟩ = some (.int .i64 sa) := by rw [cell_of_row w1 w.heap.size 1 _ 28 (0, 0) q1]; rfl
  have a2 : w1.cell? ⟨w.heap.size, 2, none⟩ = some (.int .i64 fa) := by rw [cell_of_row w1 w.heap.size 2 _ 28 (0, 0) q1]; rfl
  have b0 : w1.cell? ⟨w.heap.size + 1, 0, none⟩ = some (.slice to nb tc) := by rw [cell_of_row w1 (w.heap.size + 1) 0 _ 28 (0, 0) q2]; rfl
  have b1' : w1.cell? ⟨w.heap.size + 1, 1, none⟩ = some (.int .i64 sb) := by rw [cell_of_row w1 (w.heap.size + 1) 1 _ 28 (0, 0) q2]; rfl
  have b2 : w1.cell? ⟨w.heap.size + 1, 2, none⟩ = some (.int .i64 fb) := by rw [cell_of_row w1 (w.heap.size + 1) 2 _ 28 (0, 0) q2]; rfl
  have HC := hid (show (w1.cell? ⟨w.heap.size, 0, none⟩ = some (.slice so na sc) ∧ w1.cell? ⟨w.heap.size, 1, none⟩ = some (.int .i64 sa) ∧ w1.cell? ⟨w.heap.size, 2, none⟩ = some (.int .i64 fa)) ∧ w1.cell? ⟨w.heap.size + 1, 0, none⟩ = some (.slice to nb tc) ∧ w1.cell? ⟨w.heap.size + 1, 1, none⟩ = some (.int .i64 sb) ∧ w1.cell? ⟨w.heap.size + 1, 2, none⟩ = some (.int .i64 fb) from ⟨⟨a0, a1, a2⟩, b0, b1', b2⟩)
  clear hna hnb hsA hsB q1 q2 q3 hsz1 b1 hea hfa heb hfb a0 a1 a2 b0 b1' b2
  go_enter Tryd.func47, Tryd.ntmps47
  obtain ⟨⟨a0, a1, a2⟩, b0, b1, b2⟩ := HC.out
  rw [hw1] at a0 a1 a2 b0 b1 b2
  go_wp2_with fail
  rw [← hw1]
  clear a0 a1 a2 b0 b1 b2 hw1
  refine (good_any so sc na A sa fa w1 HNA.out (HSA.out.below HB1.out) (by unfold most; omega)).mono ?_
  rintro e w2 ⟨rfl, be_w2⟩
  have HB2 := hid be_w2
  clear be_w2
  have HBAD := hid (show ∀ W, Below w1.heap.size w1 W → W.heap[w.heap.size + 2]? = some (.cells #[.slice none 0 0, .int .i64 0, .int .i64 0] 28) ∧ Below w.heap.size w W from fun W h => ⟨by rw [h.block _ (by have := HSZ1.out; omega)]; exact HQ3.out, HB1.out.trans (h.mono HB1.out.size)⟩)
  rcases bool_cases (gdB A sa fa) with hGA | hGA
  · rw [hGA]
    obtain ⟨⟨a0, a1, a2⟩, b0, b1, b2⟩ := HC.out
    have a0 := cell_bl HB2.out a0
    have b0 := cell_bl HB2.out b0
    have b1 := cell_bl HB2.out b1
    have b2 := cell_bl HB2.out b2
    clear a1 a2
    go_wp2_with fail
    refine (good_any to tc nb B sb fb w2 HNB.out ((HSB.out.below HB1.out).below HB2.out) (by unfold most; omega)).mono ?_
    rintro e w3 ⟨rfl, be_w3⟩
    have HB3 := hid (HB2.out.trans (be_w3.mono HB2.out.size))
    clear be_w3 a0 b0 b1 b2
    rcases bool_cases (gdB B sb fb) with hGB | hGB
    · rw [hGB]
      have HOK := hid (show (gdB A sa fa && gdB B sb fb) = true by rw [hGA, hGB]; rfl)
      have HGA := hid (gdd_of hGA)
      have HGB := hid (gdd_of hGB)
      have sta := HGA.out.st
      have fia := HGA.out.fi
      have stb := HGB.out.st
      have fib := HGB.out.fi
      obtain ⟨sx, rfl⟩ : ∃ x : Nat, sa = (x : Int) := ⟨sa.toNat, by omega⟩
      obtain ⟨fx, rfl⟩ : ∃ x : Nat, fa = (x : Int) := ⟨fa.toNat, by omega⟩
      obtain ⟨sy, rfl⟩ : ∃ x : Nat, sb = (x : Int) := ⟨sb.toNat, by omega⟩
      obtain ⟨fy, rfl⟩ : ∃ x : Nat, fb = (x : Int) := ⟨fb.toNat, by omega⟩
      have HLT := hid (show sx < na ∧ fx < na ∧ sy < nb ∧ fy < nb by have h1 := HNA.out; have h2 := HNB.out; omega)
      clear hGA hGB sta fia stb fib HB2
      have hnn : ¬ (4096 : Int) < (na : Int) + (nb : Int) := by omega
      have hw0 : IntKind.i64.wrap ((na : Int) + (nb : Int)) = (na : Int) + (nb : Int) := by rw [IntKind.wrap_i64]; omega
      have hw2 : IntKind.i64.wrap ((na : Int) + (nb : Int) + 2) = (na : Int) + (nb : Int) + 2 := by rw [IntKind.wrap_i64]; omega
      obtain ⟨⟨a0, _, _⟩, b0, _, _⟩ := HC.out
      have a0 := cell_bl HB3.out a0
      have b0 := cell_bl HB3.out b0
      obtain ⟨P, hP⟩ : ∃ P, P = w3.heap.size := ⟨_, rfl⟩
      obtain ⟨W0, hW0⟩ : ∃ W, W = w3.alloc (.cells #[.slice none 0 0] 72) := ⟨_, rfl⟩
      have hr : W0.heap[P]? = some (.cells #[.slice none 0 0] 72) := by rw [hW0]; exact al_new _ _ hP
      have hb0 : Below w3.heap.size w3 W0 := by rw [hW0]; exact (Below.refl _ _).alloc (Nat.le_refl _) _
      have hs0 : W0.heap.size = P + 1 := by rw [hW0, hP]; simp
      have HBU0 := hid (Bu.nil hr)
      have HKP := hid (show ∀ (W : World) (Q : List Value), Gsu P W0 W [.slice none 0 0] Q → Below w3.heap.size w3 W ∧ Below w1.heap.size w1 W ∧ P + 1 ≤ W.heap.size from fun W Q h => by
        have h1 := h.low HBU0.out hb0 (by omega) (by omega)
        exact ⟨h1, HB3.out.trans (h1.mono HB3.out.size), by have := h.size; omega⟩)
      have HCW := hid (show ∀ W, Below w1.heap.size w1 W → (W.cell? ⟨w.heap.size, 0, none⟩ = some (.slice so na sc) ∧ W.cell? ⟨w.heap.size, 1, none⟩ = some (.int .i64 (sx : Int)) ∧ W.cell? ⟨w.heap.size, 2, none⟩ = some (.int .i64 (fx : Int))) ∧ W.cell? ⟨w.heap.size + 1, 0, none⟩ = some (.slice to nb tc) ∧ W.cell? ⟨w.heap.size + 1, 1, none⟩ = some (.int .i64 (sy : Int)) ∧ W.cell? ⟨w.heap.size + 1, 2, none⟩ = some (.int .i64 (fy : Int)) from fun W h => by
        obtain ⟨⟨h1, h2, h3⟩, h4, h5, h6⟩ := HC.out
        exact ⟨⟨cell_bl h h1, cell_bl h h2, cell_bl h h3⟩, cell_bl h h4, cell_bl h h5, cell_bl h h6⟩)
      have HSA3 := hid (show RdS w3 so A from (HSA.out.below HB1.out).below HB3.out)
      have HSB3 := hid (show RdS w3 to B from (HSB.out.below HB1.out).below HB3.out)
      have HPW := hid (show P = w3.heap.size from hP)
      have HPP := hid hP
      have HWW := hid hW0
      have HPG := hid (show w.heap.size + 3 ≤ P by have h1 := HSZ1.out; have h2 := HB3.out.size; omega)
      obtain ⟨hk3, hk1, hks⟩ := HKP.out _ _ (Gsu.refl P W0 _)
      obtain ⟨⟨a0', a1, a2⟩, b0', b1, b2⟩ := HCW.out _ hk1
      have HBE := hid (behind_any so sc na A sx fx P (P + 1) 0 (.slice none 0 0) [] [] w3 W0.drew (HBU0.out.keep (Below.refl _ _).drew) HNA.out HSA3.out (hk3.drew) (by have := HPW.out; omega) (by have := HPW.out; omega) hks (by omega) HGA.out (by have := HEA.out; omega) (by have := HFA.out; omega))
      clear hk3 hk1 hks
      clear hP hW0 hr hb0 hs0 HC
      go_wp2_with fail
      rw [← HPP.out, ← HWW.out]
      clear HPP HWW a0 b0 hnn hw0 hw2
      refine wp_region_mixT (.one 0 1 (.one 1 1 (.one 3 1 (.one 4 1 (.one 2 2 (.one 5 2 (.one 6 2 (.one 7 2 .nil)))))))) (fun _ => True) (fun w' => (w'.cell? ⟨w.heap.size, 0, none⟩ = some (.slice so na sc) ∧ w'.cell? ⟨w.heap.size, 1, none⟩ = some (.int .i64 (sx : Int)) ∧ w'.cell? ⟨w.heap.size, 2, none⟩ = some (.int .i64 (fx : Int))) ∧ w'.cell? ⟨w.heap.size + 1, 0, none⟩ = some (.slice to nb tc) ∧ w'.cell? ⟨w.heap.size + 1, 1, none⟩ = some (.int .i64 (sy : Int)) ∧ w'.cell? ⟨w.heap.size + 1, 2, none⟩ = some (.int .i64 (fy : Int))) (fun _ => false) (by kernel_rfl) (by kernel_rfl) (fun j hj => by cases hj) rfl (by kernel_rfl) trivial ⟨⟨a0', a1, a2⟩, b0', b1, b2⟩ ?_
      iterate 4 (refine mixT_t ?_ rfl (by kernel_rfl) (fun w' hS => ?_) ?_; (rotate_left; (obtain ⟨⟨s1, s2, s3⟩, s4, s5, s6⟩ := hS; go_simp; with_reducible rfl); rotate_left))
      clear a0' a1 a2 b0' b1 b2
      refine mixT_go rfl (by kernel_rfl) fun KK hKK => ?_
      go_simp
      refine HBE.out.mono ?_
      rintro e w5 ⟨rfl, V5, R5, hBu, hSt⟩
      rw [Nat.zero_add, List.nil_append] at hBu
      have HBU5 := hid hBu
      have HST5 := hid ((Gsu.below (Below.refl W0.heap.size W0).drew P [.slice none 0 0]).trans hSt)
      clear hBu hSt HBE
      obtain ⟨hk3, hk1, hks⟩ := HKP.out _ _ HST5.out
      refine hKK _ _ (fun _ => trivial) (HCW.out _ hk1) ?_
      clear hKK KK
      refine mixT_go rfl (by kernel_rfl) fun KK hKK => ?_
      go_simp
      refine (behind_any to tc nb B sy fy P (P + 1) na V5 _ R5 w3 w5 HBU5.out HNB.out HSB3.out hk3 (by have := HPW.out; omega) (by have := HPW.out; omega) hks (by omega) HGB.out (by have := HEB.out; omega) (by have := HFB.out; omega)).mono ?_
      rintro e w6 ⟨rfl, V6, R6, hBu, hSt⟩
      obtain ⟨k3, hk3'⟩ : ∃ k3, k3 = na + nb := ⟨_, rfl⟩
      rw [← hk3'] at hBu
      have HBU6 := hid hBu
      have HST6 := hid (HST5.out.trans hSt)
      have HK3 := hid hk3'
      clear hBu hSt hk3 hk1 hks hk3'
      obtain ⟨hk3, hk1, hks⟩ := HKP.out _ _ HST6.out
      refine hKK _ _ (fun _ => trivial) (HCW.out _ hk1) ?_
      clear hKK KK
      refine mixT_go rfl (by kernel_rfl) fun KK hKK => ?_
      go_simp
      refine hKK _ _ (fun _ => trivial) (HCW.out _ hk1) ?_
      clear hKK KK
      refine mixT_go rfl (by kernel_rfl) fun KK hKK => ?_
      go_simp
      refine hKK _ _ (fun _ => trivial) (HCW.out _ hk1) ?_
      clear hKK KK
      refine mixT_end (NoPanic.normal ?_)
      clear hk3 hk1 HBU5 HST5
      obtain ⟨x2, hx2⟩ : ∃ x : Nat, x = na + sy := ⟨_, rfl⟩
      obtain ⟨x3, hx3⟩ : ∃ x : Nat, x = na + fy := ⟨_, rfl⟩
      have e1 : IntKind.i64.wrap (fx : Int) = (fx : Int) := by rw [IntKind.wrap_i64]; have := HLT.out; omega
      have e2 : IntKind.i64.wrap ((na : Int) + (sy : Int)) = (x2 : Int) := by rw [IntKind.wrap_i64]; have h1 := HLT.out; omega
      have e3 : IntKind.i64.wrap (sx : Int) = (sx : Int) := by rw [IntKind.wrap_i64]; have := HLT.out; omega
      have e4 : IntKind.i64.wrap ((na : Int) + (fy : Int)) = (x3 : Int) := by rw [IntKind.wrap_i64]; have h1 := HLT.out; omega
      have HX := hid (show x2 = na + sy ∧ x3 = na + fy from ⟨hx2, hx3⟩)
      clear hx2 hx3
      obtain ⟨X6, hX6⟩ : ∃ X : List St, X = mv (0 : Nat) A ++ mv (na : Nat) B := ⟨_, rfl⟩
      have HL6 := hid (show X6.length = k3 from HBU6.out.gro.len ▸ (by rw [hX6]))
      have HF6 := hid (show fS X6 ≤ 200000 by
        have h1 := HFA.out
        have h2 := HFB.out
        rw [hX6, fS_app, fS_mv, fS_mv]
        omega)
      rw [← hX6] at HBU6
      have HX6 := hid hX6
      clear hX6
      obtain ⟨hk3, hk1, _⟩ := HKP.out _ _ HST6.out
      obtain ⟨⟨a0, a1, a2⟩, b0, b1, b2⟩ := HCW.out _ hk1
      obtain ⟨E6, F6, hM, hF⟩ := frees_in (M := X6) (t := fx) (k := 200000) (by have h1 := HL6.out; have h2 := HLT.out; have h3 := HK3.out; omega) HF6.out (by omega)
      have HFE := hid (HBU6.out.free (i := (x2 : Int)) hM hF hks)
      clear hM hF hk3 hk1 hks a0 a1 b0 b2
      go_wp2_with fail
      clear a2 b1
      refine HFE.out.mono ?_
      rintro e w7 ⟨rfl, V7, R7, hBu, hSt⟩
      have HBU7 := hid hBu
      have HST7 := hid (HST6.out.trans hSt)
      clear hBu hSt HFE HBU6 HST6
      obtain ⟨hk3, hk1, hks⟩ := HKP.out _ _ HST7.out
      obtain ⟨⟨a0, a1, a2⟩, b0, b1, b2⟩ := HCW.out _ hk1
      obtain ⟨vo, vc, rfl⟩ := HBU7.out.form
      have r0 : w7.cell? ⟨P, 0, none⟩ = some (.slice vo k3 vc) := by rw [cell_of_row w7 P 0 _ 72 (0, 0) HBU7.out.box]; rfl
      obtain ⟨hz1, hbw⟩ := HBAD.out _ hk1
      have z0 := frozen_of_row w7 (w.heap.size + 2) 0 _ 28 hz1
      have z1 := frozen_of_row w7 (w.heap.size + 2) 1 _ 28 hz1
      have z2 := frozen_of_row w7 (w.heap.size + 2) 2 _ 28 hz1
      have y0 : w7.cell? ⟨w.heap.size + 2, 0, none⟩ = some (.slice none 0 0) := by rw [cell_of_row w7 (w.heap.size + 2) 0 _ 28 (0, 0) hz1]; rfl
      have y1 : w7.cell? ⟨w.heap.size + 2, 1, none⟩ = some (.int .i64 0) := by rw [cell_of_row w7 (w.heap.size + 2) 1 _ 28 (0, 0) hz1]; rfl
      have y2 : w7.cell? ⟨w.heap.size + 2, 2, none⟩ = some (.int .i64 0) := by rw [cell_of_row w7 (w.heap.size + 2) 2 _ 28 (0, 0) hz1]; rfl
      have HR := hid hz1
      have HBW := hid hbw
      clear hz1 hbw hk3 hk1 a0 a2 b0 b1
      go_wp2_with fail
      refine wp_region_mix [(0, true), (1, true), (2, true), (3, true), (4, true), (5, true), (6, true), (7, true), (8, true), (9, true), (10, true), (11, true), (12, true), (13, false)] (fun w' => w'.cell? ⟨P, 0, none⟩ = some (.slice vo k3 vc) ∧ w'.cell? ⟨w.heap.size, 1, none⟩ = some (.int .i64 (sx : Int)) ∧ w'.cell? ⟨w.heap.size + 1, 2, none⟩ = some (.int .i64 (fy : Int))) (fun j => j == 13) (by kernel_rfl) (by kernel_rfl) (fun j hj => by have := beq_iff_eq.1 hj; subst this; decide) rfl (by kernel_rfl) ⟨r0, a1, b2⟩ ?_
      iterate 13 (refine mix_free ?_ rfl (by kernel_rfl) (fun w' hS => ?_) ?_; (rotate_left; (obtain ⟨s1, s2, s3⟩ := hS; go_simp; with_reducible rfl); rotate_left))
      refine mix_go rfl (by kernel_rfl) fun KK hKK => ?_
      go_simp
      refine hKK _ _ (fun h => by cases h) ?_
      clear hKK KK e1 e2 e3 e4
      refine mix_end (NoPanic.normal ?_)
      go_wp2
      (try simp only [Exit.inBlock, Exit.then])
      have e1 := heap_setCell_same w7 (w.heap.size + 2) 0 _ 28 (.slice vo k3 vc) HR.out
      have e2 := heap_setCell_same _ (w.heap.size + 2) 1 _ 28 (.int .i64 (sx : Int)) e1
      have e3 := heap_setCell_same _ (w.heap.size + 2) 2 _ 28 (.int .i64 (x3 : Int)) e2
      refine bodyPost_ret (results_cell_row rfl _ _ (w.heap.size + 2) 28 #[.slice vo k3 vc, .int .i64 (sx : Int), .int .i64 (x3 : Int)] (0, 0) _ rfl e3 Tryd.underlying28 rfl (by kernel_rfl)) rfl ?_
      have hoth : ∀ b, b ≠ w.heap.size + 2 → (((w7.setCell ⟨w.heap.size + 2, 0, none⟩ (.slice vo k3 vc)).setCell ⟨w.heap.size + 2, 1, none⟩ (.int .i64 (sx : Int))).setCell ⟨w.heap.size + 2, 2, none⟩ (.int .i64 (x3 : Int))).heap[b]? = w7.heap[b]? := fun b hb => by
        rw [heap_setCell_other _ ⟨w.heap.size + 2, 2, none⟩ b _ (fun e => hb e), heap_setCell_other _ ⟨w.heap.size + 2, 1, none⟩ b _ (fun e => hb e), heap_setCell_other _ ⟨w.heap.size + 2, 0, none⟩ b _ (fun e => hb e)]
      have hfin : Below w.heap.size w (((w7.setCell ⟨w.heap.size + 2, 0, none⟩ (.slice vo k3 vc)).setCell ⟨w.heap.size + 2, 1, none⟩ (.int .i64 (sx : Int))).setCell ⟨w.heap.size + 2, 2, none⟩ (.int .i64 (x3 : Int))) := HBW.out.trans ⟨rfl, rfl, rfl, by simp, fun b hb => hoth b (by omega)⟩
      have hpg := HPG.out
      have hJ : adF X6 fx (x2 : Int) = thn A fx B sy := by
        rw [HX6.out, HNA.out]
        exact thn_eq rfl (by rw [HX.out.1, HNA.out])
      refine ⟨P + 1, _, _, _, _, R7, (sx : Int), (x3 : Int), rfl, ⟨fun _ => ⟨hJ, rfl, by have h1 := HX.out.2; have h3 := HNA.out; omega⟩, fun h => (by rw [HOK.out] at h; cases h)⟩, by omega, (by have h : P + 1 ≤ w7.heap.size := hks; simpa using h), ?_, hfin.drew⟩
      exact HBU7.out.gro.keep2 (by simp) fun k hk _ => hoth k (by omega)
    · rw [hGB]
      obtain ⟨hz1, hbw⟩ := HBAD.out _ HB3.out
      have z0 := frozen_of_row w3 (w.heap.size + 2) 0 _ 28 hz1
      have z1 := frozen_of_row w3 (w.heap.size + 2) 1 _ 28 hz1
      have z2 := frozen_of_row w3 (w.heap.size + 2) 2 _ 28 hz1
      have y0 : w3.cell? ⟨w.heap.size + 2, 0, none⟩ = some (.slice none 0 0) := by rw [cell_of_row w3 (w.heap.size + 2) 0 _ 28 (0, 0) hz1]; rfl
      have y1 : w3.cell? ⟨w.heap.size + 2, 1, none⟩ = some (.int .i64 0) := by rw [cell_of_row w3 (w.heap.size + 2) 1 _ 28 (0, 0) hz1]; rfl
      have y2 : w3.cell? ⟨w.heap.size + 2, 2, none⟩ = some (.int .i64 0) := by rw [cell_of_row w3 (w.heap.size + 2) 2 _ 28 (0, 0) hz1]; rfl
      have HR := hid hz1
      have HBW := hid hbw
      have HGB := hid (show (gdB A sa fa && gdB B sb fb) = false by rw [hGA, hGB]; rfl)
      clear hz1 hbw
      go_wp2
      (try simp only [Exit.inBlock, Exit.then])
      have e1 := heap_setCell_same w3 (w.heap.size + 2) 0 _ 28 (.slice none 0 0) HR.out
      have e2 := heap_setCell_same _ (w.heap.size + 2) 1 _ 28 (.int .i64 0) e1
      have e3 := heap_setCell_same _ (w.heap.size + 2) 2 _ 28 (.int .i64 0) e2
      refine bodyPost_ret (results_cell_row rfl _ _ (w.heap.size + 2) 28 #[.slice none 0 0, .int .i64 0, .int .i64 0] (0, 0) _ rfl e3 Tryd.underlying28 rfl (by kernel_rfl)) rfl ?_
      have hfin : Below w.heap.size w (((w3.setCell ⟨w.heap.size + 2, 0, none⟩ (.slice none 0 0)).setCell ⟨w.heap.size + 2, 1, none⟩ (.int .i64 0)).setCell ⟨w.heap.size + 2, 2, none⟩ (.int .i64 0)) := HBW.out.trans ⟨rfl, rfl, rfl, by simp, fun b hb => by
        rw [heap_setCell_other _ ⟨w.heap.size + 2, 2, none⟩ b _ (fun e => by have e' : b = w.heap.size + 2 := e; omega), heap_setCell_other _ ⟨w.heap.size + 2, 1, none⟩ b _ (fun e => by have e' : b = w.heap.size + 2 := e; omega), heap_setCell_other _ ⟨w.heap.size + 2, 0, none⟩ b _ (fun e => by have e' : b = w.heap.size + 2 := e; omega)]⟩
      exact ⟨w.heap.size, none, 0, 0, [], [], 0, 0, rfl, ⟨fun h => (by rw [HGB.out] at h; cases h), fun _ => ⟨rfl, rfl, rfl⟩⟩, Nat.le_refl _, hfin.size, Gro.nil _ _, hfin⟩
  · rw [hGA]
    obtain ⟨hz1, hbw⟩ := HBAD.out _ HB2.out
    have z0 := frozen_of_row w2 (w.heap.size + 2) 0 _ 28 hz1
    have z1 := frozen_of_row w2 (w.heap.size + 2) 1 _ 28 hz1
    have z2 := frozen_of_row w2 (w.heap.size + 2) 2 _ 28 hz1
    have y0 : w2.cell? ⟨w.heap.size + 2, 0, none⟩ = some (.slice none 0 0) := by rw [cell_of_row w2 (w.heap.size + 2) 0 _ 28 (0, 0) hz1]; rfl
    have y1 : w2.cell? ⟨w.heap.size + 2, 1, none⟩ = some (.int .i64 0) := by rw [cell_of_row w2 (w.heap.size + 2) 1 _ 28 (0, 0) hz1]; rfl
    have y2 : w2.cell? ⟨w.heap.size + 2, 2, none⟩ = some (.int .i64 0) := by rw [cell_of_row w2 (w.heap.size + 2) 2 _ 28 (0, 0) hz1]; rfl
    have HR := hid hz1
    have HBW := hid hbw
    have HGB := hid (show (gdB A sa fa && gdB B sb fb) = false by rw [hGA]; rfl)
    clear hz1 hbw
    go_wp2
    (try simp only [Exit.inBlock, Exit.then])
    have e1 := heap_setCell_same w2 (w.heap.size + 2) 0 _ 28 (.slice none 0 0) HR.out
    have e2 := heap_setCell_same _ (w.heap.size + 2) 1 _ 28 (.int .i64 0) e1
    have e3 := heap_setCell_same _ (w.heap.size + 2) 2 _ 28 (.int .i64 0) e2
    refine bodyPost_ret (results_cell_row rfl _ _ (w.heap.size + 2) 28 #[.slice none 0 0, .int .i64 0, .int .i64 0] (0, 0) _ rfl e3 Tryd.underlying28 rfl (by kernel_rfl)) rfl ?_
    have hfin : Below w.heap.size w (((w2.setCell ⟨w.heap.size + 2, 0, none⟩ (.slice none 0 0)).setCell ⟨w.heap.size + 2, 1, none⟩ (.int .i64 0)).setCell ⟨w.heap.size + 2, 2, none⟩ (.int .i64 0)) := HBW.out.trans ⟨rfl, rfl, rfl, by simp, fun b hb => by
      rw [heap_setCell_other _ ⟨w.heap.size + 2, 2, none⟩ b _ (fun e => by have e' : b = w.heap.size + 2 := e; omega), heap_setCell_other _ ⟨w.heap.size + 2, 1, none⟩ b _ (fun e => by have e' : b = w.heap.size + 2 := e; omega), heap_setCell_other _ ⟨w.heap.size + 2, 0, none⟩ b _ (fun e => by have e' : b = w.heap.size + 2 := e; omega)]⟩
    exact ⟨w.heap.size, none, 0, 0, [], [], 0, 0, rfl, ⟨fun h => (by rw [HGB.out] at h; cases h), fun _ => ⟨rfl, rfl, rfl⟩⟩, Nat.le_refl _, hfin.size, Gro.nil _ _, hfin⟩
end Go.Proofs.YteacehfihogmpaaDoor
/- The contract of spoil (the laws'), once more: what such writing keeps besides. -/
namespace Go.Proofs.YteacehfihogmpaaDoor
open Go.RowKit

/-- What stays when rows of numbers, and the second cells of edges, are written over, and when boxes are made. -/
structure Sgd (I : World → Prop) : Prop where
  al : ∀ W o, I W → I (W.alloc o)
  s3 : ∀ (W : World) (g j : Nat) (c : Array Value), I W → W.heap[g]? = some (.cells c 3) → I (W.setCell ⟨g, j, none⟩ (.int .i64 (-7)))
  s88 : ∀ (W : World) (g i : Nat) (c : Array Value), I W → W.heap[g]? = some (.cells c 88) → I (W.setCell ⟨g, i * 2 + 1, none⟩ (.int .i64 (-7)))
theorem sgd_sps (B : Nat) (V : Value) (n : Nat) (R : List Value) : Sgd (fun W => SpS W B V n R) :=
  ⟨fun _ o h => h.keep fun _ hk => al_old _ o hk, fun _ _ _ _ h hg => h.set3 hg _, fun _ _ _ _ h hg => h.set88 hg _⟩
set_option maxHeartbeats 16000000 in
set_option maxRecDepth 100000 in
theorem spoil_keeps {I : World → Prop} (hS : Sgd I) (B : Nat) (so : Option Addr) (sc n : Nat) (s f : Int) (R : List Value) (w : World) (h : SpS w B (.slice so n sc) n R) (hn : n ≤ 1000000) (hB : B ≤ w.heap.size) (hI : I w) :
    Calls Tryd.prog 16 #[.agg #[.slice so n sc, .int .i64 s, .int .i64 f]] w fun e w' => e = .returned (.tuple #[]) ∧ Below B w w' ∧ I w' := by
  have HSP := hid (h.keep (w' := w.alloc (.cells #[.slice so n sc, .int .i64 s, .int .i64 f] 28)) fun k hk => al_old _ _ hk)
  have HB0 := hid ((Below.refl B w).alloc hB (.cells #[.slice so n sc, .int .i64 s, .int .i64 f] 28))
  have HP1 := hid (al_new w (.cells #[.slice so n sc, .int .i64 s, .int .i64 f] 28) rfl)
  have HSG := hid hS
  have HI0 := hid (hS.al _ (.cells #[.slice so n sc, .int .i64 s, .int .i64 f] 28) hI)
  clear h hI hS
  go_enter Tryd.func16, Tryd.ntmps16
  go_wp2
  go_loopw [2] (fun y wr => ∃ i : Nat, y = .int .i64 i ∧ i ≤ n ∧ Hid (SpS wr B (.slice so n sc) n R) ∧ Hid (Below B w wr ∧ I wr) ∧ Hid (wr.heap[w.heap.size]? = some (.cells #[.slice so n sc, .int .i64 s, .int .i64 f] 28))) (fun y _ => n - (intOf y).toNat)
  case atStart => exact ⟨0, rfl, Nat.zero_le _, HSP, ⟨HB0.out, HI0.out⟩, HP1⟩
  case round =>
    clear HSP HB0 HP1 HI0
    obtain ⟨i, rfl, hi, HSP, HBW, HP1⟩ := hrel
    have c0 : wr.cell? ⟨w.heap.size, 0, none⟩ = some (.slice so n sc) := by rw [cell_of_row wr w.heap.size 0 _ 28 (0, 0) HP1.out]; rfl
    by_cases hlt : i < n
    · have i3 : (i : Int) < (n : Int) := by omega
      have i0 : (0 : Int) ≤ (i : Int) := by omega
      obtain ⟨eo, en, ec, fo, fn, fc, r0, r1, hE, hF⟩ := HSP.out.2 i hlt
      obtain ⟨g, eg, hgB, hgs, x0, x1⟩ := own2_form HSP.out.1 r0 r1
      subst eg
      have hen : en ≤ 1000000 := hE.1
      have hfn : fn ≤ 1000000 := hF.1
      have HR0 := hid r0
      have HR1 := hid r1
      obtain ⟨p3, hp3⟩ : ∃ p3, p3 = wr.heap.size := ⟨_, rfl⟩
      obtain ⟨w3, hw3⟩ : ∃ w3, w3 = wr.alloc (.cells #[.slice eo en ec, .slice fo fn fc] 86) := ⟨_, rfl⟩
      have HSP3 := hid (HSP.out.keep (w' := w3) fun k hk => by rw [hw3]; exact al_old _ _ hk)
      have HB3 := hid (show Below B w w3 ∧ I w3 by rw [hw3]; exact ⟨HBW.out.1.alloc (by have := HBW.out.1.size; omega) _, HSG.out.al _ _ HBW.out.2⟩)
      have HP13 := hid (show w3.heap[w.heap.size]? = some (.cells #[.slice (some ⟨g, 0, none⟩) n sc, .int .i64 s, .int .i64 f] 28) by rw [hw3, al_old _ _ (lt_of HP1.out)]; exact HP1.out)
      have HP33 := hid (show w3.heap[p3]? = some (.cells #[.slice eo en ec, .slice fo fn fc] 86) by rw [hw3]; exact al_new _ _ hp3)
      clear hE hF r0 r1 hgB hgs
      go_wp2
      rw [← hw3, ← hp3]
      clear hw3 hp3 c0 x0 x1 HSP HBW HP1
      go_loopw [4] (fun y wr => ∃ k : Nat, y = .int .i64 k ∧ k ≤ en ∧ Hid (SpS wr B (.slice (some ⟨g, 0, none⟩) n sc) n R) ∧ Hid (Below B w wr ∧ I wr) ∧ Hid (Kty (fun e => e == 3 || e == 88) w3 wr)) (fun y _ => en - (intOf y).toNat)
      case atStart => exact ⟨0, rfl, Nat.zero_le _, HSP3, HB3, Kty.refl _ _⟩
      case round =>
        clear HSP3 HB3
        obtain ⟨k, rfl, hk, HSP, HBW, HK⟩ := hrel
        have hp3 := HK.out.row HP33.out rfl
        have y0 : wr.cell? ⟨p3, 0, none⟩ = some (.slice eo en ec) := by rw [cell_of_row wr p3 0 _ 86 (0, 0) hp3]; rfl
        by_cases hke : k < en
        · have k3 : (k : Int) < (en : Int) := by omega
          have k0 : (0 : Int) ≤ (k : Int) := by omega
          obtain ⟨eo', en', ec', fo', fn', fc', r0, r1, hE, hF⟩ := HSP.out.2 i hlt
          rw [HR0.out] at r0
          cases r0
          obtain ⟨q, cq, co, cn, cc, u, eq, hqB, hq, z0, z1, z2, hI⟩ := hE.form hke
          subst eq
          have hcn : cn ≤ 1000000 := hI.1
          obtain ⟨w4, hw4⟩ : ∃ w4, w4 = wr := ⟨_, rfl⟩
          rw [← hw4] at HSP HBW HK y0 hq z0 hI hp3 ⊢
          have HQ := hid hq
          have HP3 := hid hp3
          have HIC := hid hI
          have HZ0 := hid z0
          clear z1 z2 hF hE r1 u hw4
          go_wp2
          go_loopw [5] (fun y wr => ∃ j : Nat, y = .int .i64 j ∧ j ≤ cn ∧ Hid (SpS wr B (.slice (some ⟨g, 0, none⟩) n sc) n R) ∧ Hid (Below B w wr ∧ I wr) ∧ Hid (Kty (fun e => e == 3) w4 wr) ∧ Hid (SpI wr B (.slice co cn cc) cn)) (fun y _ => cn - (intOf y).toNat)
          case atStart => exact ⟨0, rfl, Nat.zero_le _, HSP, HBW, Kty.refl _ _, HIC⟩
          case round =>
            clear HSP HBW HIC y0 z0 hp3 hq hI
            obtain ⟨j, rfl, hj, HSP, HBW, HK4, HIC⟩ := hrel
            have hp3 := HK4.out.row HP3.out rfl
            have hq := HK4.out.row HQ.out rfl
            have y0 : wr.cell? ⟨p3, 0, none⟩ = some (.slice (some ⟨q, 0, none⟩) en ec) := by rw [cell_of_row wr p3 0 _ 86 (0, 0) hp3]; rfl
            have z0 : wr.cell? ⟨q, k * 2, none⟩ = some (.slice co cn cc) := (World.cell?_of_block (a := ⟨q, k * 2, none⟩) (show wr.heap[q]? = w4.heap[q]? from hq.trans HQ.out.symm)).trans HZ0.out
            by_cases hjc : j < cn
            · have j3 : (j : Int) < (cn : Int) := by omega
              have j0 : (0 : Int) ≤ (j : Int) := by omega
              obtain ⟨q2, c2, u2, eq2, hqB2, hq2, y1, y2⟩ := HIC.out.form hjc
              subst eq2
              have HA := hid (HSP.out.set3 (j := j) hq2 (.int .i64 (-7)))
              have HBb := hid (show Below B w (wr.setCell ⟨q2, j, none⟩ (.int .i64 (-7))) ∧ I (wr.setCell ⟨q2, j, none⟩ (.int .i64 (-7))) from ⟨set_below (j := j) (u := .int .i64 (-7)) HBW.out.1 hqB2, HSG.out.s3 _ _ _ _ HBW.out.2 hq2⟩)
              have HC := hid (HK4.out.trans (Kty.set (T := fun e => e == 3) (j := j) (u := .int .i64 (-7)) hq2 rfl))
              have HD := hid (HIC.out.set q2 j (.int .i64 (-7)))
              clear HSP HBW HK4 HIC hq2 hqB2 hp3 hq
              go_wp2
              go_roundw
              case rel => exact ⟨j + 1, by go_num, by omega, HA, HBb, HC, HD⟩
              case measure => simp [intOf]; omega
            · have j3 : ¬ (j : Int) < (cn : Int) := by omega
              obtain ⟨eo', en', ec', fo', fn', fc', r0, r1, hE, hF⟩ := HSP.out.2 i hlt
              rw [HR0.out] at r0
              cases r0
              obtain ⟨q', cq', co', cn', cc', u, eq', hqB', hq', zz, z1, z2, _⟩ := hE.form hke
              cases eq'
              have HA := hid (HSP.out.set88 (i := k) hq' (.int .i64 (-7)))
              have HBb := hid (show Below B w (wr.setCell ⟨q, k * 2 + 1, none⟩ (.int .i64 (-7))) ∧ I (wr.setCell ⟨q, k * 2 + 1, none⟩ (.int .i64 (-7))) from ⟨set_below (j := k * 2 + 1) (u := .int .i64 (-7)) HBW.out.1 hqB', HSG.out.s88 _ _ _ _ HBW.out.2 hq'⟩)
              have HC := hid (HK.out.trans ((HK4.out.mono (T' := fun e => e == 3 || e == 88) (fun e he => by simp at he ⊢; omega)).trans (Kty.set (T := fun e => e == 3 || e == 88) (j := k * 2 + 1) (u := .int .i64 (-7)) hq' rfl)))
              clear HSP HBW HK4 HIC hq' hqB' hp3 hq hE hF r1 zz hjc
              go_wp2
              go_roundw
              case rel => exact ⟨k + 1, by go_num, by omega, HA, HBb, HC⟩
              case measure => simp [intOf]; omega
        · have k3 : ¬ (k : Int) < (en : Int) := by omega
          obtain ⟨eo', en', ec', fo', fn', fc', r0, r1, hE, hF⟩ := HSP.out.2 i hlt
          rw [HR1.out] at r1
          cases r1
          obtain ⟨w4, hw4⟩ : ∃ w4, w4 = wr := ⟨_, rfl⟩
          rw [← hw4] at HSP HBW HK y0 hp3 hF ⊢
          have HP3 := hid hp3
          have HIC := hid hF
          have y1 : w4.cell? ⟨p3, 1, none⟩ = some (.slice fo fn fc) := by rw [cell_of_row w4 p3 1 _ 86 (0, 0) hp3]; rfl
          clear hw4 hE hF r0 hp3
          go_wp2
          go_loopw [6] (fun y wr => ∃ j : Nat, y = .int .i64 j ∧ j ≤ fn ∧ Hid (SpS wr B (.slice (some ⟨g, 0, none⟩) n sc) n R) ∧ Hid (Below B w wr ∧ I wr) ∧ Hid (Kty (fun e => e == 3) w4 wr) ∧ Hid (SpI wr B (.slice fo fn fc) fn)) (fun y _ => fn - (intOf y).toNat)
          case atStart => exact ⟨0, rfl, Nat.zero_le _, HSP, HBW, Kty.refl _ _, HIC⟩
          case round =>
            clear HSP HBW HIC y0 y1
            obtain ⟨j, rfl, hj, HSP, HBW, HK4, HIC⟩ := hrel
            have hp3 := HK4.out.row HP3.out rfl
            have y1 : wr.cell? ⟨p3, 1, none⟩ = some (.slice fo fn fc) := by rw [cell_of_row wr p3 1 _ 86 (0, 0) hp3]; rfl
            by_cases hjc : j < fn
            · have j3 : (j : Int) < (fn : Int) := by omega
              have j0 : (0 : Int) ≤ (j : Int) := by omega
              obtain ⟨q2, c2, u2, eq2, hqB2, hq2, y3, y2⟩ := HIC.out.form hjc
              subst eq2
              have HA := hid (HSP.out.set3 (j := j) hq2 (.int .i64 (-7)))
              have HBb := hid (show Below B w (wr.setCell ⟨q2, j, none⟩ (.int .i64 (-7))) ∧ I (wr.setCell ⟨q2, j, none⟩ (.int .i64 (-7))) from ⟨set_below (j := j) (u := .int .i64 (-7)) HBW.out.1 hqB2, HSG.out.s3 _ _ _ _ HBW.out.2 hq2⟩)
              have HC := hid (HK4.out.trans (Kty.set (T := fun e => e == 3) (j := j) (u := .int .i64 (-7)) hq2 rfl))
              have HD := hid (HIC.out.set q2 j (.int .i64 (-7)))
              clear HSP HBW HK4 HIC hq2 hqB2 hp3
              go_wp2
              go_roundw
              case rel => exact ⟨j + 1, by go_num, by omega, HA, HBb, HC, HD⟩
              case measure => simp [intOf]; omega
            · have j3 : ¬ (j : Int) < (fn : Int) := by omega
              have HP := hid (show wr.heap[w.heap.size]? = some (.cells #[.slice (some ⟨g, 0, none⟩) n sc, .int .i64 s, .int .i64 f] 28) from HK4.out.row (HK.out.row HP13.out rfl) rfl)
              clear HK4 HIC hp3 hjc
              go_wp2
              go_roundw
              case rel => exact ⟨i + 1, by go_num, by omega, HSP, HBW, HP⟩
              case measure => simp [intOf]; omega
    · have i3 : ¬ (i : Int) < (n : Int) := by omega
      go_wp2
      go_end0
      exact ⟨rfl, HBW.out.1, HBW.out.2⟩
end Go.Proofs.YteacehfihogmpaaDoor
/- A region that draws, gone through by hand also where two or three operations may come first. -/
namespace Go.Proofs.YteacehfihogmpaaDoor

/-- The orders that are gone through: a read next, one operation by hand, or either of two, or of three. -/
inductive Oq where
  | nil : Oq
  | rd : Nat → Oq → Oq
  | go : Nat → Oq → Oq
  | two : Nat → Nat → Oq → Oq → Oq
  | three : Nat → Nat → Nat → Oq → Oq → Oq → Oq
def Oq.len : Oq → Nat
  | .nil => 0
  | .rd _ r => r.len + 1
  | .go _ r => r.len + 1
  | .two _ _ r _ => r.len + 1
  | .three _ _ _ r _ _ => r.len + 1
section
variable {P : Program} {md : Region.Mode} {ops : Array Oper} {Q : Exit → Act → World → Prop} {T : World → Prop}
def Region.mixQ (md : Region.Mode) (ops : Array Oper) : Oq → Array Bool → Bool
  | .nil, listed => Region.ready md ops listed == []
  | .rd k r, listed => (Region.ready md ops listed).contains k && Region.free md ops listed k && Region.mixQ md ops r (listed.setIfInBounds k true)
  | .go k r, listed => (Region.ready md ops listed == [k]) && Region.mixQ md ops r (listed.setIfInBounds k true)
  | .two i j r s, listed => (Region.ready md ops listed == [i, j]) && (r.len == s.len) && Region.mixQ md ops r (listed.setIfInBounds i true) && Region.mixQ md ops s (listed.setIfInBounds j true)
  | .three i j k r s t, listed => (Region.ready md ops listed == [i, j, k]) && ((r.len == s.len) && (r.len == t.len)) && Region.mixQ md ops r (listed.setIfInBounds i true) && Region.mixQ md ops s (listed.setIfInBounds j true) && Region.mixQ md ops t (listed.setIfInBounds k true)
abbrev wpHnd (P : Program) (ops : Array Oper) (Q : Exit → Act → World → Prop) (T : World → Prop) (k : Nat) (K : Act → World → Prop) (a : Act) (w : World) : Prop := wpHand P ops Q (fun _ => True) T (fun _ => false) false k K a w
def wpMixQ (P : Program) (ops : Array Oper) (Q : Exit → Act → World → Prop) (T : World → Prop) : Oq → Act → World → Prop
  | .nil, a, w => Q .normal a w
  | .rd k r, a, w => ∃ o v, ops[k]? = some o ∧ YieldsIf P ops T o v a ∧ wpMixQ P ops Q T r (a.put o.dst v) w
  | .go k r, a, w => wpHnd P ops Q T k (wpMixQ P ops Q T r) a w
  | .two i j r s, a, w => wpHnd P ops Q T i (wpMixQ P ops Q T r) a w ∧ wpHnd P ops Q T j (wpMixQ P ops Q T s) a w
  | .three i j k r s t, a, w => wpHnd P ops Q T i (wpMixQ P ops Q T r) a w ∧ wpHnd P ops Q T j (wpMixQ P ops Q T s) a w ∧ wpHnd P ops Q T k (wpMixQ P ops Q T t) a w
theorem clean_no (listed : Array Bool) : Clean (fun _ => false) listed := fun j hj => by cases hj
theorem anyQ_tree (hsel : Region.noSelect ops = true) (hQ : ∀ c (a : Act) d v w, Q (.panic c) (a.put d v) w → Q (.panic c) a w) :
    ∀ (l : Oq) (listed : Array Bool) (a : Act) (w : World), Region.mixQ md ops l listed = true → T w → wpMixQ P ops Q T l a w → anyU P md ops Q (fun _ => True) T (fun _ => false) l.len listed a w
  | .nil, listed, a, w, hB, _, h => ⟨by simpa [Region.mixQ] using hB, h⟩
  | .rd k r, listed, a, w, hB, hT, h => by
    simp only [Region.mixQ, Bool.and_eq_true] at hB
    obtain ⟨⟨hr, hf⟩, hB'⟩ := hB
    obtain ⟨o, v, h0, hy, hK⟩ := h
    exact anyU_first (R := T) (fun _ => True) h0 rfl (Region.noSelect_spec hsel) (fun c a w => hQ c a _ _ w) (fun _ _ _ _ _ _ => trivial) (fun _ _ _ _ hT => hT) r.len listed a w trivial (Region.free_spec h0 hf) (by simpa using hr) hy (fun _ => trivial) hT
      (anyQ_tree hsel hQ r _ _ w hB' hT hK)
  | .go k r, listed, a, w, hB, hT, h => by
    simp only [Region.mixQ, Bool.and_eq_true, beq_iff_eq] at hB
    obtain ⟨hr, hB'⟩ := hB
    refine ⟨fun h1 => (by rw [hr] at h1; cases h1), fun i hi => ?_⟩
    have hik : i = k := by rw [hr] at hi; simpa using hi
    subst hik
    exact hand_any hi ⟨fun _ => clean_no _, fun _ => rfl⟩ h (fun _ a' w' _ h2 h3 => anyQ_tree hsel hQ r _ a' w' hB' h2 h3)
  | .two i j r s, listed, a, w, hB, hT, h => by
    simp only [Region.mixQ, Bool.and_eq_true, beq_iff_eq] at hB
    obtain ⟨⟨⟨hr, hl⟩, hB1⟩, hB2⟩ := hB
    obtain ⟨g1, g2⟩ := h
    refine ⟨fun h1 => (by rw [hr] at h1; cases h1), fun k hk => ?_⟩
    have hkk : k = i ∨ k = j := by rw [hr] at hk; simpa using hk
    rcases hkk with e | e
    · subst e
      exact hand_any hk ⟨fun _ => clean_no _, fun _ => rfl⟩ g1 (fun _ a' w' _ h2 h3 => anyQ_tree hsel hQ r _ a' w' hB1 h2 h3)
    · subst e
      refine hand_any hk ⟨fun _ => clean_no _, fun _ => rfl⟩ g2 (fun _ a' w' _ h2 h3 => ?_)
      have h5 := anyQ_tree hsel hQ s _ a' w' hB2 h2 h3
      rw [← hl] at h5
      exact h5
  | .three i j m r s t, listed, a, w, hB, hT, h => by
    simp only [Region.mixQ, Bool.and_eq_true, beq_iff_eq] at hB
    obtain ⟨⟨⟨⟨hr, hl, hl'⟩, hB1⟩, hB2⟩, hB3⟩ := hB
    obtain ⟨g1, g2, g3⟩ := h
    refine ⟨fun h1 => (by rw [hr] at h1; cases h1), fun k hk => ?_⟩
    have hkk : k = i ∨ k = j ∨ k = m := by rw [hr] at hk; simpa using hk
    rcases hkk with e | e | e
    · subst e
      exact hand_any hk ⟨fun _ => clean_no _, fun _ => rfl⟩ g1 (fun _ a' w' _ h2 h3 => anyQ_tree hsel hQ r _ a' w' hB1 h2 h3)
    · subst e
      refine hand_any hk ⟨fun _ => clean_no _, fun _ => rfl⟩ g2 (fun _ a' w' _ h2 h3 => ?_)
      have h5 := anyQ_tree hsel hQ s _ a' w' hB2 h2 h3
      rw [← hl] at h5
      exact h5
    · subst e
      refine hand_any hk ⟨fun _ => clean_no _, fun _ => rfl⟩ g3 (fun _ a' w' _ h2 h3 => ?_)
      have h5 := anyQ_tree hsel hQ t _ a' w' hB3 h2 h3
      rw [← hl'] at h5
      exact h5
/-- The law. -/
theorem wp_region_mixQ {id : Nat} {a : Act} {w : World} {l : List Oper} (ord : Oq) (T : World → Prop) (hm : P.follows .mixedOrders = true) (hsel : Region.noSelect l.toArray = true)
    (hlen : ord.len = l.length) (hB : Region.mixQ .any l.toArray ord (Array.replicate l.length false) = true) (hT : T w.drew)
    (h : wpMixQ P l.toArray (NoPanic Q) T ord a w.drew) : (Code.region id l.toArray true).wp P Q a w := by
  refine wp_region_noPanic (wp_region_any hm (anyU_any (S := fun _ => True) (T := T) (fin := fun _ => false) _ _ _ _ ?_))
  have H := anyQ_tree (P := P) (ops := l.toArray) (Q := NoPanic Q) (md := .any) (T := T) hsel (fun _ _ _ _ _ h => h) ord (Array.replicate l.length false) a w.drew hB hT h
  rw [hlen] at H
  simpa using H
theorem mixQ_rd {o : Oper} {k : Nat} {r : Oq} {a : Act} {w : World} (v : Value) (h0 : ops[k]? = some o) (hw : Region.wanted o (yielded ops a.tmps) = true) (h1 : ∀ w, T w → (execOp a.eval o).run P w = .ok (.value v) w) (h2 : wpMixQ P ops Q T r (a.put o.dst v) w) : wpMixQ P ops Q T (.rd k r) a w :=
  ⟨o, v, h0, .inl ⟨hw, h1⟩, h2⟩
theorem hnd_go {o : Oper} {k : Nat} {K : Act → World → Prop} {a : Act} {w : World} (h0 : ops[k]? = some o) (hw : Region.wanted o (yielded ops a.tmps) = true) (h : ∀ K' : Act → World → Prop, (∀ a w, T w → K a w → K' a w) → o.wp P a w K' Q) : wpHnd P ops Q T k K a w :=
  hand_go h0 hw fun K' h' => h K' fun a w h1 h2 => h' a w (fun _ => trivial) h1 h2
theorem mixQ_go {o : Oper} {k : Nat} {r : Oq} {a : Act} {w : World} (h0 : ops[k]? = some o) (hw : Region.wanted o (yielded ops a.tmps) = true) (h : ∀ K' : Act → World → Prop, (∀ a w, T w → wpMixQ P ops Q T r a w → K' a w) → o.wp P a w K' Q) : wpMixQ P ops Q T (.go k r) a w := hnd_go h0 hw h
theorem mixQ_two {i j : Nat} {r s : Oq} {a : Act} {w : World} (h1 : wpHnd P ops Q T i (wpMixQ P ops Q T r) a w) (h2 : wpHnd P ops Q T j (wpMixQ P ops Q T s) a w) : wpMixQ P ops Q T (.two i j r s) a w := ⟨h1, h2⟩
theorem mixQ_three {i j k : Nat} {r s t : Oq} {a : Act} {w : World} (h1 : wpHnd P ops Q T i (wpMixQ P ops Q T r) a w) (h2 : wpHnd P ops Q T j (wpMixQ P ops Q T s) a w) (h3 : wpHnd P ops Q T k (wpMixQ P ops Q T t) a w) : wpMixQ P ops Q T (.three i j k r s t) a w := ⟨h1, h2, h3⟩
theorem mixQ_end {a : Act} {w : World} (h : Q .normal a w) : wpMixQ P ops Q T .nil a w := h
end
end Go.Proofs.YteacehfihogmpaaDoor
/- The contract of own (the laws'), once more: the copy lies in rows that are new. -/
namespace Go.Proofs.YteacehfihogmpaaDoor
open Go.RowKit

/-- States that lie in none of the blocks X. -/
def RdSx (w : World) (X : Nat → Prop) (ao : Option Addr) (L : List St) : Prop :=
  ∀ (k : Nat) (s : St), L[k]? = some s → ∃ a : Addr, ao = some a ∧ a.block < w.heap.size ∧ ¬ X a.block ∧ (∃ (eo : Option Addr) (ec : Nat) (fo : Option Addr) (fc : Nat), w.cell? (a.add (k * 2)) = some (.slice eo s.1.length ec) ∧ w.cell? ⟨(a.add (k * 2)).block, (a.add (k * 2)).off + 1, none⟩ = some (.slice fo s.2.length fc) ∧ RdEx w X eo s.1 ∧ RdIx w X fo s.2) ∧ s.1.length ≤ most ∧ s.2.length ≤ most ∧ ∀ e ∈ s.1, e.1.length ≤ most
theorem RdSx.keep {w w' : World} {X X' : Nat → Prop} {ao : Option Addr} {L : List St} (h : RdSx w X ao L) (hk : Kp w w' X X') : RdSx w' X' ao L := fun k s hs => by
  obtain ⟨a, h1, h2, h3, ⟨eo, ec, fo, fc, c0, c1, h4, h5⟩, h6⟩ := h k s hs
  exact ⟨a, h1, Nat.lt_of_lt_of_le h2 hk.size, fun hx => h3 (hk.sub _ h2 hx), ⟨eo, ec, fo, fc, hk.cell (p := a.add (k * 2)) (by rw [add_blk]; exact h2) (by rw [add_blk]; exact h3) c0, hk.cell (p := ⟨(a.add (k * 2)).block, (a.add (k * 2)).off + 1, none⟩) (show (a.add (k * 2)).block < _ by rw [add_blk]; exact h2) (show ¬ X (a.add (k * 2)).block by rw [add_blk]; exact h3) c1, h4.keep hk, h5.keep hk⟩, h6⟩
theorem RdSx.reads {w : World} {X : Nat → Prop} {ao : Option Addr} {L : List St} (h : RdSx w X ao L) : RdS w ao L := fun k s hs => by
  obtain ⟨a, h1, h2, _, ⟨eo, ec, fo, fc, c0, c1, h4, h5⟩, h6, h7, h8⟩ := h k s hs
  refine ⟨a, h1, h2, eo, ec, fo, fc, c0, c1, fun j g hg => ?_, fun j z hz => ?_, h6, h7⟩
  · obtain ⟨a, e1, e2, _, co, cc, e3, e4, e5⟩ := h4 j g hg
    exact ⟨a, e1, e2, co, cc, e3, e4, fun i z hz => by obtain ⟨a', x1, x2, _, x3⟩ := e5 i z hz; exact ⟨a', x1, x2, x3⟩, h8 g (List.mem_of_getElem? hg)⟩
  · obtain ⟨a, x1, x2, _, x3⟩ := h5 j z hz
    exact ⟨a, x1, x2, x3⟩
theorem rdsx_of {B m vc : Nat} {w : World} {X Y : Nat → Prop} {vo : Option Addr} {R : List Value} {L : List St} (h : w.ownsRow B 86 2 (.slice vo m vc) m R) (hc : CpS w X L m R) (hm : m = L.length) (hb : ∀ s ∈ L, s.1.length ≤ most ∧ s.2.length ≤ most ∧ ∀ e ∈ s.1, e.1.length ≤ most) (hB : ∀ g, B ≤ g → ¬ Y g) (hY : ∀ g, Y g → X g) : RdSx w Y vo L := fun k s hs => by
  have hk := (List.getElem?_eq_some_iff.1 hs).1
  obtain ⟨eo, ec, fo, fc, h1, h2, h3, h4⟩ := hc k s (by omega) hs
  obtain ⟨q, rfl, hq, hlt, c0, c1⟩ := own2_form h h1 h2
  have hkp : Kp w w X Y := ⟨Nat.le_refl _, fun _ _ _ => rfl, fun g _ hg => hY g hg⟩
  exact ⟨_, rfl, hlt, hB q hq, ⟨eo, ec, fo, fc, by rw [Addr.add_lit, Nat.zero_add]; exact c0, by rw [Addr.add_lit, Nat.zero_add]; exact c1, h3.keep hkp, h4.keep hkp⟩, hb s (List.mem_of_getElem? hs)⟩
/-- What own leaves. -/
def OwnX (w : World) (n : Nat) (L : List St) (s f : Int) (e : Ending) (w' : World) : Prop :=
  ∃ (to : Option Addr) (tc : Nat), e = .returned (.agg #[.slice to n tc, .int .i64 s, .int .i64 f]) ∧ RdSx w' (fun b => b < w.heap.size) to L ∧ Below w.heap.size w w'
set_option maxHeartbeats 8000000 in
set_option maxRecDepth 100000 in
theorem ownx_any (so : Option Addr) (sc n : Nat) (L : List St) (s f : Int) (w : World) (hn : n = L.length) (hs : RdS w so L) (hnm : n ≤ 1000000) (hE : ∀ x ∈ L, x.1.length ≤ 1000000 ∧ x.2.length ≤ 1000000 ∧ ∀ e ∈ x.1, e.1.length ≤ 1000000) :
    Calls Tryd.prog 26 #[.agg #[.slice so n sc, .int .i64 s, .int .i64 f]] w fun e w' => OwnX w n L s f e w' := by
  obtain ⟨i86, hi86, hs0, hs1, hs2⟩ := info_parts Tryd.info86
  obtain ⟨i88, hi88, he0, he1, he2⟩ := info_parts Tryd.info88
  have HN := hid hn
  have HS := hid hs
  have HE := hid hE
  have HB0 := hid (Below.refl (w.heap.size + 2) ((w.alloc (.cells #[.slice so n sc, .int .i64 s, .int .i64 f] 28)).alloc (.cells #[.slice none 0 0, .int .i64 0, .int .i64 0] 28)))
  clear hn hs hE
  go_enter Tryd.func26, Tryd.ntmps26
  go_wp2
  go_loopw [3, 4] (fun x y wr => ∃ (i : Nat) (lo : Option Addr) (lc : Nat) (R : List Value), x = .slice lo i lc ∧ y = .int .i64 i ∧ i ≤ n ∧ Hid (wr.ownsRow (w.heap.size + 2) 86 2 (.slice lo i lc) i R) ∧ Hid (CpS wr (fun b => b < w.heap.size + 2 ∨ (Value.slice lo i lc).ownBlock = some b) L i R) ∧ Hid (Below (w.heap.size + 2) ((w.alloc (.cells #[.slice so n sc, .int .i64 s, .int .i64 f] 28)).alloc (.cells #[.slice none 0 0, .int .i64 0, .int .i64 0] 28)) wr)) (fun _ y _ => n - (intOf y).toNat)
  case atStart => exact ⟨0, none, 0, [], rfl, rfl, Nat.zero_le _, World.ownsRow_nil _ _ _ _, fun j s hj => (by omega), HB0⟩
  case round =>
    clear HB0
    obtain ⟨i, lo, lc, R, rfl, rfl, hi, HO, HC, HB⟩ := hrel
    have c0 : wr.cell? ⟨w.heap.size, 0, none⟩ = some (.slice so n sc) := (two_box HB.out).1 0
    have hsz : w.heap.size + 2 ≤ wr.heap.size := by have := HB.out.size; simpa using this
    by_cases hlt : i < n
    · have i3 : (i : Int) < (n : Int) := by omega
      have i0 : (0 : Int) ≤ (i : Int) := by omega
      have hiL : i < L.length := by have := HN.out; omega
      obtain ⟨E, F, hEF⟩ : ∃ E F, L[i]? = some (E, F) := ⟨L[i].1, _, List.getElem?_eq_getElem hiL⟩
      obtain ⟨a, ea, hab, eo, ec, fo, fc, f0w, f1w, hE, hF, _, _⟩ := HS.out i (E, F) hEF
      have hlens := HE.out _ (List.mem_of_getElem? hEF)
      dsimp only at f0w f1w hlens hE hF
      have f1 := ((two_low HB.out).cell (p := ⟨(a.add (i * 2)).block, (a.add (i * 2)).off + 1, none⟩) (show (a.add (i * 2)).block < _ by rw [add_blk]; exact hab)).trans f1w
      subst ea
      obtain ⟨en, hen⟩ : ∃ en, en = E.length := ⟨_, rfl⟩
      obtain ⟨fn, hfn⟩ : ∃ fn, fn = F.length := ⟨_, rfl⟩
      rw [← hen] at f0w
      rw [← hfn] at f1
      have HF0 := hid f0w
      have HAB := hid hab
      have HEN := hid hen
      have HFN := hid hfn
      have HER := hid hE
      have HFR := hid hF
      have HEF := hid hEF
      have HCE := hid hlens.2.2
      have hle1 : en ≤ 1000000 := by have := hlens.1; omega
      have hle2 : fn ≤ 1000000 := by have := hlens.2.1; omega
      clear hen hfn hE hF f0w f1w hEF hab hiL hlens
      have c0' : (wr.alloc (.cells #[] 3)).cell? ⟨w.heap.size, 0, none⟩ = some (.slice (some a) n sc) := cell_al c0
      have f1' : (wr.alloc (.cells #[] 3)).cell? ⟨(a.add (i * 2)).block, (a.add (i * 2)).off + 1, none⟩ = some (.slice fo fn fc) := cell_al f1
      have HOE := hid (show (wr.alloc (.cells #[] 3)).ownsRow wr.heap.size 3 1 (.slice (some ⟨wr.heap.size, 0, none⟩) 0 0) 0 [] from World.ownsRow_lit wr #[] 0 (Nat.le_refl _) (by decide) (by simp))
      have HBA := hid (HB.out.alloc hsz (.cells #[] 3))
      go_wp2_with (at_builtin; go_loud (refine wpList_copy rfl _ _ rfl wr.heap.size wr.heap.size rfl HOE.out fo fn fc F rfl (HFR.out.below (two_low HBA.out)) HFN.out hle2 (by simp) ?_); intro g gcap w2 o2 gr2 hg2 hlt2)
      obtain ⟨w3, hw3⟩ : ∃ w3, w3 = w2.alloc (.cells #[.slice none 0 0, .slice (some ⟨g, 0, none⟩) fn gcap] 86) := ⟨_, rfl⟩
      rw [← hw3]
      obtain ⟨p5, hp5⟩ : ∃ p5, p5 = w2.heap.size := ⟨_, rfl⟩
      rw [← hp5]
      have hws : wr.heap.size + 1 ≤ w2.heap.size := by have := gr2.size; simpa using this
      have hB5 : w3.heap.size = p5 + 1 := by rw [hw3, hp5]; simp
      have hgp : g < p5 := by omega
      have hgw : wr.heap.size ≤ g := by (rcases hg2 with h | h; (· omega); (· simp at h; omega))
      have HP3 := hid (show w3.heap[p5]? = some (.cells #[.slice none 0 0, .slice (some ⟨g, 0, none⟩) fn gcap] 86) by rw [hw3, hp5]; exact al_new _ _ rfl)
      have hblk : ∀ k, k < wr.heap.size → w3.heap[k]? = wr.heap[k]? := fun k hk => by
        rw [hw3, al_old _ _ (by omega), gr2.block k (by simp; omega) (fun e => by have := Option.some.inj e; omega), al_old _ _ hk]
      have HLO := hid (show ∀ b, (Value.slice lo i lc).ownBlock = some b → b < wr.heap.size from fun b hb => (HO.out.lt b hb).2)
      have HO3 := hid (own_same HO.out (W' := w3) (fun k _ hk => hblk k hk))
      have HC3 := hid (HC.out.keep (w' := w3) (X' := fun b => (b < w.heap.size + 2 ∨ (Value.slice lo i lc).ownBlock = some b) ∨ b = p5) ⟨by omega, fun k hk _ => hblk k hk, fun b hb h => h.elim id (fun e => by omega)⟩)
      have HLP := hid (show ∀ b, (Value.slice lo i lc).ownBlock = some b → b < p5 from fun b hb => by have := HLO.out b hb; omega)
      have HF3 := hid (show RdIx w3 (fun b => (b < w.heap.size + 2 ∨ (Value.slice lo i lc).ownBlock = some b) ∨ b = p5) (some ⟨g, 0, none⟩) F from fun k z hz => by
        obtain ⟨g', e, _, hg', hc⟩ := own_at o2 hz
        cases e
        refine ⟨_, rfl, by show g < w3.heap.size; omega, ?_, ?_⟩
        · rintro ((h | h) | h)
          · have h' : g < w.heap.size + 2 := h; omega
          · have := HLO.out g h; omega
          · have h' : g = p5 := h; omega
        · rw [Addr.add_lit, Nat.zero_add, hw3]; exact cell_al hc)
      have HB3 := hid (show Below (w.heap.size + 2) ((w.alloc (.cells #[.slice (some a) n sc, .int .i64 s, .int .i64 f] 28)).alloc (.cells #[.slice none 0 0, .int .i64 0, .int .i64 0] 28)) w3 from HB.out.trans ⟨by rw [hw3]; exact gr2.os, by rw [hw3]; exact gr2.tape, by rw [hw3]; exact gr2.output, by omega, fun k hk => hblk k (by omega)⟩)
      have hp5w : w.heap.size + 2 ≤ p5 := by omega
      clear hw3 hp5 hws hg2 hgw hblk o2 gr2 hlt2 HO HC HB HOE HBA c0 c0' f1 f1' hsz
      go_loopw [6] (fun y wr => ∃ (k : Nat) (go : Option Addr) (gc : Nat) (RE : List Value), y = .int .i64 k ∧ k ≤ en ∧ Hid (wr.heap[p5]? = some (.cells #[.slice go k gc, .slice (some ⟨g, 0, none⟩) fn gcap] 86)) ∧ Hid (wr.ownsRow (p5 + 1) 88 2 (.slice go k gc) k RE) ∧ Hid (CpE wr (fun b => b < p5 + 1 ∨ (Value.slice go k gc).ownBlock = some b) E k RE) ∧ Hid (But1 p5 (p5 + 1) w3 wr)) (fun y _ => en - (intOf y).toNat)
      case atStart => exact ⟨0, none, 0, [], rfl, Nat.zero_le _, HP3, World.ownsRow_nil _ _ _ _, fun j g hj => (by omega), ⟨rfl, rfl, rfl, Nat.le_refl _, fun _ _ _ => rfl⟩⟩
      case round =>
        obtain ⟨k, go, gc, RE, rfl, hk, HP, HOE, HCP, HBT⟩ := hrel
        have HB := hid (show Below (w.heap.size + 2) ((w.alloc (.cells #[.slice (some a) n sc, .int .i64 s, .int .i64 f] 28)).alloc (.cells #[.slice none 0 0, .int .i64 0, .int .i64 0] 28)) wr from HB3.out.trans ⟨HBT.out.os, HBT.out.tape, HBT.out.output, HBT.out.size, fun b hb => HBT.out.block b (by omega) (by omega)⟩)
        have c0 : wr.cell? ⟨w.heap.size, 0, none⟩ = some (.slice (some a) n sc) := (two_box HB.out).1 0
        have f0 := ((two_low HB.out).cell (p := a.add (i * 2)) (by rw [add_blk]; exact HAB.out)).trans HF0.out
        have x0 : wr.cell? ⟨p5, 0, none⟩ = some (.slice go k gc) := by rw [cell_of_row wr p5 0 _ 86 (0, 0) HP.out]; rfl
        have x1 : wr.cell? ⟨p5, 1, none⟩ = some (.slice (some ⟨g, 0, none⟩) fn gcap) := by rw [cell_of_row wr p5 1 _ 86 (0, 0) HP.out]; rfl
        have fz := frozen_of_row wr p5 0 _ 86 HP.out
        have hpl : p5 < wr.heap.size := lt_of HP.out
        by_cases hkl : k < en
        · have k3 : (k : Int) < (en : Int) := by omega
          have k0 : (0 : Int) ≤ (k : Int) := by omega
          have hkE : k < E.length := by have := HEN.out; omega
          obtain ⟨C, t, hCt⟩ : ∃ C t, E[k]? = some (C, t) := ⟨E[k].1, _, List.getElem?_eq_getElem hkE⟩
          obtain ⟨d, ed, hdb, co, cc, u0w, u1w, hC, _⟩ := HER.out k (C, t) hCt
          have hcl : C.length ≤ 1000000 := HCE.out _ (List.mem_of_getElem? hCt)
          subst ed
          dsimp only at u0w u1w hC
          have u0 := ((two_low HB.out).cell (p := d.add (k * 2)) (by rw [add_blk]; exact hdb)).trans u0w
          have u1 := ((two_low HB.out).cell (p := ⟨(d.add (k * 2)).block, (d.add (k * 2)).off + 1, none⟩) (show (d.add (k * 2)).block < _ by rw [add_blk]; exact hdb)).trans u1w
          obtain ⟨cn, hcn⟩ : ∃ cn, cn = C.length := ⟨_, rfl⟩
          rw [← hcn] at u0 hcl
          have HCR := hid hC
          have HCN := hid hcn
          have HCT := hid hCt
          clear hCt hC hcn hdb hkE u0w u1w
          go_wp2_with fail
          obtain ⟨w4, hw4⟩ : ∃ w4, w4 = wr.alloc (.cells #[.slice co cn cc, .int .i64 t] 88) := ⟨_, rfl⟩
          rw [← hw4]
          obtain ⟨p7, hp7⟩ : ∃ p7, p7 = wr.heap.size := ⟨_, rfl⟩
          rw [← hp7]
          have hs4 : w4.heap.size = p7 + 1 := by rw [hw4, hp7]; simp
          have hr4 : w4.heap[p7]? = some (.cells #[.slice co cn cc, .int .i64 t] 88) := by rw [hw4, hp7]; exact al_new _ _ rfl
          have y0 : w4.cell? ⟨p7, 0, none⟩ = some (.slice co cn cc) := by rw [cell_of_row w4 p7 0 _ 88 (0, 0) hr4]; rfl
          have y1 : w4.cell? ⟨p7, 1, none⟩ = some (.int .i64 t) := by rw [cell_of_row w4 p7 1 _ 88 (0, 0) hr4]; rfl
          have x4 : w4.cell? ⟨p5, 0, none⟩ = some (.slice go k gc) := by rw [hw4]; exact cell_al x0
          have hblk4 : ∀ b, b < wr.heap.size → w4.heap[b]? = wr.heap[b]? := fun b hb => by rw [hw4, al_old _ _ hb]
          have HP4 := hid ((hblk4 p5 hpl).trans HP.out)
          have HOE4 := hid (show w4.ownsRow (p5 + 1) 88 2 (.slice go k gc) k RE by rw [hw4]; exact HOE.out.alloc _)
          have HB4 := hid (show Below (w.heap.size + 2) ((w.alloc (.cells #[.slice (some a) n sc, .int .i64 s, .int .i64 f] 28)).alloc (.cells #[.slice none 0 0, .int .i64 0, .int .i64 0] 28)) w4 by rw [hw4]; exact HB.out.alloc (by omega) _)
          have HBT4 := hid (show But1 p5 (p5 + 1) w3 w4 from ⟨by rw [hw4]; exact HBT.out.os, by rw [hw4]; exact HBT.out.tape, by rw [hw4]; exact HBT.out.output, by have := HBT.out.size; omega, fun b hb hne => (hblk4 b (by omega)).trans (HBT.out.block b hb hne)⟩)
          have HCP4 := hid (HCP.out.keep (w' := w4) (X' := fun b => b < p5 + 1 ∨ (Value.slice go k gc).ownBlock = some b) ⟨by omega, fun b hb _ => hblk4 b hb, fun _ _ h => h⟩)
          have hp57 : p5 < p7 := by omega
          have HOG := hid (show ∀ b, (Value.slice go k gc).ownBlock = some b → b < p7 from fun b hb => by have := (HOE.out.lt b hb).2; omega)
          have HS4 := hid hs4
          have hw45 : w.heap.size + 2 ≤ w4.heap.size := by omega
          clear hs4 hw4 hp7 hr4 hblk4 x0 x1 fz c0 f0 u0 u1 hpl HP HOE HB HBT HCP
          refine wp_region_mix [(0, true), (1, true), (3, true), (4, true), (6, true), (7, true), (2, false), (5, false), (8, true), (9, false), (10, false), (11, true), (12, false)] (fun w' => w'.cell? ⟨p5, 0, none⟩ = some (.slice go k gc) ∧ w'.cell? ⟨p7, 0, none⟩ = some (.slice co cn cc) ∧ w'.cell? ⟨p7, 1, none⟩ = some (.int .i64 t)) (fun j => j == 12) (by kernel_rfl) (by kernel_rfl) (fun j hj => by have := beq_iff_eq.1 hj; subst this; decide) rfl (by kernel_rfl) ⟨x4, y0, y1⟩ ?_
          iterate 6 (refine mix_free ?_ rfl (by kernel_rfl) (fun w' hS => ?_) ?_; (rotate_left; (obtain ⟨s1, s2, s3⟩ := hS; go_simp; with_reducible rfl); rotate_left))
          refine mix_go rfl (by kernel_rfl) fun KK hKK => ?_
          go_simp
          refine hKK _ _ (fun _ => ⟨cell_al x4, cell_al y0, cell_al y1⟩) ?_
          clear hKK KK
          have HW5 := hid (show (w4.alloc (.cells #[] 3)).drew.ownsRow w4.heap.size 3 1 (.slice (some ⟨w4.heap.size, 0, none⟩) 0 0) 0 [] from (World.ownsRow_lit w4 #[] 0 (Nat.le_refl _) (by decide) (by simp)).drew)
          have HB5 := hid (show Below (w.heap.size + 2) ((w.alloc (.cells #[.slice (some a) n sc, .int .i64 s, .int .i64 f] 28)).alloc (.cells #[.slice none 0 0, .int .i64 0, .int .i64 0] 28)) (w4.alloc (.cells #[] 3)).drew from (HB4.out.alloc hw45 _).drew)
          refine mix_go rfl (by kernel_rfl) fun KK hKK => ?_
          refine wp_copy _ _ rfl w4.heap.size w4.heap.size rfl HW5.out co cn cc C rfl (HCR.out.below (two_low HB5.out)) HCN.out hcl (by show w4.heap.size ≤ (w4.alloc _).heap.size; simp) ?_
          intro q qc w6 o6 gr6 hq6 hlt6
          have hs6 : w4.heap.size + 1 ≤ w6.heap.size := by have h := gr6.size; have h' : (w4.alloc (.cells #[] 3)).heap.size ≤ w6.heap.size := h; simpa using h'
          have hq4 : w4.heap.size ≤ q := by
            rcases hq6 with h | h
            · omega
            · have h' : q = (w4.alloc (.cells #[] 3)).heap.size := h
              simp at h'
              omega
          have hblk6 : ∀ b, b < w4.heap.size → w6.heap[b]? = w4.heap[b]? := fun b hb => (gr6.block b (by show b < (w4.alloc _).heap.size; simp; omega) (fun e => by have := Option.some.inj e; omega)).trans (al_old _ _ hb)
          have HBK6 := hid hblk6
          have x6 : w6.cell? ⟨p5, 0, none⟩ = some (.slice go k gc) := (World.cell?_of_block (hblk6 p5 (by have := HS4.out; omega))).trans x4
          have y6 : w6.cell? ⟨p7, 0, none⟩ = some (.slice co cn cc) := (World.cell?_of_block (hblk6 p7 (by have := HS4.out; omega))).trans y0
          have z6 : w6.cell? ⟨p7, 1, none⟩ = some (.int .i64 t) := (World.cell?_of_block (hblk6 p7 (by have := HS4.out; omega))).trans y1
          refine hKK _ _ (fun _ => ⟨x6, y6, z6⟩) ?_
          clear hKK KK
          refine mix_free ?_ rfl (by kernel_rfl) (fun w' hS => ?_) ?_; (rotate_left; (obtain ⟨s1, s2, s3⟩ := hS; go_simp; with_reducible rfl); rotate_left)
          have HO6 := hid o6
          have HT6 := hid (show w6.os = w4.os ∧ w6.tape = w4.tape ∧ w6.output = w4.output from ⟨gr6.os, gr6.tape, gr6.output⟩)
          have HQ4 := hid hq4
          have HS6 := hid hs6
          have HLT6 := hid hlt6
          clear o6 gr6 hq6 hblk6 hq4 hs6 hlt6 HW5 HB5 x4 y0 y1
          refine mix_go rfl (by kernel_rfl) fun KK hKK => ?_
          go_simp
          refine hKK _ _ (fun _ => ⟨cell_al x6, cell_al y6, cell_al z6⟩) ?_
          clear hKK KK
          have HOE6 := hid (show w6.ownsRow (p5 + 1) 88 2 (.slice go k gc) k RE from own_same HOE4.out (fun b _ hb => HBK6.out b hb))
          refine mix_go rfl (by kernel_rfl) fun KK hKK => ?_
          refine wp_append_lies _ _ _ 84 rfl (p5 + 1) 88 i88 (.agg #[.slice none 0 0, .int .i64 0]) 2 32 Tryd.underlying84 hi88 he0 he1 he2 rfl (by decide) (.slice go k gc) k RE rfl (HOE6.out.alloc _) ⟨w6.heap.size, 0, none⟩ 1 1 [.slice (some ⟨q, 0, none⟩) cn qc, .int .i64 t] rfl rfl (news_two w6 _ _ 88) (fun u hu => by simp at hu; rcases hu with h | h <;> rw [h] <;> rfl) (by decide) (by unfold maxLen; omega) (by omega) (by show p5 + 1 ≤ (w6.alloc _).heap.size; have h1 := HS4.out; have h2 := HS6.out; simp; omega) (w6.alloc (.cells #[.slice (some ⟨q, 0, none⟩) cn qc, .int .i64 t] 88)).heap.size rfl ?_
          intro g8 c8 w8 o8 gr8 hl8 hlt8
          have hs8 : w6.heap.size + 1 ≤ w8.heap.size := by
            have h : (w6.alloc (.cells #[.slice (some ⟨q, 0, none⟩) cn qc, .int .i64 t] 88)).heap.size ≤ w8.heap.size := gr8.size
            simpa using h
          have hblk8 : ∀ b, b < w6.heap.size → (Value.slice go k gc).ownBlock ≠ some b → w8.heap[b]? = w6.heap[b]? := fun b hb hne => (gr8.block b (by show b < (w6.alloc _).heap.size; simp; omega) (fun e => hne e.symm)).trans (al_old _ _ hb)
          have hn5 : (Value.slice go k gc).ownBlock ≠ some p5 := fun e => by have := (HOE6.out.lt p5 e).1; omega
          have hn7 : (Value.slice go k gc).ownBlock ≠ some p7 := fun e => by have := HOG.out p7 e; omega
          have h56 : p5 < w6.heap.size := by have h1 := HS4.out; have h2 := HS6.out; omega
          have h76 : p7 < w6.heap.size := by have h1 := HS4.out; have h2 := HS6.out; omega
          have x8 : w8.cell? ⟨p5, 0, none⟩ = some (.slice go k gc) := (World.cell?_of_block (hblk8 p5 h56 hn5)).trans x6
          have y8 : w8.cell? ⟨p7, 0, none⟩ = some (.slice co cn cc) := (World.cell?_of_block (hblk8 p7 h76 hn7)).trans y6
          have z8 : w8.cell? ⟨p7, 1, none⟩ = some (.int .i64 t) := (World.cell?_of_block (hblk8 p7 h76 hn7)).trans z6
          have hp8 : w8.heap[p5]? = some (.cells #[.slice go k gc, .slice (some ⟨g, 0, none⟩) fn gcap] 86) := (hblk8 p5 h56 hn5).trans ((HBK6.out p5 (by have := HS4.out; omega)).trans HP4.out)
          have fz := frozen_of_row w8 p5 0 _ 86 hp8
          have hg8 : p5 + 1 ≤ g8 := (o8.lt g8 rfl).1
          have hq8 : g8 ≠ q := fun e => by
            rcases hl8 with h | h
            · have h1 := HOG.out g8 h; have h2 := HQ4.out; have h3 := HS4.out; omega
            · have h' : g8 = (w6.alloc (.cells #[.slice (some ⟨q, 0, none⟩) cn qc, .int .i64 t] 88)).heap.size := h
              have h1 := HLT6.out
              simp at h'
              omega
          have hset : ∀ b, b ≠ p5 → (w8.setCell ⟨p5, 0, none⟩ (.slice (some ⟨g8, 0, none⟩) (k + 1) c8)).heap[b]? = w8.heap[b]? := fun b hb => heap_setCell_other w8 ⟨p5, 0, none⟩ b _ (fun e => hb e)
          have hss : (w8.setCell ⟨p5, 0, none⟩ (.slice (some ⟨g8, 0, none⟩) (k + 1) c8)).heap.size = w8.heap.size := by simp
          have HP9 := hid (show (w8.setCell ⟨p5, 0, none⟩ (.slice (some ⟨g8, 0, none⟩) (k + 1) c8)).heap[p5]? = some (.cells #[.slice (some ⟨g8, 0, none⟩) (k + 1) c8, .slice (some ⟨g, 0, none⟩) fn gcap] 86) from (heap_setCell_same w8 p5 0 _ 86 _ hp8).trans rfl)
          have HOE9 := hid (show (w8.setCell ⟨p5, 0, none⟩ (.slice (some ⟨g8, 0, none⟩) (k + 1) c8)).ownsRow (p5 + 1) 88 2 (.slice (some ⟨g8, 0, none⟩) (k + 1) c8) (k + 1) (RE ++ [.slice (some ⟨q, 0, none⟩) cn qc, .int .i64 t]) from own_same o8 (fun b hb _ => hset b (by have e : g8 = b := Option.some.inj hb; omega)))
          have hall : ∀ b, b < w4.heap.size → b ≠ p5 → (Value.slice go k gc).ownBlock ≠ some b → (w8.setCell ⟨p5, 0, none⟩ (.slice (some ⟨g8, 0, none⟩) (k + 1) c8)).heap[b]? = w4.heap[b]? := fun b hb hne hno => (hset b hne).trans ((hblk8 b (by have := HS6.out; omega) hno).trans (HBK6.out b hb))
          have HBT9 := hid (show But1 p5 (p5 + 1) w3 (w8.setCell ⟨p5, 0, none⟩ (.slice (some ⟨g8, 0, none⟩) (k + 1) c8)) from ⟨(show w8.os = w6.os from gr8.os).trans (HT6.out.1.trans HBT4.out.os), (show w8.tape = w6.tape from gr8.tape).trans (HT6.out.2.1.trans HBT4.out.tape), (show w8.output = w6.output from gr8.output).trans (HT6.out.2.2.trans HBT4.out.output), by rw [hss]; have h1 := HBT4.out.size; have h2 := HS6.out; omega, fun b hb hne => (hall b (by have := HS4.out; omega) hne (fun e => by have := (HOE6.out.lt b e).1; omega)).trans (HBT4.out.block b hb hne)⟩)
          have HCP9 := hid (show CpE (w8.setCell ⟨p5, 0, none⟩ (.slice (some ⟨g8, 0, none⟩) (k + 1) c8)) (fun b => b < p5 + 1 ∨ (Value.slice (some ⟨g8, 0, none⟩) (k + 1) c8).ownBlock = some b) E (k + 1) (RE ++ [.slice (some ⟨q, 0, none⟩) cn qc, .int .i64 t]) from by
            have hk9 : CpE (w8.setCell ⟨p5, 0, none⟩ (.slice (some ⟨g8, 0, none⟩) (k + 1) c8)) (fun b => b < p5 + 1 ∨ (Value.slice (some ⟨g8, 0, none⟩) (k + 1) c8).ownBlock = some b) E k RE := HCP4.out.keep ⟨by rw [hss]; have := HS6.out; omega, fun b hb hx => hall b hb (fun e => hx (.inl (by omega))) (fun e => hx (.inr e)), fun b hb hx => by
              rcases hx with h | h
              · exact .inl h
              · have e : g8 = b := Option.some.inj h
                subst e
                rcases hl8 with h | h
                · exact .inr h
                · have h' : g8 = (w6.alloc (.cells #[.slice (some ⟨q, 0, none⟩) cn qc, .int .i64 t] 88)).heap.size := h
                  have := HS6.out
                  simp at h'
                  omega⟩
            have hlen : RE.length = k * 2 := HOE4.out.1
            have hcn : cn = C.length := HCN.out
            rw [hcn]
            refine hk9.next hlen HCT.out (fun j z hz => ?_)
            obtain ⟨q', e, _, hq', hc⟩ := own_at HO6.out hz
            cases e
            refine ⟨_, rfl, by show q < _; rw [hss]; omega, ?_, ?_⟩
            · rintro (h | h)
              · have h1 : q < p5 + 1 := h
                have h2 := HQ4.out; have h3 := HS4.out; omega
              · exact hq8 (Option.some.inj h)
            · have h1 := HQ4.out
              have h2 := HS4.out
              rw [Addr.add_lit, Nat.zero_add, World.cell?_of_block (w := w6) (a := ⟨q, j, none⟩) ((hset q (by omega)).trans (hblk8 q hq' (fun e => by have := HOG.out q e; omega)))]
              exact hc)
          refine hKK _ _ (fun _ => ⟨x8, y8, z8⟩) ?_
          clear hKK KK o8 gr8 hl8 hlt8 hblk8 hset hss hall hq8
          refine mix_free ?_ rfl (by kernel_rfl) (fun w' hS => ?_) ?_; (rotate_left; (obtain ⟨s1, s2, s3⟩ := hS; go_simp; with_reducible rfl); rotate_left)
          refine mix_go rfl (by kernel_rfl) fun KK hKK => ?_
          go_simp
          refine hKK _ _ (fun h => by cases h) ?_
          clear hKK KK
          refine mix_end (NoPanic.normal ?_)
          go_wp2
          go_roundw
          case rel => exact ⟨k + 1, some ⟨g8, 0, none⟩, c8, _, by go_num, by omega, HP9, HOE9, HCP9, HBT9⟩
          case measure => simp [intOf]; omega
        · have k3 : ¬ (k : Int) < (en : Int) := by omega
          have hke : en = k := by omega
          have HEK := hid hke
          have hsz : w.heap.size + 2 ≤ wr.heap.size := by have := HB.out.size; simpa using this
          have HOW := hid (own_same HO3.out (W' := wr) (fun b hb _ => HBT.out.block b (by have := HLP.out b hb; omega) (by have := HLP.out b hb; omega)))
          clear hke
          go_wp2_with (at_builtin; go_loud (refine wpList_append_lies _ rfl _ _ 26 rfl (w.heap.size + 2) 86 i86 (.agg #[.slice none 0 0, .slice none 0 0]) 2 48 Tryd.underlying26 hi86 hs0 hs1 hs2 rfl (by decide) (.slice lo i lc) i R rfl (HOW.out.alloc _) ⟨wr.heap.size, 0, none⟩ 1 1 [.slice go k gc, .slice (some ⟨g, 0, none⟩) fn gcap] rfl rfl (news_two wr _ _ 86) (fun u hu => by simp at hu; rcases hu with h | h <;> rw [h] <;> rfl) (by decide) (by unfold maxLen; omega) (by omega) (by simp; omega) (wr.heap.size + 1) (by simp) ?_); intro g9 c9 w9 o9 gr9 hl9 hlt9)
          have hs9 : wr.heap.size + 1 ≤ w9.heap.size := by have := gr9.size; simpa using this
          have hblk9 : ∀ b, b < wr.heap.size → (Value.slice lo i lc).ownBlock ≠ some b → w9.heap[b]? = wr.heap[b]? := fun b hb hne => (gr9.block b (by simp; omega) (fun e => hne e.symm)).trans (al_old _ _ hb)
          have hsub : ∀ b, b < wr.heap.size → (Value.slice (some ⟨g9, 0, none⟩) (i + 1) c9).ownBlock = some b → (Value.slice lo i lc).ownBlock = some b := fun b hb e => by
            have e' : g9 = b := Option.some.inj e
            subst e'
            exact hl9.elim id (fun h => by omega)
          have hKS : Kp w3 w9 (fun b => (b < w.heap.size + 2 ∨ (Value.slice lo i lc).ownBlock = some b) ∨ b = p5) (fun b => b < w.heap.size + 2 ∨ (Value.slice (some ⟨g9, 0, none⟩) (i + 1) c9).ownBlock = some b) := ⟨by have := HBT.out.size; omega, fun b hb hx => (hblk9 b (by have := HBT.out.size; omega) (fun e => hx (.inl (.inr e)))).trans (HBT.out.block b (by omega) (fun e => hx (.inr e))), fun b hb e => .inl (e.elim .inl (fun e => .inr (hsub b (by have := HBT.out.size; omega) e)))⟩
          have hRE : RdEx w9 (fun b => b < w.heap.size + 2 ∨ (Value.slice (some ⟨g9, 0, none⟩) (i + 1) c9).ownBlock = some b) go E := (rdex_of HOE.out HCP.out (by have h1 := HEK.out; have h2 := HEN.out; omega) (X' := fun b => b < p5 + 1) (fun b hb h => by omega) (fun b h => .inl h)).keep ⟨by omega, fun b hb hx => hblk9 b hb (fun e => hx (by have := HLP.out b e; omega)), fun b hb e => by (rcases e with e | e; (· omega); (· have := HLP.out b (hsub b hb e); omega))⟩
          have HCS9 := hid (show CpS w9 (fun b => b < w.heap.size + 2 ∨ (Value.slice (some ⟨g9, 0, none⟩) (i + 1) c9).ownBlock = some b) L (i + 1) (R ++ [.slice go k gc, .slice (some ⟨g, 0, none⟩) fn gcap]) from by
            have h1 := (HC3.out.keep hKS).next (ec := gc) (fc := gcap) HO3.out.1 HEF.out hRE (HF3.out.keep hKS)
            rw [← HEN.out, ← HFN.out, HEK.out] at h1
            exact h1)
          have HO9 := hid o9
          have HB9 := hid ((HB.out.alloc hsz (.cells #[.slice go k gc, .slice (some ⟨g, 0, none⟩) fn gcap] 86)).grown gr9 (by simp; omega) (fun b hb => (HOW.out.lt b hb).1))
          clear o9 gr9 hl9 hlt9 hblk9 hsub hKS hRE
          go_roundw
          case rel => exact ⟨i + 1, some ⟨g9, 0, none⟩, c9, _, rfl, by go_num, by omega, HO9, HCS9, HB9⟩
          case measure => simp [intOf]; omega
    · have i3 : ¬ (i : Int) < (n : Int) := by omega
      have c1 : wr.cell? ⟨w.heap.size, 1, none⟩ = some (.int .i64 s) := (two_box HB.out).1 1
      have c2 : wr.cell? ⟨w.heap.size, 2, none⟩ = some (.int .i64 f) := (two_box HB.out).1 2
      have hin : i = n := by omega
      subst hin
      have HBD := hid (show ∀ s ∈ L, s.1.length ≤ most ∧ s.2.length ≤ most ∧ ∀ e ∈ s.1, e.1.length ≤ most from fun x hx => by obtain ⟨h1, h2, h3⟩ := HE.out x hx; unfold most; exact ⟨by omega, by omega, fun e he => by have := h3 e he; omega⟩)
      have r0 : wr.cell? ⟨w.heap.size + 1, 0, none⟩ = some (.slice none 0 0) := (two_box HB.out).2 0
      have r1 : wr.cell? ⟨w.heap.size + 1, 1, none⟩ = some (.int .i64 0) := (two_box HB.out).2 1
      have r2 : wr.cell? ⟨w.heap.size + 1, 2, none⟩ = some (.int .i64 0) := (two_box HB.out).2 2
      have hr : wr.heap[w.heap.size + 1]? = some (.cells #[.slice none 0 0, .int .i64 0, .int .i64 0] 28) := by rw [HB.out.block (w.heap.size + 1) (by omega), al_new _ _ (by simp)]
      have z0 := frozen_of_row wr (w.heap.size + 1) 0 _ 28 hr
      have z1 := frozen_of_row wr (w.heap.size + 1) 1 _ 28 hr
      have z2 := frozen_of_row wr (w.heap.size + 1) 2 _ 28 hr
      have HR := hid hr
      clear hr
      go_wp2
      (try simp only [Exit.inBlock, Exit.then])
      have e1 := heap_setCell_same wr (w.heap.size + 1) 0 _ 28 (.slice lo i lc) HR.out
      have e2 := heap_setCell_same _ (w.heap.size + 1) 1 _ 28 (.int .i64 s) e1
      have e3 := heap_setCell_same _ (w.heap.size + 1) 2 _ 28 (.int .i64 f) e2
      refine bodyPost_ret (results_cell_row rfl _ _ (w.heap.size + 1) 28 #[.slice lo i lc, .int .i64 s, .int .i64 f] (0, 0) _ rfl e3 Tryd.underlying28 rfl (by kernel_rfl)) rfl ?_
      have hoth : ∀ b, b ≠ w.heap.size + 1 → (((wr.setCell ⟨w.heap.size + 1, 0, none⟩ (.slice lo i lc)).setCell ⟨w.heap.size + 1, 1, none⟩ (.int .i64 s)).setCell ⟨w.heap.size + 1, 2, none⟩ (.int .i64 f)).heap[b]? = wr.heap[b]? := fun b hb => by
        rw [heap_setCell_other _ ⟨w.heap.size + 1, 2, none⟩ b _ (fun e => hb e), heap_setCell_other _ ⟨w.heap.size + 1, 1, none⟩ b _ (fun e => hb e), heap_setCell_other _ ⟨w.heap.size + 1, 0, none⟩ b _ (fun e => hb e)]
      have hfin : Below w.heap.size w (((wr.setCell ⟨w.heap.size + 1, 0, none⟩ (.slice lo i lc)).setCell ⟨w.heap.size + 1, 1, none⟩ (.int .i64 s)).setCell ⟨w.heap.size + 1, 2, none⟩ (.int .i64 f)) := (two_low HB.out).trans ⟨rfl, rfl, rfl, by simp, fun b hb => hoth b (by omega)⟩
      refine ⟨lo, lc, rfl, ?_, hfin⟩
      exact rdsx_of (own_same HO.out (fun b hb _ => hoth b (by have := (HO.out.lt b hb).1; omega))) (HC.out.keep (X' := fun b => b < w.heap.size + 2 ∨ (Value.slice lo i lc).ownBlock = some b) ⟨by simp, fun b hb hx => hoth b (fun e => hx (.inl (by omega))), fun _ _ h => h⟩) HN.out HBD.out (fun g hg h => by have h' : g < w.heap.size := h; omega) (fun g hg => .inl (by have h' : g < w.heap.size := hg; omega))
end Go.Proofs.YteacehfihogmpaaDoor
