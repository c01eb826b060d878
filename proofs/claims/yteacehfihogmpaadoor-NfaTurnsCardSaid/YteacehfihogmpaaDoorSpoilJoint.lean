/- An automaton turned round, as lists: what it takes is what the other takes, the other way round. -/
import Derived.Test.YteacehfihogmpaaDoorTakesJoint
import Derived.Test.YteacehfihogmpaaDoorOwnJoint
namespace Go.Proofs.YteacehfihogmpaaDoor

/-- One edge more at a state. -/
def adE (M : List St) (t : Nat) (g : Ed) : List St := M.modify t fun s => (s.1 ++ [g], s.2)
/-- One number more at a state. -/
def adF (M : List St) (t : Nat) (i : Int) : List St := M.modify t fun s => (s.1, s.2 ++ [i])
def rvE (i : Int) (M : List St) (E : List Ed) : List St := E.foldl (fun M e => adE M e.2.toNat (e.1, i)) M
def rvF (i : Int) (M : List St) (F : List Int) : List St := F.foldl (fun M t => adF M t.toNat i) M
/-- The first k states, turned round. -/
def rvK (L : List St) : Nat → List St
  | 0 => List.replicate L.length ([], [])
  | k + 1 => match L[k]? with
    | some s => rvF k (rvE k (rvK L k) s.1) s.2
    | none => rvK L k
def rv (L : List St) : List St := rvK L L.length
theorem adE_len (M : List St) (t : Nat) (g : Ed) : (adE M t g).length = M.length := by simp [adE]
theorem adF_len (M : List St) (t : Nat) (i : Int) : (adF M t i).length = M.length := by simp [adF]
theorem rvE_len (i : Int) : ∀ (E : List Ed) (M : List St), (rvE i M E).length = M.length
  | [], _ => rfl
  | _ :: l, M => (rvE_len i l _).trans (adE_len M _ _)
theorem rvF_len (i : Int) : ∀ (F : List Int) (M : List St), (rvF i M F).length = M.length
  | [], _ => rfl
  | _ :: l, M => (rvF_len i l _).trans (adF_len M _ _)
theorem rvE_take {i : Int} {M : List St} {E : List Ed} {k : Nat} {C : List Int} {t : Int} (h : E[k]? = some (C, t)) : rvE i M (E.take (k + 1)) = adE (rvE i M (E.take k)) t.toNat (C, i) := by
  unfold rvE
  rw [List.take_add_one, h, List.foldl_append]
  rfl
theorem rvF_take {i : Int} {M : List St} {F : List Int} {k : Nat} {t : Int} (h : F[k]? = some t) : rvF i M (F.take (k + 1)) = adF (rvF i M (F.take k)) t.toNat i := by
  unfold rvF
  rw [List.take_add_one, h, List.foldl_append]
  rfl
theorem rvK_next {L : List St} {k : Nat} {E : List Ed} {F : List Int} (h : L[k]? = some (E, F)) : rvK L (k + 1) = rvF k (rvE k (rvK L k) E) F := by
  rw [rvK, h]
theorem rvK_len (L : List St) : ∀ k, (rvK L k).length = L.length
  | 0 => by simp [rvK]
  | k + 1 => by
    cases h : L[k]? with
    | none => rw [rvK, h]; exact rvK_len L k
    | some s => rw [rvK, h]; exact (rvF_len _ _ _).trans ((rvE_len _ _ _).trans (rvK_len L k))
theorem rv_len (L : List St) : (rv L).length = L.length := rvK_len L _
theorem adE_at (M : List St) (t : Nat) (g : Ed) (u : Nat) : (adE M t g)[u]? = (M[u]?).map fun s => if t = u then (s.1 ++ [g], s.2) else s := by
  unfold adE
  rw [List.getElem?_modify]
  by_cases h : t = u <;> simp [h]
theorem adF_at (M : List St) (t : Nat) (i : Int) (u : Nat) : (adF M t i)[u]? = (M[u]?).map fun s => if t = u then (s.1, s.2 ++ [i]) else s := by
  unfold adF
  rw [List.getElem?_modify]
  by_cases h : t = u <;> simp [h]
/-- State u has an edge. -/
def Ge (M : List St) (u : Nat) (g : Ed) : Prop := ∃ s, M[u]? = some s ∧ g ∈ s.1
def Gf (M : List St) (u : Nat) (j : Int) : Prop := ∃ s, M[u]? = some s ∧ j ∈ s.2
theorem ge_adE (M : List St) (t : Nat) (g : Ed) (u : Nat) (x : Ed) : Ge (adE M t g) u x ↔ Ge M u x ∨ (t = u ∧ u < M.length ∧ x = g) := by
  unfold Ge
  rw [adE_at]
  cases h : M[u]? with
  | none =>
    have := List.getElem?_eq_none_iff.1 h
    constructor
    · rintro ⟨s, h1, _⟩; simp at h1
    · rintro (⟨s, h1, _⟩ | ⟨_, h1, _⟩)
      · simp at h1
      · omega
  | some s =>
    have hu := (List.getElem?_eq_some_iff.1 h).1
    by_cases e : t = u
    · simp only [e, hu]; simp
    · simp [e]
theorem gf_adE (M : List St) (t : Nat) (g : Ed) (u : Nat) (x : Int) : Gf (adE M t g) u x ↔ Gf M u x := by
  unfold Gf
  rw [adE_at]
  cases h : M[u]? with
  | none => simp
  | some s => by_cases e : t = u <;> simp [e]
theorem gf_adF (M : List St) (t : Nat) (i : Int) (u : Nat) (x : Int) : Gf (adF M t i) u x ↔ Gf M u x ∨ (t = u ∧ u < M.length ∧ x = i) := by
  unfold Gf
  rw [adF_at]
  cases h : M[u]? with
  | none =>
    have := List.getElem?_eq_none_iff.1 h
    constructor
    · rintro ⟨s, h1, _⟩; simp at h1
    · rintro (⟨s, h1, _⟩ | ⟨_, h1, _⟩)
      · simp at h1
      · omega
  | some s =>
    have hu := (List.getElem?_eq_some_iff.1 h).1
    by_cases e : t = u
    · simp only [e, hu]; simp
    · simp [e]
theorem ge_adF (M : List St) (t : Nat) (i : Int) (u : Nat) (x : Ed) : Ge (adF M t i) u x ↔ Ge M u x := by
  unfold Ge
  rw [adF_at]
  cases h : M[u]? with
  | none => simp
  | some s => by_cases e : t = u <;> simp [e]
theorem ge_rvE (i : Int) (u : Nat) (x : Ed) : ∀ (E : List Ed) (M : List St), Ge (rvE i M E) u x ↔ Ge M u x ∨ (u < M.length ∧ ∃ e ∈ E, e.2.toNat = u ∧ x = (e.1, i))
  | [], M => by simp [rvE]
  | e :: l, M => by
    have h := ge_rvE i u x l (adE M e.2.toNat (e.1, i))
    rw [show rvE i M (e :: l) = rvE i (adE M e.2.toNat (e.1, i)) l from rfl, h, ge_adE, adE_len]
    constructor
    · rintro ((h | ⟨h1, h2, h3⟩) | ⟨h1, e', h2, h3, h4⟩)
      · exact .inl h
      · exact .inr ⟨h2, e, by simp, h1, h3⟩
      · exact .inr ⟨h1, e', by simp [h2], h3, h4⟩
    · rintro (h | ⟨h1, e', h2, h3, h4⟩)
      · exact .inl (.inl h)
      · rcases List.mem_cons.1 h2 with rfl | h2
        · exact .inl (.inr ⟨h3, h1, h4⟩)
        · exact .inr ⟨h1, e', h2, h3, h4⟩
theorem gf_rvE (i : Int) (u : Nat) (x : Int) : ∀ (E : List Ed) (M : List St), Gf (rvE i M E) u x ↔ Gf M u x
  | [], _ => Iff.rfl
  | e :: l, M => (gf_rvE i u x l (adE M e.2.toNat (e.1, i))).trans (gf_adE _ _ _ _ _)
theorem gf_rvF (i : Int) (u : Nat) (x : Int) : ∀ (F : List Int) (M : List St), Gf (rvF i M F) u x ↔ Gf M u x ∨ (u < M.length ∧ ∃ t ∈ F, t.toNat = u ∧ x = i)
  | [], M => by simp [rvF]
  | e :: l, M => by
    have h := gf_rvF i u x l (adF M e.toNat i)
    rw [show rvF i M (e :: l) = rvF i (adF M e.toNat i) l from rfl, h, gf_adF, adF_len]
    constructor
    · rintro ((h | ⟨h1, h2, h3⟩) | ⟨h1, e', h2, h3, h4⟩)
      · exact .inl h
      · exact .inr ⟨h2, e, by simp, h1, h3⟩
      · exact .inr ⟨h1, e', by simp [h2], h3, h4⟩
    · rintro (h | ⟨h1, e', h2, h3, h4⟩)
      · exact .inl (.inl h)
      · rcases List.mem_cons.1 h2 with rfl | h2
        · exact .inl (.inr ⟨h3, h1, h4⟩)
        · exact .inr ⟨h1, e', h2, h3, h4⟩
theorem ge_rvF (i : Int) (u : Nat) (x : Ed) : ∀ (F : List Int) (M : List St), Ge (rvF i M F) u x ↔ Ge M u x
  | [], _ => Iff.rfl
  | e :: l, M => (ge_rvF i u x l (adF M e.toNat i)).trans (ge_adF _ _ _ _ _)
theorem ge_rvK (L : List St) (u : Nat) (x : Ed) : ∀ k, Ge (rvK L k) u x ↔ u < L.length ∧ ∃ j, j < k ∧ ∃ e, Ge L j e ∧ e.2.toNat = u ∧ x = (e.1, (j : Int))
  | 0 => by
    constructor
    · rintro ⟨s, h1, h2⟩
      rw [rvK, List.getElem?_replicate] at h1
      split at h1
      · cases h1; simp at h2
      · simp at h1
    · rintro ⟨_, j, h, _⟩; omega
  | k + 1 => by
    have ih := ge_rvK L u x k
    cases h : L[k]? with
    | none =>
      rw [show rvK L (k + 1) = rvK L k by rw [rvK, h], ih]
      constructor
      · rintro ⟨hu, j, hj, h2⟩; exact ⟨hu, j, by omega, h2⟩
      · rintro ⟨hu, j, hj, e, ⟨s, h3, h4⟩, h5⟩
        have : j ≠ k := fun e => by rw [e, h] at h3; cases h3
        exact ⟨hu, j, by omega, e, ⟨s, h3, h4⟩, h5⟩
    | some s =>
      rw [show rvK L (k + 1) = rvF k (rvE k (rvK L k) s.1) s.2 by rw [rvK, h], ge_rvF, ge_rvE, ih, rvK_len]
      constructor
      · rintro (⟨hu, j, hj, h2⟩ | ⟨hu, e, he, h2, h3⟩)
        · exact ⟨hu, j, by omega, h2⟩
        · exact ⟨hu, k, by omega, e, ⟨s, h, he⟩, h2, h3⟩
      · rintro ⟨hu, j, hj, e, ⟨s', h3, h4⟩, h5, h6⟩
        by_cases ejk : j = k
        · subst ejk
          rw [h] at h3; cases h3
          exact .inr ⟨hu, e, h4, h5, h6⟩
        · exact .inl ⟨hu, j, by omega, e, ⟨s', h3, h4⟩, h5, h6⟩
theorem gf_rvK (L : List St) (u : Nat) (x : Int) : ∀ k, Gf (rvK L k) u x ↔ u < L.length ∧ ∃ j, j < k ∧ ∃ t, Gf L j t ∧ t.toNat = u ∧ x = (j : Int)
  | 0 => by
    constructor
    · rintro ⟨s, h1, h2⟩
      rw [rvK, List.getElem?_replicate] at h1
      split at h1
      · cases h1; simp at h2
      · simp at h1
    · rintro ⟨_, j, h, _⟩; omega
  | k + 1 => by
    have ih := gf_rvK L u x k
    cases h : L[k]? with
    | none =>
      rw [show rvK L (k + 1) = rvK L k by rw [rvK, h], ih]
      constructor
      · rintro ⟨hu, j, hj, h2⟩; exact ⟨hu, j, by omega, h2⟩
      · rintro ⟨hu, j, hj, e, ⟨s, h3, h4⟩, h5⟩
        have : j ≠ k := fun e => by rw [e, h] at h3; cases h3
        exact ⟨hu, j, by omega, e, ⟨s, h3, h4⟩, h5⟩
    | some s =>
      rw [show rvK L (k + 1) = rvF k (rvE k (rvK L k) s.1) s.2 by rw [rvK, h], gf_rvF, gf_rvE, ih, rvE_len, rvK_len]
      constructor
      · rintro (⟨hu, j, hj, h2⟩ | ⟨hu, e, he, h2, h3⟩)
        · exact ⟨hu, j, by omega, h2⟩
        · exact ⟨hu, k, by omega, e, ⟨s, h, he⟩, h2, h3⟩
      · rintro ⟨hu, j, hj, e, ⟨s', h3, h4⟩, h5, h6⟩
        by_cases ejk : j = k
        · subst ejk
          rw [h] at h3; cases h3
          exact .inr ⟨hu, e, h4, h5, h6⟩
        · exact .inl ⟨hu, j, by omega, e, ⟨s', h3, h4⟩, h5, h6⟩
theorem Ge.lt {L : List St} {u : Nat} {x : Ed} (h : Ge L u x) : u < L.length := by obtain ⟨s, h1, _⟩ := h; exact (List.getElem?_eq_some_iff.1 h1).1
theorem Gf.lt {L : List St} {u : Nat} {x : Int} (h : Gf L u x) : u < L.length := by obtain ⟨s, h1, _⟩ := h; exact (List.getElem?_eq_some_iff.1 h1).1
theorem ge_rv (L : List St) (u : Nat) (x : Ed) : Ge (rv L) u x ↔ u < L.length ∧ ∃ j : Nat, ∃ e, Ge L j e ∧ e.2.toNat = u ∧ x = (e.1, (j : Int)) := by
  unfold rv
  rw [ge_rvK]
  constructor
  · rintro ⟨h, j, _, h2⟩; exact ⟨h, j, h2⟩
  · rintro ⟨h, j, e, h1, h2⟩; exact ⟨h, j, h1.lt, e, h1, h2⟩
theorem gf_rv (L : List St) (u : Nat) (x : Int) : Gf (rv L) u x ↔ u < L.length ∧ ∃ j : Nat, ∃ t, Gf L j t ∧ t.toNat = u ∧ x = (j : Int) := by
  unfold rv
  rw [gf_rvK]
  constructor
  · rintro ⟨h, j, _, h2⟩; exact ⟨h, j, h2⟩
  · rintro ⟨h, j, e, h1, h2⟩; exact ⟨h, j, h1.lt, e, h1, h2⟩
/-- A way through an automaton, by a list. -/
inductive Pth (L : List St) : Int → List Int → Int → Prop
  | nil (x : Int) : Pth L x [] x
  | free {x y z : Int} {c : List Int} : Gf L x.toNat y → Pth L y c z → Pth L x c z
  | edge {x y z a : Int} {C c : List Int} : Ge L x.toNat (C, y) → a ∈ C → Pth L y c z → Pth L x (a :: c) z
theorem Pth.trans {L : List St} {x y z : Int} {c d : List Int} (h : Pth L x c y) (h' : Pth L y d z) : Pth L x (c ++ d) z := by
  induction h with
  | nil x => exact h'
  | free h1 _ ih => exact .free h1 (ih h')
  | edge h1 h2 _ ih => exact .edge h1 h2 (ih h')
theorem Pth.split {L : List St} {x z : Int} {e : List Int} (h : Pth L x e z) : ∀ (c d : List Int), e = c ++ d → ∃ y, Pth L x c y ∧ Pth L y d z := by
  induction h with
  | nil x => intro c d h; obtain ⟨rfl, rfl⟩ := List.append_eq_nil_iff.1 h.symm; exact ⟨x, .nil x, .nil x⟩
  | free h1 _ ih => intro c d h; obtain ⟨y, h2, h3⟩ := ih c d h; exact ⟨y, .free h1 h2, h3⟩
  | @edge x y z a C c' h1 h2 h3 ih =>
    intro c d h
    cases c with
    | nil => exact ⟨x, .nil x, by simp at h; subst h; exact .edge h1 h2 h3⟩
    | cons b c =>
      simp only [List.cons_append, List.cons.injEq] at h
      obtain ⟨rfl, h⟩ := h
      obtain ⟨y', h4, h5⟩ := ih c d h
      exact ⟨y', .edge h1 h2 h4, h5⟩
theorem pth_one {L : List St} {x z : Int} {e : List Int} (h : Pth L x e z) : ∀ a, e = [a] → ∃ y C t, Pth L x [] y ∧ Ge L y.toNat (C, t) ∧ a ∈ C ∧ Pth L t [] z := by
  induction h with
  | nil x => intro a h; simp at h
  | free h1 _ ih => intro a h; obtain ⟨y, C, t, h2, h3⟩ := ih a h; exact ⟨y, C, t, .free h1 h2, h3⟩
  | @edge x y z a C c' h1 h2 h3 ih =>
    intro b h
    simp only [List.cons.injEq] at h
    obtain ⟨rfl, rfl⟩ := h
    exact ⟨x, C, y, .nil x, h1, h2, h3⟩
theorem fls_gf {L : List St} {u : Nat} {t : Int} : (∃ l, (fls L)[u]? = some l ∧ t ∈ l) ↔ Gf L u t := by
  unfold fls Gf
  simp only [List.getElem?_map]
  constructor
  · rintro ⟨l, h1, h2⟩
    obtain ⟨s, h3, rfl⟩ := Option.map_eq_some_iff.1 h1
    exact ⟨s, h3, h2⟩
  · rintro ⟨s, h1, h2⟩
    exact ⟨s.2, by rw [h1]; rfl, h2⟩
theorem clo_pth {L : List St} {A : Int → Prop} {z : Int} : Clo L A z ↔ ∃ x, A x ∧ Pth L x [] z := by
  constructor
  · intro h
    unfold Clo at h
    induction h with
    | base h => exact ⟨_, h, .nil _⟩
    | @step x t l _ h2 h3 ih =>
      obtain ⟨y, h4, h5⟩ := ih
      exact ⟨y, h4, by simpa using h5.trans (.free (fls_gf.1 ⟨l, h2, h3⟩) (.nil t))⟩
  · rintro ⟨x, hA, h⟩
    have key : ∀ {x z : Int} {e : List Int}, Pth L x e z → e = [] → Rch (fls L) A x → Rch (fls L) A z := by
      intro x z e h
      induction h with
      | nil x => exact fun _ h => h
      | free h1 _ ih =>
        intro he hr
        obtain ⟨l, h2, h3⟩ := fls_gf.2 h1
        exact ih he (.step hr h2 h3)
      | edge _ _ _ _ => intro he; simp at he
    exact key h rfl (.base hA)
theorem rd_pth {L : List St} {A : Int → Prop} : ∀ (c : List Int) (z : Int), Rd L (Clo L A) c z ↔ ∃ x, A x ∧ Pth L x c z := by
  intro c
  induction h : c.length generalizing c with
  | zero => intro z; rw [List.eq_nil_of_length_eq_zero h]; exact clo_pth
  | succ n ih =>
    intro z
    obtain ⟨d, a, rfl⟩ : ∃ d a, c = d ++ [a] := ⟨c.dropLast, c.getLast (by intro e; simp [e] at h), (List.dropLast_concat_getLast _).symm⟩
    have ih' := ih d (by simpa using h)
    rw [Rd_snoc]
    unfold Nxt
    rw [clo_pth]
    constructor
    · rintro ⟨t, ⟨y, h1, s, h2, ⟨C, t'⟩, h3, rfl, h4⟩, h5⟩
      obtain ⟨x, hx, h6⟩ := (ih' y).1 h1
      exact ⟨x, hx, h6.trans (.edge ⟨s, h2, h3⟩ h4 h5)⟩
    · rintro ⟨x, hx, hp⟩
      obtain ⟨y, h1, h2⟩ := hp.split d [a] rfl
      obtain ⟨y', C, t, h3, ⟨s, h4, h4'⟩, h5, h6⟩ := pth_one h2 a rfl
      exact ⟨t, ⟨y', (ih' y').2 ⟨x, hx, by simpa using h1.trans h3⟩, s, h4, (C, t), h4', rfl, h5⟩, h6⟩
theorem pth_rev {L L' : List St} {V : Int → Prop} (hF : ∀ x y, V x → Gf L x.toNat y → V y ∧ Gf L' y.toNat x) (hE : ∀ x C y, V x → Ge L x.toNat (C, y) → V y ∧ Ge L' y.toNat (C, x)) {x y : Int} {c : List Int} (h : Pth L x c y) : V x → Pth L' y c.reverse x := by
  induction h with
  | nil x => exact fun _ => .nil x
  | free h1 _ ih =>
    intro hv
    obtain ⟨h2, h3⟩ := hF _ _ hv h1
    simpa using (ih h2).trans (.free h3 (.nil _))
  | edge h1 ha _ ih =>
    intro hv
    obtain ⟨h2, h3⟩ := hE _ _ _ hv h1
    rw [List.reverse_cons]
    exact (ih h2).trans (.edge h3 ha (.nil _))
section
variable {L : List St} {s f : Int}
theorem Gdd.ge (h : Gdd L s f) {u : Nat} {C : List Int} {t : Int} (hg : Ge L u (C, t)) : 0 ≤ t ∧ t < (L.length : Int) := by
  obtain ⟨x, h1, h2⟩ := hg
  exact h.tos x (List.mem_of_getElem? h1) _ h2
theorem Gdd.gf (h : Gdd L s f) {u : Nat} {t : Int} (hg : Gf L u t) : 0 ≤ t ∧ t < (L.length : Int) := by
  obtain ⟨l, h1, h2⟩ := fls_gf.2 hg
  exact h.frees l (List.mem_of_getElem? h1) _ h2
theorem Gdd.turnE (h : Gdd L s f) {x y : Int} {C : List Int} (hx : 0 ≤ x) (hg : Ge L x.toNat (C, y)) : Ge (rv L) y.toNat (C, x) := by
  have := h.ge hg
  exact (ge_rv L _ _).2 ⟨by omega, x.toNat, (C, y), hg, rfl, by rw [Int.toNat_of_nonneg hx]⟩
theorem Gdd.turnF (h : Gdd L s f) {x y : Int} (hx : 0 ≤ x) (hg : Gf L x.toNat y) : Gf (rv L) y.toNat x := by
  have := h.gf hg
  exact (gf_rv L _ _).2 ⟨by omega, x.toNat, y, hg, rfl, by rw [Int.toNat_of_nonneg hx]⟩
theorem Gdd.backE (h : Gdd L s f) {x y : Int} {C : List Int} (hx : 0 ≤ x) (hg : Ge (rv L) x.toNat (C, y)) : (0 ≤ y ∧ y < (L.length : Int)) ∧ Ge L y.toNat (C, x) := by
  obtain ⟨h1, j, ⟨C', t⟩, h2, h3, h4⟩ := (ge_rv L _ _).1 hg
  simp only [Prod.mk.injEq] at h4
  obtain ⟨rfl, rfl⟩ := h4
  have h5 := h.ge h2
  have h6 := h2.lt
  have h7 : t = x := by dsimp only at h3; omega
  subst h7
  exact ⟨⟨by omega, by omega⟩, by simpa using h2⟩
theorem Gdd.backF (h : Gdd L s f) {x y : Int} (hx : 0 ≤ x) (hg : Gf (rv L) x.toNat y) : (0 ≤ y ∧ y < (L.length : Int)) ∧ Gf L y.toNat x := by
  obtain ⟨h1, j, t, h2, h3, rfl⟩ := (gf_rv L _ _).1 hg
  have h5 := h.gf h2
  have h6 := h2.lt
  have h7 : t = x := by omega
  subst h7
  exact ⟨⟨by omega, by omega⟩, by simpa using h2⟩
theorem tk_rv (h : gdB L s f = true) (c : List Int) : tk (rv L) f s c.reverse = tk L s f c := by
  have hg := gdd_of h
  rw [Bool.eq_iff_iff, tk_iff, tk_iff, rd_pth, rd_pth]
  constructor
  · rintro ⟨x, rfl, hp⟩
    have := pth_rev (V := fun x => 0 ≤ x) (L' := L) (fun x y hx hg' => by have := hg.backF hx hg'; exact ⟨this.1.1, this.2⟩) (fun x C y hx hg' => by have := hg.backE hx hg'; exact ⟨this.1.1, this.2⟩) hp hg.fi.1
    rw [List.reverse_reverse] at this
    exact ⟨s, rfl, this⟩
  · rintro ⟨x, rfl, hp⟩
    exact ⟨f, rfl, pth_rev (V := fun x => 0 ≤ x) (fun x y hx hg' => ⟨(hg.gf hg').1, hg.turnF hx hg'⟩) (fun x C y hx hg' => ⟨(hg.ge hg').1, hg.turnE hx hg'⟩) hp hg.st.1⟩
end
theorem edg_of {n : Int} : ∀ {E : List Ed}, (∀ e ∈ E, wn e.2 n = true ∧ rs (-1) e.1 = true) → edg n E = true
  | [], _ => rfl
  | e :: l, h => by rw [edg_ok (h e (by simp)).1 (h e (by simp)).2]; exact edg_of fun x hx => h x (by simp [hx])
theorem fre_of {n : Int} : ∀ {F : List Int}, (∀ t ∈ F, wn t n = true) → fre n F = true
  | [], _ => rfl
  | e :: l, h => by rw [fre_ok (h e (by simp))]; exact fre_of fun x hx => h x (by simp [hx])
theorem fsb_of {n : Int} : ∀ {L : List St} {i : Int}, (∀ s ∈ L, fmd n s = true) → fsb n i L = (0, 0)
  | [], _, _ => rfl
  | x :: l, i, h => by rw [fsb_ok (h x (by simp))]; exact fsb_of fun y hy => h y (by simp [hy])
theorem gdB_of {L : List St} {s f : Int} (h : Gdd L s f) : gdB L s f = true := by
  unfold gdB
  rw [chk_go (by have := h.few; omega) (wn_iff.2 h.st) (wn_iff.2 h.fi), fsb_of h.all]
  rfl
theorem gd_rv {L : List St} {s f : Int} (h : gdB L s f = true) : gdB (rv L) f s = true := by
  have hg := gdd_of h
  refine gdB_of ⟨by rw [rv_len]; exact hg.few, by rw [rv_len]; exact hg.fi, by rw [rv_len]; exact hg.st, fun x hx => ?_⟩
  obtain ⟨u, hu⟩ := List.mem_iff_getElem?.1 hx
  have hul := (List.getElem?_eq_some_iff.1 hu).1
  rw [rv_len] at hul
  unfold fmd
  rw [rv_len, edg_of, fre_of]
  · rfl
  · intro t ht
    obtain ⟨h1, _⟩ := hg.backF (x := (u : Int)) (by omega) (show Gf (rv L) (u : Int).toNat t from ⟨x, by simpa using hu, ht⟩)
    exact wn_iff.2 h1
  · rintro ⟨C, t⟩ he
    obtain ⟨h1, y, h2, h3⟩ := hg.backE (x := (u : Int)) (by omega) (show Ge (rv L) (u : Int).toNat (C, t) from ⟨x, by simpa using hu, he⟩)
    have h4 := hg.all y (List.mem_of_getElem? h2)
    unfold fmd at h4
    simp only [Bool.and_eq_true] at h4
    exact ⟨wn_iff.2 h1, (edg_all h4.1 _ h3).2⟩
/-- How much there is stays. -/
theorem sum_modify (g : St → Nat) (f : St → St) (d : Nat) (hd : ∀ s, g (f s) = g s + d) : ∀ (M : List St) (t : Nat), t < M.length → ((M.modify t f).map g).sum = (M.map g).sum + d
  | [], t, h => by simp at h
  | x :: l, 0, _ => by simp [hd]; omega
  | x :: l, t + 1, h => by
    have := sum_modify g f d hd l t (by simpa using h)
    simp [this]; omega
theorem eS_adE (M : List St) (t : Nat) (g : Ed) (h : t < M.length) : eS (adE M t g) = eS M + 1 := sum_modify (fun s => s.1.length) _ 1 (fun s => by simp) M t h
theorem fS_adE (M : List St) (t : Nat) (g : Ed) (h : t < M.length) : fS (adE M t g) = fS M := (sum_modify (fun s => s.2.length) _ 0 (fun s => by simp) M t h)
theorem eS_adF (M : List St) (t : Nat) (i : Int) (h : t < M.length) : eS (adF M t i) = eS M := (sum_modify (fun s => s.1.length) _ 0 (fun s => by simp) M t h)
theorem fS_adF (M : List St) (t : Nat) (i : Int) (h : t < M.length) : fS (adF M t i) = fS M + 1 := sum_modify (fun s => s.2.length) _ 1 (fun s => by simp) M t h
theorem sums_rvE (i : Int) : ∀ (E : List Ed) (M : List St), (∀ e ∈ E, e.2.toNat < M.length) → eS (rvE i M E) = eS M + E.length ∧ fS (rvE i M E) = fS M
  | [], M, _ => ⟨rfl, rfl⟩
  | e :: l, M, h => by
    have h0 := h e (by simp)
    obtain ⟨h1, h2⟩ := sums_rvE i l (adE M e.2.toNat (e.1, i)) (fun x hx => by rw [adE_len]; exact h x (by simp [hx]))
    refine ⟨h1.trans ?_, h2.trans (fS_adE _ _ _ h0)⟩
    rw [eS_adE _ _ _ h0, List.length_cons]; omega
theorem sums_rvF (i : Int) : ∀ (F : List Int) (M : List St), (∀ t ∈ F, t.toNat < M.length) → eS (rvF i M F) = eS M ∧ fS (rvF i M F) = fS M + F.length
  | [], M, _ => ⟨rfl, rfl⟩
  | e :: l, M, h => by
    have h0 := h e (by simp)
    obtain ⟨h1, h2⟩ := sums_rvF i l (adF M e.toNat i) (fun x hx => by rw [adF_len]; exact h x (by simp [hx]))
    refine ⟨h1.trans (eS_adF _ _ _ h0), h2.trans ?_⟩
    rw [fS_adF _ _ _ h0, List.length_cons]; omega
theorem sums_rvK {L : List St} {s f : Int} (h : Gdd L s f) : ∀ k, k ≤ L.length → eS (rvK L k) = eS (L.take k) ∧ fS (rvK L k) = fS (L.take k)
  | 0, _ => by
    have : ∀ n, eS (List.replicate n ([], [])) = 0 ∧ fS (List.replicate n ([], [])) = 0 := fun n => by
      induction n with
      | zero => exact ⟨rfl, rfl⟩
      | succ n ih => unfold eS fS at ih ⊢; simp only [List.replicate_succ, List.map_cons, List.sum_cons, List.length_nil, ih.1, ih.2]; exact ⟨trivial, trivial⟩
    have h1 := this L.length
    exact ⟨by rw [rvK]; exact h1.1, by rw [rvK]; exact h1.2⟩
  | k + 1, hk => by
    obtain ⟨ih1, ih2⟩ := sums_rvK h k (by omega)
    have hL : L[k]? = some L[k] := List.getElem?_eq_getElem (by omega)
    rw [rvK_next (E := L[k].1) (F := L[k].2) hL]
    have hE := sums_rvE k L[k].1 (rvK L k) (fun e he => by have := h.ge (u := k) (C := e.1) (t := e.2) ⟨_, hL, he⟩; rw [rvK_len]; omega)
    have hF := sums_rvF k L[k].2 (rvE k (rvK L k) L[k].1) (fun t ht => by have := h.gf (u := k) (t := t) ⟨_, hL, ht⟩; rw [rvE_len, rvK_len]; omega)
    rw [hF.1, hF.2, hE.1, hE.2, ih1, ih2]
    have e1 : L.take (k + 1) = L.take k ++ [L[k]] := by rw [List.take_add_one, hL]; rfl
    rw [e1]
    unfold eS fS
    simp only [List.map_append, List.sum_append, List.map_cons, List.map_nil, List.sum_cons, List.sum_nil]
    omega
theorem sums_rv {L : List St} {s f : Int} (h : Gdd L s f) : eS (rv L) = eS L ∧ fS (rv L) = fS L := by
  have := sums_rvK h L.length (Nat.le_refl _)
  rw [List.take_of_length_le (Nat.le_refl _)] at this
  exact this
end Go.Proofs.YteacehfihogmpaaDoor
/- An automaton that is being laid, state by state: the row of its states, and each state's rows, which grow by themselves. -/
namespace Go.Proofs.YteacehfihogmpaaDoor
open Go.RowKit

/-- The blocks that still grow, and those that were there before. -/
def Grw (B : Nat) (V : Value) (R : List Value) (b : Nat) : Prop := b < B ∨ V.ownBlock = some b ∨ ∃ v ∈ R, v.ownBlock = some b
/-- Classes of an edge: a row of their own, if there are any. -/
def ClO (w : World) (B : Nat) (v : Value) (C : List Int) : Prop := C = [] ∨ w.ownsRow B 3 1 v C.length (i64s C)
/-- The cells of the first edges. -/
def GrE (w : World) (B : Nat) (X : Nat → Prop) (E : List Ed) (RE : List Value) : Prop :=
  ∀ (j : Nat) (g : Ed), E[j]? = some g → ∃ (co : Option Addr) (cc : Nat), RE[j * 2]? = some (.slice co g.1.length cc) ∧ RE[j * 2 + 1]? = some (.int .i64 g.2) ∧ ClO w B (.slice co g.1.length cc) g.1 ∧ (g.1 ≠ [] → ∀ b, (Value.slice co g.1.length cc).ownBlock = some b → ¬ X b)
def SlE (w : World) (B : Nat) (X : Nat → Prop) (v : Value) (E : List Ed) : Prop := ∃ RE, w.ownsRow B 88 2 v E.length RE ∧ GrE w B X E RE
structure Gro (w : World) (B : Nat) (V : Value) (n : Nat) (M : List St) (R : List Value) : Prop where
  len : M.length = n
  row : w.ownsRow B 86 2 V n R
  off : ∀ v ∈ R, ∀ b, v.ownBlock = some b → V.ownBlock ≠ some b
  apart : ∀ (p q : Nat) (u v : Value) (b : Nat), R[p]? = some u → R[q]? = some v → u.ownBlock = some b → v.ownBlock = some b → p = q
  slE : ∀ (t : Nat) (s : St), M[t]? = some s → ∃ v, R[t * 2]? = some v ∧ SlE w B (Grw B V R) v s.1
  slF : ∀ (t : Nat) (s : St), M[t]? = some s → ∃ v, R[t * 2 + 1]? = some v ∧ w.ownsRow B 3 1 v s.2.length (i64s s.2)
/-- From one world to a later one: all stays but what grows. -/
structure Gst (w w' : World) (V : Value) (R R' : List Value) : Prop where
  os : w'.os = w.os
  tape : w'.tape = w.tape
  output : w'.output = w.output
  size : w.heap.size ≤ w'.heap.size
  block : ∀ k, k < w.heap.size → V.ownBlock ≠ some k → (∀ v ∈ R, v.ownBlock ≠ some k) → w'.heap[k]? = w.heap[k]?
  sub : ∀ b, b < w.heap.size → (∃ v ∈ R', v.ownBlock = some b) → ∃ v ∈ R, v.ownBlock = some b
section
variable {w w' w'' : World} {B n : Nat} {V : Value} {M : List St} {R R' R'' : List Value}
theorem Gst.refl (w : World) (V : Value) (R : List Value) : Gst w w V R R := ⟨rfl, rfl, rfl, Nat.le_refl _, fun _ _ _ _ => rfl, fun _ _ h => h⟩
theorem Gst.trans (h : Gst w w' V R R') (h' : Gst w' w'' V R' R'') : Gst w w'' V R R'' :=
  ⟨h'.os.trans h.os, h'.tape.trans h.tape, h'.output.trans h.output, Nat.le_trans h.size h'.size, fun k hk hV hR => (h'.block k (Nat.lt_of_lt_of_le hk h.size) hV fun v hv e => by
    obtain ⟨u, hu, he⟩ := h.sub k hk ⟨v, hv, e⟩
    exact hR u hu he).trans (h.block k hk hV hR), fun b hb hx => h.sub b hb (h'.sub b (Nat.lt_of_lt_of_le hb h.size) hx)⟩
theorem Gst.below (hb : Below w.heap.size w w') (V : Value) (R : List Value) : Gst w w' V R R := ⟨hb.os, hb.tape, hb.output, hb.size, fun k hk _ _ => hb.block k hk, fun _ _ h => h⟩
/-- A block that does not grow. -/
theorem Gst.cell (h : Gst w w' V R R') {p : Addr} {v : Value} (hV : V.ownBlock ≠ some p.block) (hR : ∀ v ∈ R, v.ownBlock ≠ some p.block) (hc : w.cell? p = some v) : w'.cell? p = some v :=
  (World.cell?_of_block (h.block p.block (World.block_lt_of_cell? w p hc) hV hR)).trans hc
theorem Gro.lts (h : Gro w B V n M R) : (∀ b, V.ownBlock = some b → B ≤ b ∧ b < w.heap.size) ∧ ∀ v ∈ R, ∀ b, v.ownBlock = some b → B ≤ b ∧ b < w.heap.size := by
  refine ⟨fun b hb => h.row.lt b hb, fun v hv b hb => ?_⟩
  obtain ⟨p, hp⟩ := List.mem_iff_getElem?.1 hv
  have hpl := (List.getElem?_eq_some_iff.1 hp).1
  have hl : R.length = n * 2 := h.row.1
  have hM := h.len
  obtain ⟨s, hs⟩ : ∃ s, M[p / 2]? = some s := ⟨_, List.getElem?_eq_getElem (by omega)⟩
  rcases Nat.mod_two_eq_zero_or_one p with e | e
  · obtain ⟨u, hu, RE, ho, _⟩ := h.slE _ s hs
    rw [show p / 2 * 2 = p by omega, hp] at hu
    cases hu
    exact ho.lt b hb
  · obtain ⟨u, hu, ho⟩ := h.slF _ s hs
    rw [show p / 2 * 2 + 1 = p by omega, hp] at hu
    cases hu
    exact ho.lt b hb
/-- What grows lies above. -/
theorem Gst.low (h : Gst w w' V R R') (hg : Gro w B V n M R) (hB : B ≤ w.heap.size) : Below B w w' := ⟨h.os, h.tape, h.output, h.size, fun k hk => h.block k (by omega) (fun e => by have := (hg.lts.1 k e).1; omega) (fun v hv e => by have := (hg.lts.2 v hv k e).1; omega)⟩
theorem ClO.keep {v : Value} {C : List Int} (h : ClO w B v C) (hk : ∀ b, v.ownBlock = some b → C ≠ [] → b < w.heap.size → w'.heap[b]? = w.heap[b]?) : ClO w' B v C := by
  rcases h with h | h
  · exact .inl h
  · by_cases hC : C = []
    · exact .inl hC
    · exact .inr (own_same h fun b hb hl => hk b hb hC hl)
theorem GrE.keep {X X' : Nat → Prop} {E : List Ed} {RE : List Value} (h : GrE w B X E RE) (hk : Kp w w' X X') : GrE w' B X' E RE := fun j g hg => by
  obtain ⟨co, cc, h1, h2, h3, h4⟩ := h j g hg
  refine ⟨co, cc, h1, h2, h3.keep fun b hb hC hl => hk.block b hl (h4 hC b hb), fun hC b hb hx => ?_⟩
  have hl : b < w.heap.size := by
    rcases h3 with h3 | h3
    · exact absurd h3 hC
    · exact (h3.lt b hb).2
  exact h4 hC b hb (hk.sub b hl hx)
theorem GrE.next {X : Nat → Prop} {E : List Ed} {RE : List Value} {C : List Int} {t : Int} {co : Option Addr} {cc : Nat} (h : GrE w B X E RE) (hR : RE.length = E.length * 2) (hC : ClO w B (.slice co C.length cc) C) (hX : C ≠ [] → ∀ b, (Value.slice co C.length cc).ownBlock = some b → ¬ X b) : GrE w B X (E ++ [(C, t)]) (RE ++ [.slice co C.length cc, .int .i64 t]) := fun j g hg => by
  by_cases hj : j < E.length
  · rw [List.getElem?_append_left hj] at hg
    obtain ⟨co, cc, h1, h2, h3⟩ := h j g hg
    exact ⟨co, cc, by rw [List.getElem?_append_left (by omega)]; exact h1, by rw [List.getElem?_append_left (by omega)]; exact h2, h3⟩
  · have hj' := (List.getElem?_eq_some_iff.1 hg).1
    simp only [List.length_append, List.length_cons, List.length_nil] at hj'
    have e : j = E.length := by omega
    subst e
    simp at hg
    subst hg
    exact ⟨co, cc, by rw [List.getElem?_append_right (by omega), hR]; simp, by rw [List.getElem?_append_right (by omega), hR]; simp, hC, hX⟩
theorem Gro.keep (h : Gro w B V n M R) (hb : Below w.heap.size w w') : Gro w' B V n M R := by
  refine ⟨h.len, own_same h.row fun k _ hk => hb.block k hk, h.off, h.apart, fun t s hs => ?_, fun t s hs => ?_⟩
  · obtain ⟨v, hv, RE, h1, h2⟩ := h.slE t s hs
    exact ⟨v, hv, RE, own_same h1 fun k _ hk => hb.block k hk, h2.keep ⟨hb.size, fun k hk _ => hb.block k hk, fun _ _ hx => hx⟩⟩
  · obtain ⟨v, hv, h1⟩ := h.slF t s hs
    exact ⟨v, hv, own_same h1 fun k _ hk => hb.block k hk⟩
theorem set_at {p q : Nat} {v' x : Value} (hq : (R.set p v')[q]? = some x) : (q = p ∧ x = v') ∨ (q ≠ p ∧ R[q]? = some x) := by
  by_cases e : q = p
  · subst e
    have hl := (List.getElem?_eq_some_iff.1 hq).1
    rw [List.length_set] at hl
    rw [List.getElem?_set_self hl] at hq
    exact .inl ⟨rfl, (Option.some.inj hq).symm⟩
  · rw [List.getElem?_set_ne (Ne.symm e)] at hq
    exact .inr ⟨e, hq⟩
theorem mem_set_ne {p : Nat} {v' x : Value} (hx : x ∈ R.set p v') : x = v' ∨ ∃ q, q ≠ p ∧ R[q]? = some x := by
  obtain ⟨q, hq⟩ := List.mem_iff_getElem?.1 hx
  rcases set_at hq with ⟨_, h⟩ | h
  · exact .inl h
  · exact .inr ⟨q, h⟩
/-- One slot is laid anew. -/
theorem Gro.put {p : Nat} {v v' : Value} {M' : List St} (h : Gro w B V n M R) (hp : R[p]? = some v) (hs : w.heap.size ≤ w'.heap.size) (hk : ∀ k, k < w.heap.size → V.ownBlock ≠ some k → v.ownBlock ≠ some k → w'.heap[k]? = w.heap[k]?)
    (hrow : w'.ownsRow B 86 2 V n (R.set p v')) (hv : ∀ b, v'.ownBlock = some b → v.ownBlock = some b ∨ w.heap.size ≤ b) (hM : M'.length = n)
    (hE : ∀ (t : Nat) (s : St), M'[t]? = some s → (t * 2 = p → SlE w' B (Grw B V (R.set p v')) v' s.1) ∧ (t * 2 ≠ p → ∃ s0, M[t]? = some s0 ∧ s0.1 = s.1))
    (hF : ∀ (t : Nat) (s : St), M'[t]? = some s → (t * 2 + 1 = p → w'.ownsRow B 3 1 v' s.2.length (i64s s.2)) ∧ (t * 2 + 1 ≠ p → ∃ s0, M[t]? = some s0 ∧ s0.2 = s.2)) : Gro w' B V n M' (R.set p v') := by
  have hlt := h.lts
  have hvm : v ∈ R := List.mem_of_getElem? hp
  have hpl := (List.getElem?_eq_some_iff.1 hp).1
  have hks : ∀ (q : Nat) (u : Value), q ≠ p → R[q]? = some u → ∀ b, u.ownBlock = some b → w'.heap[b]? = w.heap[b]? := fun q u hq hu b hb =>
    hk b (hlt.2 u (List.mem_of_getElem? hu) b hb).2 (h.off u (List.mem_of_getElem? hu) b hb) fun e => hq (h.apart q p u v b hu hp hb e)
  have hsub : ∀ b, b < w.heap.size → Grw B V (R.set p v') b → Grw B V R b := fun b hb hx => by
    rcases hx with hx | hx | ⟨x, hx, hbx⟩
    · exact .inl hx
    · exact .inr (.inl hx)
    · rcases mem_set_ne hx with rfl | ⟨q, _, hq⟩
      · rcases hv b hbx with e | e
        · exact .inr (.inr ⟨v, hvm, e⟩)
        · omega
      · exact .inr (.inr ⟨x, List.mem_of_getElem? hq, hbx⟩)
  have hkp : Kp w w' (Grw B V R) (Grw B V (R.set p v')) := ⟨hs, fun k hk' hx => hk k hk' (fun e => hx (.inr (.inl e))) (fun e => hx (.inr (.inr ⟨v, hvm, e⟩))), hsub⟩
  refine ⟨hM, hrow, fun x hx b hb e => ?_, fun q1 q2 x y b hx hy hbx hby => ?_, fun t s hts => ?_, fun t s hts => ?_⟩
  · rcases mem_set_ne hx with rfl | ⟨q, _, hq⟩
    · rcases hv b hb with e' | e'
      · exact h.off v hvm b e' e
      · have := (hlt.1 b e).2; omega
    · exact h.off x (List.mem_of_getElem? hq) b hb e
  · have key : ∀ {q : Nat} {x : Value}, q ≠ p → R[q]? = some x → x.ownBlock = some b → v'.ownBlock = some b → False := fun {q x} hne hq h1 h2 => by
      rcases hv b h2 with e | e
      · exact hne (h.apart p q v x b hp hq e h1).symm
      · have := (hlt.2 x (List.mem_of_getElem? hq) b h1).2; omega
    rcases set_at hx with ⟨e1, rfl⟩ | ⟨e1, hx1⟩
    · rcases set_at hy with ⟨e2, rfl⟩ | ⟨e2, hy1⟩
      · exact e1.trans e2.symm
      · exact absurd (key e2 hy1 hby hbx) id
    · rcases set_at hy with ⟨e2, rfl⟩ | ⟨e2, hy1⟩
      · exact absurd (key e1 hx1 hbx hby) id
      · exact h.apart q1 q2 x y b hx1 hy1 hbx hby
  · obtain ⟨h1, h2⟩ := hE t s hts
    by_cases e : t * 2 = p
    · exact ⟨v', by rw [List.getElem?_set, if_pos e.symm, if_pos hpl], h1 e⟩
    · obtain ⟨s0, h3, h4⟩ := h2 e
      obtain ⟨u, hu, RE, h5, h6⟩ := h.slE t s0 h3
      rw [h4] at h5 h6
      exact ⟨u, by rw [List.getElem?_set, if_neg (Ne.symm e)]; exact hu, RE, own_same h5 fun b hb _ => hks _ u e hu b hb, h6.keep hkp⟩
  · obtain ⟨h1, h2⟩ := hF t s hts
    by_cases e : t * 2 + 1 = p
    · exact ⟨v', by rw [List.getElem?_set, if_pos e.symm, if_pos hpl], h1 e⟩
    · obtain ⟨s0, h3, h4⟩ := h2 e
      obtain ⟨u, hu, h5⟩ := h.slF t s0 h3
      rw [h4] at h5
      exact ⟨u, by rw [List.getElem?_set, if_neg (Ne.symm e)]; exact hu, own_same h5 fun b hb _ => hks _ u e hu b hb⟩
theorem Gst.put {p : Nat} {v v' : Value} (hp : R[p]? = some v) (ho : w'.os = w.os) (ht : w'.tape = w.tape) (hu : w'.output = w.output) (hs : w.heap.size ≤ w'.heap.size) (hk : ∀ k, k < w.heap.size → V.ownBlock ≠ some k → v.ownBlock ≠ some k → w'.heap[k]? = w.heap[k]?) (hv : ∀ b, v'.ownBlock = some b → v.ownBlock = some b ∨ w.heap.size ≤ b) : Gst w w' V R (R.set p v') :=
  ⟨ho, ht, hu, hs, fun k hk' hV hR => hk k hk' hV (hR v (List.mem_of_getElem? hp)), fun b hb ⟨x, hx, hbx⟩ => by
    rcases mem_set_ne hx with rfl | ⟨q, _, hq⟩
    · rcases hv b hbx with e | e
      · exact ⟨v, List.mem_of_getElem? hp, e⟩
      · omega
    · exact ⟨x, List.mem_of_getElem? hq, hbx⟩⟩
/-- One edge more. -/
theorem Gro.addE {t : Nat} {E : List Ed} {F : List Int} {v v' : Value} {RE : List Value} {C : List Int} {i : Int} {co : Option Addr} {cc : Nat} (h : Gro w B V n M R) (hM : M[t]? = some (E, F)) (hp : R[t * 2]? = some v) (hRE : w.ownsRow B 88 2 v E.length RE) (hG : GrE w B (Grw B V R) E RE) (hs : w.heap.size ≤ w'.heap.size) (hk : ∀ k, k < w.heap.size → V.ownBlock ≠ some k → v.ownBlock ≠ some k → w'.heap[k]? = w.heap[k]?)
    (hrow : w'.ownsRow B 86 2 V n (R.set (t * 2) v')) (hv : ∀ b, v'.ownBlock = some b → v.ownBlock = some b ∨ w.heap.size ≤ b) (ho : w'.ownsRow B 88 2 v' (E.length + 1) (RE ++ [.slice co C.length cc, .int .i64 i])) (hC : ClO w' B (.slice co C.length cc) C) (hX : C ≠ [] → ∀ b, (Value.slice co C.length cc).ownBlock = some b → w.heap.size ≤ b ∧ v'.ownBlock ≠ some b) : Gro w' B V n (adE M t (C, i)) (R.set (t * 2) v') := by
  have hlt := h.lts
  have hvm : v ∈ R := List.mem_of_getElem? hp
  refine h.put hp hs hk hrow hv (by rw [adE_len]; exact h.len) (fun u s hu => ⟨fun e => ?_, fun e => ?_⟩) (fun u s hu => ⟨fun e => by omega, fun _ => ?_⟩)
  · have e' : t = u := by omega
    subst e'
    rw [adE_at, hM] at hu
    simp at hu
    subst hu
    refine ⟨_, by simpa using ho, (hG.keep ⟨hs, fun k hk' hx => hk k hk' (fun e => hx (.inr (.inl e))) (fun e => hx (.inr (.inr ⟨v, hvm, e⟩))), fun b hb hx => ?_⟩).next hRE.1 hC fun hC' b hb hx => ?_⟩
    · rcases hx with hx | hx | ⟨x, hx, hbx⟩
      · exact .inl hx
      · exact .inr (.inl hx)
      · rcases mem_set_ne hx with rfl | ⟨q, _, hq⟩
        · rcases hv b hbx with e | e
          · exact .inr (.inr ⟨v, hvm, e⟩)
          · omega
        · exact .inr (.inr ⟨x, List.mem_of_getElem? hq, hbx⟩)
    · obtain ⟨h1, h2⟩ := hX hC' b hb
      have hBw : B ≤ b := by
        rcases hC with h3 | h3
        · exact absurd h3 hC'
        · exact (h3.lt b hb).1
      rcases hx with hx | hx | ⟨x, hx, hbx⟩
      · omega
      · have := (hlt.1 b hx).2; omega
      · rcases mem_set_ne hx with rfl | ⟨q, _, hq⟩
        · exact h2 hbx
        · have := (hlt.2 x (List.mem_of_getElem? hq) b hbx).2; omega
  · rw [adE_at] at hu
    obtain ⟨s0, h1, h2⟩ := Option.map_eq_some_iff.1 hu
    rw [if_neg (by omega)] at h2
    exact ⟨s0, h1, by rw [h2]⟩
  · rw [adE_at] at hu
    obtain ⟨s0, h1, h2⟩ := Option.map_eq_some_iff.1 hu
    refine ⟨s0, h1, ?_⟩
    rw [← h2]
    split <;> rfl
/-- One number more. -/
theorem Gro.addF {t : Nat} {E : List Ed} {F : List Int} {v v' : Value} {i : Int} (h : Gro w B V n M R) (hM : M[t]? = some (E, F)) (hp : R[t * 2 + 1]? = some v) (hs : w.heap.size ≤ w'.heap.size) (hk : ∀ k, k < w.heap.size → V.ownBlock ≠ some k → v.ownBlock ≠ some k → w'.heap[k]? = w.heap[k]?)
    (hrow : w'.ownsRow B 86 2 V n (R.set (t * 2 + 1) v')) (hv : ∀ b, v'.ownBlock = some b → v.ownBlock = some b ∨ w.heap.size ≤ b) (ho : w'.ownsRow B 3 1 v' (F.length + 1) (i64s F ++ [.int .i64 i])) : Gro w' B V n (adF M t i) (R.set (t * 2 + 1) v') := by
  refine h.put hp hs hk hrow hv (by rw [adF_len]; exact h.len) (fun u s hu => ⟨fun e => by omega, fun _ => ?_⟩) (fun u s hu => ⟨fun e => ?_, fun e => ?_⟩)
  · rw [adF_at] at hu
    obtain ⟨s0, h1, h2⟩ := Option.map_eq_some_iff.1 hu
    refine ⟨s0, h1, ?_⟩
    rw [← h2]
    split <;> rfl
  · have e' : t = u := by omega
    subst e'
    rw [adF_at, hM] at hu
    simp at hu
    subst hu
    simpa [i64s] using ho
  · rw [adF_at] at hu
    obtain ⟨s0, h1, h2⟩ := Option.map_eq_some_iff.1 hu
    rw [if_neg (by omega)] at h2
    exact ⟨s0, h1, by rw [h2]⟩
/-- It reads as an automaton. -/
theorem Gro.reads {vo : Option Addr} {vc : Nat} (h : Gro w B (.slice vo n vc) n M R) (hb : ∀ s ∈ M, s.1.length ≤ most ∧ s.2.length ≤ most ∧ ∀ e ∈ s.1, e.1.length ≤ most) : RdS w vo M := fun k s hs => by
  have hk := (List.getElem?_eq_some_iff.1 hs).1
  obtain ⟨b1, b2, b3⟩ := hb s (List.mem_of_getElem? hs)
  obtain ⟨u, hu, RE, ho, hG⟩ := h.slE k s hs
  obtain ⟨v, hv, hF⟩ := h.slF k s hs
  obtain ⟨q, rfl, hq, hlt, c0, c1⟩ := own2_form h.row hu hv
  have hsl : ∀ {e sz m : Nat} {x : Value} {xs : List Value}, w.ownsRow B e sz x m xs → ∃ xo xc, x = .slice xo m xc := fun hx => by
    rcases hx.2 with ⟨rfl, rfl⟩ | ⟨g, cap, cur, rfl, _⟩
    · exact ⟨none, 0, rfl⟩
    · exact ⟨_, _, rfl⟩
  obtain ⟨eo, ec, rfl⟩ := hsl ho
  obtain ⟨fo, fc, rfl⟩ := hsl hF
  refine ⟨_, rfl, hlt, eo, ec, fo, fc, by rw [Addr.add_lit, Nat.zero_add]; exact c0, by rw [Addr.add_lit, Nat.zero_add]; exact c1, fun j g hg => ?_, fun j z hz => ?_, b1, b2⟩
  · obtain ⟨co, cc, h1, h2, h3, _⟩ := hG j g hg
    obtain ⟨q', rfl, _, hlt', d0, d1⟩ := own2_form ho h1 h2
    refine ⟨_, rfl, hlt', co, cc, by rw [Addr.add_lit, Nat.zero_add]; exact d0, by rw [Addr.add_lit, Nat.zero_add]; exact d1, fun i z hz => ?_, b3 g (List.mem_of_getElem? hg)⟩
    rcases h3 with h3 | h3
    · rw [h3] at hz; simp at hz
    · obtain ⟨g', rfl, _, hl, hc⟩ := own_at h3 hz
      exact ⟨_, rfl, hl, by rw [Addr.add_lit, Nat.zero_add]; exact hc⟩
  · obtain ⟨g', rfl, _, hl, hc⟩ := own_at hF hz
    exact ⟨_, rfl, hl, by rw [Addr.add_lit, Nat.zero_add]; exact hc⟩
end
end Go.Proofs.YteacehfihogmpaaDoor
/- The contracts of the builder (package nfa): one number more, one edge more; of slices.Clone. -/
namespace Go.Proofs.YteacehfihogmpaaDoor
open Go.RowKit

/-- What a step of the builder leaves. -/
def AdQ (B : Nat) (V : Value) (n : Nat) (M' : List St) (R : List Value) (w w' : World) : Prop := ∃ R', Gro w' B V n M' R' ∧ Gst w w' V R R'
theorem Gro.at {w : World} {B g n cap t : Nat} {M : List St} {R : List Value} {E : List Ed} {F : List Int} (h : Gro w B (.slice (some ⟨g, 0, none⟩) n cap) n M R) (hM : M[t]? = some (E, F)) : ∃ (eo : Option Addr) (ec : Nat) (fo : Option Addr) (fc : Nat) (RE : List Value), R[t * 2]? = some (.slice eo E.length ec) ∧ R[t * 2 + 1]? = some (.slice fo F.length fc) ∧ w.ownsRow B 88 2 (.slice eo E.length ec) E.length RE ∧ GrE w B (Grw B (.slice (some ⟨g, 0, none⟩) n cap) R) E RE ∧ w.ownsRow B 3 1 (.slice fo F.length fc) F.length (i64s F) ∧ w.cell? ⟨g, t * 2, none⟩ = some (.slice eo E.length ec) ∧ w.cell? ⟨g, t * 2 + 1, none⟩ = some (.slice fo F.length fc) := by
  obtain ⟨u, hu, RE, ho, hG⟩ := h.slE t _ hM
  obtain ⟨v, hv, hF⟩ := h.slF t _ hM
  have hsl : ∀ {e sz m : Nat} {x : Value} {xs : List Value}, w.ownsRow B e sz x m xs → ∃ xo xc, x = .slice xo m xc := fun hx => by
    rcases hx.2 with ⟨rfl, rfl⟩ | ⟨g, cap, cur, rfl, _⟩
    · exact ⟨none, 0, rfl⟩
    · exact ⟨_, _, rfl⟩
  obtain ⟨eo, ec, rfl⟩ := hsl ho
  obtain ⟨fo, fc, rfl⟩ := hsl hF
  obtain ⟨q, e, _, _, c0, c1⟩ := own2_form h.row hu hv
  cases e
  exact ⟨eo, ec, fo, fc, RE, hu, hv, ho, hG, hF, c0, c1⟩
theorem news1 (w : World) (v : Value) (T : TypeId) : ∀ j u, [v][j]? = some u → (w.alloc (.cells #[v] T)).drew.cell? ((⟨w.heap.size, 0, none⟩ : Addr).add j) = some u := fun j u hj => by
  show (w.alloc (.cells #[v] T)).cell? _ = _
  rw [Addr.add_lit, Nat.zero_add, cell_of_row _ w.heap.size j #[v] T (0, 0) (al_new _ _ rfl)]
  simpa using hj
set_option maxHeartbeats 4000000 in
set_option maxRecDepth 100000 in
theorem free_any (B P n t g cap : Nat) (M : List St) (R : List Value) (E : List Ed) (F : List Int) (i : Int) (w : World) (hP : w.heap[P]? = some (.cells #[.slice (some ⟨g, 0, none⟩) n cap] 72)) (hg : Gro w B (.slice (some ⟨g, 0, none⟩) n cap) n M R) (hoff : ∀ v ∈ R, v.ownBlock ≠ some P) (hM : M[t]? = some (E, F)) (hF : F.length ≤ 1000000) (hB : B ≤ w.heap.size) :
    Calls Tryd.prog 54 #[.pointer (some ⟨P, 0, none⟩), .int .i64 (t : Int), .int .i64 i] w fun e w' => e = .returned (.tuple #[]) ∧ AdQ B (.slice (some ⟨g, 0, none⟩) n cap) n (adF M t i) R w w' := by
  obtain ⟨i3, hi3, hz0, hz1, hz2⟩ := info_parts Tryd.info3
  obtain ⟨eo, ec, fo, fc, RE, r0, r1, oE, gE, oF, c0, c1⟩ := hg.at hM
  have htn : t < n := by have := hg.len; have := (List.getElem?_eq_some_iff.1 hM).1; omega
  have cP : w.cell? ⟨P, 0, none⟩ = some (.slice (some ⟨g, 0, none⟩) n cap) := by rw [cell_of_row w P 0 _ 72 (0, 0) hP]; rfl
  have t0 : (0 : Int) ≤ (t : Int) := by omega
  have t1 : (t : Int) < (n : Int) := by omega
  obtain ⟨fn, hfn⟩ : ∃ fn, fn = F.length := ⟨_, rfl⟩
  rw [← hfn] at c1 oF hF r1
  have HG := hid hg
  have HM := hid hM
  have HR1 := hid r1
  have HOF := hid oF
  have HFN := hid hfn
  have HOFF := hid hoff
  have hgs : g < w.heap.size := ((hg.lts.1 g rfl)).2
  have HFO := hid (show ∀ k, (Value.slice fo fn fc).ownBlock = some k → k ≠ P ∧ k ≠ g ∧ k < w.heap.size from fun k hk => ⟨fun e => hoff _ (List.mem_of_getElem? r1) (by rw [hk, e]), fun e => hg.off _ (List.mem_of_getElem? r1) k hk (by rw [e]; rfl), (oF.lt k hk).2⟩)
  clear hP hg hM r0 r1 oE gE oF c0 hfn hoff
  go_enter Tryd.func54, Tryd.ntmps54
  refine wp_region_mix [(0, true), (1, true), (2, true), (3, true), (4, true), (5, true), (6, true), (7, true), (8, true), (9, true), (10, true), (11, true), (12, true), (13, true), (14, false), (15, false), (16, false), (17, true), (18, false)] (fun w' => w'.cell? ⟨P, 0, none⟩ = some (.slice (some ⟨g, 0, none⟩) n cap) ∧ w'.cell? ⟨g, t * 2 + 1, none⟩ = some (.slice fo fn fc)) (fun j => j == 18) (by kernel_rfl) (by kernel_rfl) (fun j hj => by have := beq_iff_eq.1 hj; subst this; decide) rfl (by kernel_rfl) ⟨cP, c1⟩ ?_
  iterate 14 (refine mix_free ?_ rfl (by kernel_rfl) (fun w' hS => ?_) ?_; (rotate_left; (obtain ⟨s1, s2⟩ := hS; go_simp; with_reducible rfl); rotate_left))
  refine mix_go rfl (by kernel_rfl) fun KK hKK => ?_
  go_simp
  refine hKK _ _ (fun _ => ⟨cell_al cP, cell_al c1⟩) ?_
  clear hKK KK
  refine mix_go rfl (by kernel_rfl) fun KK hKK => ?_
  refine wp_append_lies _ _ _ 22 rfl B 3 i3 (.int .i64 0) 1 8 Tryd.underlying22 hi3 hz0 hz1 hz2 rfl (by decide) (.slice fo fn fc) fn (i64s F) rfl (HOF.out.alloc _).drew ⟨w.heap.size, 0, none⟩ 1 1 [.int .i64 i] rfl rfl (news1 w.drew _ 3) (fun u hu => by simp at hu; rw [hu]; rfl) (by decide) (by unfold maxLen; omega) (by omega) (by show B ≤ (w.alloc _).heap.size; simp; omega) (w.heap.size + 1) (by show (w.alloc _).heap.size = _; simp) ?_
  intro q qc w8 o8 gr8 hl8 hlt8
  have hs8 : w.heap.size + 1 ≤ w8.heap.size := by
    have h : (w.alloc (.cells #[.int .i64 i] 3)).heap.size ≤ w8.heap.size := gr8.size
    simpa using h
  have hblk8 : ∀ b, b < w.heap.size → (Value.slice fo fn fc).ownBlock ≠ some b → w8.heap[b]? = w.heap[b]? := fun b hb hne => (gr8.block b (by show b < (w.alloc _).heap.size; simp; omega) (fun e => hne e.symm)).trans (al_old w _ hb)
  have hg8 : w8.heap[g]? = w.heap[g]? := hblk8 g hgs fun e => (HFO.out g e).2.1 rfl
  have x8 : w8.cell? ⟨P, 0, none⟩ = some (.slice (some ⟨g, 0, none⟩) n cap) := (World.cell?_of_block (hblk8 P (World.block_lt_of_cell? w _ cP) (fun e => (HFO.out P e).1 rfl))).trans cP
  have y8 : w8.cell? ⟨g, t * 2 + 1, none⟩ = some (.slice fo fn fc) := (World.cell?_of_block hg8).trans c1
  have orow : w8.ownsRow B 86 2 (.slice (some ⟨g, 0, none⟩) n cap) n R := own_same HG.out.row fun k hk _ => by
    have e : g = k := Option.some.inj hk
    rw [← e]; exact hg8
  have fz := orow.frozenAt (t * 2 + 1)
  refine hKK _ _ (fun _ => ⟨x8, y8⟩) ?_
  clear hKK KK
  refine mix_go rfl (by kernel_rfl) fun KK hKK => ?_
  go_simp
  refine hKK _ _ (fun _ => ⟨x8, y8⟩) ?_
  clear hKK KK
  refine mix_free ?_ rfl (by kernel_rfl) (fun w' hS => ?_) ?_; (rotate_left; (obtain ⟨s1, s2⟩ := hS; go_simp; with_reducible rfl); rotate_left)
  have HO8 := hid o8
  have HROW := hid orow
  have HB8 := hid hblk8
  have HS8 := hid hs8
  have HL8 := hid hl8
  have HT8 := hid (show w8.os = w.os ∧ w8.tape = w.tape ∧ w8.output = w.output from ⟨gr8.os, gr8.tape, gr8.output⟩)
  clear o8 gr8 hl8 hlt8 hs8 hblk8 orow hg8
  refine mix_go rfl (by kernel_rfl) fun KK hKK => ?_
  go_simp
  refine hKK _ _ (fun h => by cases h) ?_
  clear hKK KK
  refine mix_end (NoPanic.normal ?_)
  go_wp2
  go_end0
  have hst := HROW.out.stored (t * 2 + 1) (.slice (some ⟨q, 0, none⟩) (fn + 1) qc)
  have hset : ∀ b, b ≠ g → (w8.setCell ⟨g, t * 2 + 1, none⟩ (.slice (some ⟨q, 0, none⟩) (fn + 1) qc)).heap[b]? = w8.heap[b]? := fun b hb => heap_setCell_other w8 ⟨g, t * 2 + 1, none⟩ b _ (fun e => hb e)
  have hss : (w8.setCell ⟨g, t * 2 + 1, none⟩ (.slice (some ⟨q, 0, none⟩) (fn + 1) qc)).heap.size = w8.heap.size := by simp
  have hv : ∀ b, (Value.slice (some ⟨q, 0, none⟩) (fn + 1) qc).ownBlock = some b → (Value.slice fo fn fc).ownBlock = some b ∨ w.heap.size ≤ b := fun b hb => by
    have e : q = b := Option.some.inj hb
    rcases HL8.out with h | h
    · exact .inl (e ▸ h)
    · exact .inr (by omega)
  have hk : ∀ k, k < w.heap.size → (Value.slice (some ⟨g, 0, none⟩) n cap).ownBlock ≠ some k → (Value.slice fo fn fc).ownBlock ≠ some k → (w8.setCell ⟨g, t * 2 + 1, none⟩ (.slice (some ⟨q, 0, none⟩) (fn + 1) qc)).heap[k]? = w.heap[k]? := fun k hk h1 h2 => (hset k (fun e => h1 (by rw [e]; rfl))).trans (HB8.out k hk h2)
  have hs9 : w.heap.size ≤ (w8.setCell ⟨g, t * 2 + 1, none⟩ (.slice (some ⟨q, 0, none⟩) (fn + 1) qc)).heap.size := by rw [hss]; have := HS8.out; omega
  have hqg : q ≠ g := fun e => by
    rcases HL8.out with h | h
    · exact (HFO.out q h).2.1 e
    · omega
  refine ⟨rfl, R.set (t * 2 + 1) (.slice (some ⟨q, 0, none⟩) (fn + 1) qc), HG.out.addF HM.out HR1.out hs9 hk hst.1 hv ?_, Gst.put HR1.out HT8.out.1 HT8.out.2.1 HT8.out.2.2 hs9 hk hv⟩
  rw [← HFN.out]
  exact own_same HO8.out fun b hb _ => hset b (by have e : q = b := Option.some.inj hb; omega)
set_option maxHeartbeats 1000000 in
set_option maxRecDepth 100000 in
theorem clone_any (co : Option Addr) (cn cc : Nat) (C : List Int) (w : World) (hC : RdI w co C) (hn : cn = C.length) (hl : cn ≤ 1000000) :
    Calls Tryd.prog 93 #[.slice co cn cc] w fun e w' => ∃ vo vc, e = .returned (.slice vo cn vc) ∧ ClO w' w.heap.size (.slice vo cn vc) C ∧ Below w.heap.size w w' := by
  have q22 : ∀ (w : World) (a : Option Addr) (n c n' c' : Nat), (binOp .eql 22 (.slice a n c) (.slice none n' c')).run Tryd.prog w = .ok (.bool a.isNone) w := fun w a n c n' c' => Lib.run_eql_slice_nil w _ _ a n c n' c' Tryd.underlying22
  cases co with
  | none =>
    have h0 : C = [] := by
      cases C with
      | nil => rfl
      | cons x l => obtain ⟨a, e, _⟩ := hC 0 x rfl; cases e
    subst h0
    obtain rfl : cn = 0 := hn
    clear hC
    go_enter Tryd.func93, Tryd.ntmps93
    go_wp2
    go_ret
    exact ⟨_, _, rfl, .inl rfl, Below.refl _ _⟩
  | some a =>
    have HC := hid hC
    have HN := hid hn
    clear hC hn
    go_enter Tryd.func93, Tryd.ntmps93
    have HW := hid (show (w.alloc (.cells #[] 3)).ownsRow w.heap.size 3 1 (.slice (some ⟨w.heap.size, 0, none⟩) 0 0) 0 [] from World.ownsRow_lit w #[] 0 (Nat.le_refl _) (by decide) (by simp))
    have HB0 := hid ((Below.refl w.heap.size w).alloc (Nat.le_refl _) (.cells #[] 3))
    go_wp2_with (at_builtin; refine wpList_copy rfl _ _ rfl w.heap.size w.heap.size rfl HW.out (some a) cn cc C rfl (HC.out.below HB0.out) HN.out hl (by simp) ?_; intro q qc w2 o2 gr2 hq2 hlt2)
    have HB2 := hid (HB0.out.grown gr2 (by simp) (fun k hk => by have e : w.heap.size = k := Option.some.inj hk; omega))
    have HO2 := hid o2
    clear o2 gr2 hq2 hlt2
    go_ret
    exact ⟨_, _, rfl, .inr (by rw [← HN.out]; exact HO2.out), HB2.out⟩
set_option maxHeartbeats 4000000 in
set_option maxRecDepth 100000 in
theorem edge_any (B P n t g cap : Nat) (M : List St) (R : List Value) (E : List Ed) (F : List Int) (i : Int) (co : Option Addr) (cn cc : Nat) (C : List Int) (w : World) (hP : w.heap[P]? = some (.cells #[.slice (some ⟨g, 0, none⟩) n cap] 72)) (hg : Gro w B (.slice (some ⟨g, 0, none⟩) n cap) n M R) (hoff : ∀ v ∈ R, v.ownBlock ≠ some P) (hM : M[t]? = some (E, F)) (hE : E.length ≤ 1000000) (hB : B ≤ w.heap.size) (hC : RdI w co C) (hcn : cn = C.length) (hcl : cn ≤ 1000000) :
    Calls Tryd.prog 55 #[.pointer (some ⟨P, 0, none⟩), .int .i64 (t : Int), .int .i64 i, .slice co cn cc] w fun e w' => e = .returned (.tuple #[]) ∧ AdQ B (.slice (some ⟨g, 0, none⟩) n cap) n (adE M t (C, i)) R w w' := by
  obtain ⟨i88, hi88, he0, he1, he2⟩ := info_parts Tryd.info88
  obtain ⟨eo, ec, fo, fc, RE, r0, r1, oE, gE, oF, c0, c1⟩ := hg.at hM
  have htn : t < n := by have := hg.len; have := (List.getElem?_eq_some_iff.1 hM).1; omega
  have cP : w.cell? ⟨P, 0, none⟩ = some (.slice (some ⟨g, 0, none⟩) n cap) := by rw [cell_of_row w P 0 _ 72 (0, 0) hP]; rfl
  have t0 : (0 : Int) ≤ (t : Int) := by omega
  have t1 : (t : Int) < (n : Int) := by omega
  obtain ⟨en, hen⟩ : ∃ en, en = E.length := ⟨_, rfl⟩
  rw [← hen] at c0 oE hE r0
  have HG := hid hg
  have HM := hid hM
  have HR0 := hid r0
  have HOE := hid oE
  have HGE := hid gE
  have HEN := hid hen
  have HC := hid hC
  have HCN := hid hcn
  have hgs : g < w.heap.size := ((hg.lts.1 g rfl)).2
  have HFO := hid (show ∀ k, (Value.slice eo en ec).ownBlock = some k → k ≠ P ∧ k ≠ g ∧ k < w.heap.size from fun k hk => ⟨fun e => hoff _ (List.mem_of_getElem? r0) (by rw [hk, e]), fun e => hg.off _ (List.mem_of_getElem? r0) k hk (by rw [e]; rfl), (oE.lt k hk).2⟩)
  clear hP hg hM r0 r1 oE gE oF c1 hen hoff hC hcn
  go_enter Tryd.func55, Tryd.ntmps55
  refine wp_region_mix [(0, true), (1, true), (2, true), (3, true), (4, true), (5, true), (6, true), (7, true), (8, true), (9, true), (10, true), (11, true), (12, true), (13, true), (15, true), (14, false), (16, true), (17, false), (18, false), (19, false), (20, true), (21, false)] (fun w' => w'.cell? ⟨P, 0, none⟩ = some (.slice (some ⟨g, 0, none⟩) n cap) ∧ w'.cell? ⟨g, t * 2, none⟩ = some (.slice eo en ec)) (fun j => j == 21) (by kernel_rfl) (by kernel_rfl) (fun j hj => by have := beq_iff_eq.1 hj; subst this; decide) rfl (by kernel_rfl) ⟨cP, c0⟩ ?_
  iterate 15 (refine mix_free ?_ rfl (by kernel_rfl) (fun w' hS => ?_) ?_; (rotate_left; (obtain ⟨s1, s2⟩ := hS; go_simp; with_reducible rfl); rotate_left))
  refine mix_go rfl (by kernel_rfl) fun KK hKK => ?_
  go_simp
  refine (clone_any co cn cc C w.drew HC.out HCN.out hcl).mono ?_
  rintro e w4 ⟨vo, vc, rfl, k4, b4⟩
  have hs4 : w.heap.size ≤ w4.heap.size := b4.size
  have x4 : w4.cell? ⟨P, 0, none⟩ = some (.slice (some ⟨g, 0, none⟩) n cap) := cell_bl b4 cP
  have y4 : w4.cell? ⟨g, t * 2, none⟩ = some (.slice eo en ec) := cell_bl b4 c0
  refine hKK _ _ (fun _ => ⟨x4, y4⟩) ?_
  clear hKK KK
  refine mix_free ?_ rfl (by kernel_rfl) (fun w' hS => ?_) ?_; (rotate_left; (go_simp; with_reducible rfl); rotate_left)
  have HK4 := hid k4
  have HB4 := hid (show ∀ b, b < w.heap.size → w4.heap[b]? = w.heap[b]? from fun b hb => b4.block b hb)
  have HT4 := hid (show w4.os = w.os ∧ w4.tape = w.tape ∧ w4.output = w.output from ⟨b4.os, b4.tape, b4.output⟩)
  have HOE4 := hid (show w4.ownsRow B 88 2 (.slice eo en ec) en RE from own_same HOE.out fun b _ hb => b4.block b hb)
  clear k4 b4
  refine mix_go rfl (by kernel_rfl) fun KK hKK => ?_
  go_simp
  refine hKK _ _ (fun _ => ⟨cell_al x4, cell_al y4⟩) ?_
  clear hKK KK
  refine mix_go rfl (by kernel_rfl) fun KK hKK => ?_
  refine wp_append_lies _ _ _ 84 rfl B 88 i88 (.agg #[.slice none 0 0, .int .i64 0]) 2 32 Tryd.underlying84 hi88 he0 he1 he2 rfl (by decide) (.slice eo en ec) en RE rfl (HOE4.out.alloc _) ⟨w4.heap.size, 0, none⟩ 1 1 [.slice vo cn vc, .int .i64 i] rfl rfl (news_two w4 _ _ 88) (fun u hu => by simp at hu; rcases hu with h | h <;> rw [h] <;> rfl) (by decide) (by unfold maxLen; omega) (by omega) (by show B ≤ (w4.alloc _).heap.size; simp; omega) (w4.heap.size + 1) (by show (w4.alloc _).heap.size = _; simp) ?_
  intro q qc w8 o8 gr8 hl8 hlt8
  have hs8 : w4.heap.size + 1 ≤ w8.heap.size := by
    have h : (w4.alloc (.cells #[.slice vo cn vc, .int .i64 i] 88)).heap.size ≤ w8.heap.size := gr8.size
    simpa using h
  have hblk48 : ∀ b, b < w4.heap.size → (Value.slice eo en ec).ownBlock ≠ some b → w8.heap[b]? = w4.heap[b]? := fun b hb hne => (gr8.block b (by show b < (w4.alloc _).heap.size; simp; omega) (fun e => hne e.symm)).trans (al_old w4 _ hb)
  have hblk8 : ∀ b, b < w.heap.size → (Value.slice eo en ec).ownBlock ≠ some b → w8.heap[b]? = w.heap[b]? := fun b hb hne => (hblk48 b (by omega) hne).trans (HB4.out b hb)
  have hg8 : w8.heap[g]? = w.heap[g]? := hblk8 g hgs fun e => (HFO.out g e).2.1 rfl
  have x8 : w8.cell? ⟨P, 0, none⟩ = some (.slice (some ⟨g, 0, none⟩) n cap) := (World.cell?_of_block (hblk8 P (World.block_lt_of_cell? w _ cP) (fun e => (HFO.out P e).1 rfl))).trans cP
  have y8 : w8.cell? ⟨g, t * 2, none⟩ = some (.slice eo en ec) := (World.cell?_of_block hg8).trans c0
  have orow : w8.ownsRow B 86 2 (.slice (some ⟨g, 0, none⟩) n cap) n R := own_same HG.out.row fun k hk _ => by
    have e : g = k := Option.some.inj hk
    rw [← e]; exact hg8
  have fz := orow.frozenAt (t * 2)
  refine hKK _ _ (fun _ => ⟨x8, y8⟩) ?_
  clear hKK KK
  refine mix_go rfl (by kernel_rfl) fun KK hKK => ?_
  go_simp
  refine hKK _ _ (fun _ => ⟨x8, y8⟩) ?_
  clear hKK KK
  refine mix_free ?_ rfl (by kernel_rfl) (fun w' hS => ?_) ?_; (rotate_left; (obtain ⟨s1, s2⟩ := hS; go_simp; with_reducible rfl); rotate_left)
  have HO8 := hid o8
  have HROW := hid orow
  have HB8 := hid hblk8
  have HB48 := hid hblk48
  have HS8 := hid hs8
  have HS4 := hid hs4
  have HL8 := hid hl8
  have HT8 := hid (show w8.os = w.os ∧ w8.tape = w.tape ∧ w8.output = w.output from ⟨(show w8.os = w4.os from gr8.os).trans HT4.out.1, (show w8.tape = w4.tape from gr8.tape).trans HT4.out.2.1, (show w8.output = w4.output from gr8.output).trans HT4.out.2.2⟩)
  clear o8 gr8 hl8 hlt8 hs8 hblk8 hblk48 orow hg8 hs4 x4 y4
  refine mix_go rfl (by kernel_rfl) fun KK hKK => ?_
  go_simp
  refine hKK _ _ (fun h => by cases h) ?_
  clear hKK KK
  refine mix_end (NoPanic.normal ?_)
  go_wp2
  go_end0
  have hst := HROW.out.stored (t * 2) (.slice (some ⟨q, 0, none⟩) (en + 1) qc)
  have hset : ∀ b, b ≠ g → (w8.setCell ⟨g, t * 2, none⟩ (.slice (some ⟨q, 0, none⟩) (en + 1) qc)).heap[b]? = w8.heap[b]? := fun b hb => heap_setCell_other w8 ⟨g, t * 2, none⟩ b _ (fun e => hb e)
  have hss : (w8.setCell ⟨g, t * 2, none⟩ (.slice (some ⟨q, 0, none⟩) (en + 1) qc)).heap.size = w8.heap.size := by simp
  have hs4 := HS4.out
  have hs8 := HS8.out
  have hv : ∀ b, (Value.slice (some ⟨q, 0, none⟩) (en + 1) qc).ownBlock = some b → (Value.slice eo en ec).ownBlock = some b ∨ w.heap.size ≤ b := fun b hb => by
    have e : q = b := Option.some.inj hb
    rcases HL8.out with h | h
    · exact .inl (e ▸ h)
    · exact .inr (by omega)
  have hk : ∀ k, k < w.heap.size → (Value.slice (some ⟨g, 0, none⟩) n cap).ownBlock ≠ some k → (Value.slice eo en ec).ownBlock ≠ some k → (w8.setCell ⟨g, t * 2, none⟩ (.slice (some ⟨q, 0, none⟩) (en + 1) qc)).heap[k]? = w.heap[k]? := fun k hk h1 h2 => (hset k (fun e => h1 (by rw [e]; rfl))).trans (HB8.out k hk h2)
  have hs9 : w.heap.size ≤ (w8.setCell ⟨g, t * 2, none⟩ (.slice (some ⟨q, 0, none⟩) (en + 1) qc)).heap.size := by rw [hss]; omega
  have hqg : q ≠ g := fun e => by
    rcases HL8.out with h | h
    · exact (HFO.out q h).2.1 e
    · omega
  have hcb : C ≠ [] → ∀ b, (Value.slice vo C.length vc).ownBlock = some b → w.heap.size ≤ b ∧ b < w4.heap.size := fun hC' b hb => by
    have h := HK4.out
    rw [HCN.out] at h
    rcases h with h | h
    · exact absurd h hC'
    · exact h.lt b hb
  have hcq : C ≠ [] → ∀ b, (Value.slice vo C.length vc).ownBlock = some b → b ≠ q := fun hC' b hb e => by
    have h1 := hcb hC' b hb
    rcases HL8.out with h | h
    · have := (HFO.out q h).2.2; omega
    · omega
  refine ⟨rfl, R.set (t * 2) (.slice (some ⟨q, 0, none⟩) (en + 1) qc), HG.out.addE (co := vo) (cc := vc) HM.out HR0.out (by rw [← HEN.out]; exact HOE.out) HGE.out hs9 hk hst.1 hv ?_ ?_ (fun hC' b hb => ⟨(hcb hC' b hb).1, fun e => hcq hC' b hb (Option.some.inj e).symm⟩), Gst.put HR0.out HT8.out.1 HT8.out.2.1 HT8.out.2.2 hs9 hk hv⟩
  · rw [← HEN.out, ← HCN.out]
    exact own_same HO8.out fun b hb _ => hset b (by have e : q = b := Option.some.inj hb; omega)
  · have h := HK4.out
    rw [HCN.out] at h
    refine (show ClO w4 B (.slice vo C.length vc) C from ?_).keep fun b hb hC' hl => ?_
    · rcases h with h | h
      · exact .inl h
      · exact .inr (own_mono' h hB)
    · have h1 := hcb hC' b hb
      rw [hset b (by omega), HB48.out b hl (fun e => by have := (HFO.out b e).2.2; omega)]
end Go.Proofs.YteacehfihogmpaaDoor
/- The contract of Reverse (package nfa). -/
namespace Go.Proofs.YteacehfihogmpaaDoor
open Go.RowKit

theorem Gro.keep2 {w w' : World} {B n : Nat} {V : Value} {M : List St} {R : List Value} (h : Gro w B V n M R) (hs : w.heap.size ≤ w'.heap.size) (hb : ∀ k, B ≤ k → k < w.heap.size → w'.heap[k]? = w.heap[k]?) : Gro w' B V n M R := by
  refine ⟨h.len, own_same h.row fun k hk hl => hb k (h.row.lt k hk).1 hl, h.off, h.apart, fun t s hs' => ?_, fun t s hs' => ?_⟩
  · obtain ⟨v, hv, RE, h1, h2⟩ := h.slE t s hs'
    exact ⟨v, hv, RE, own_same h1 fun k hk hl => hb k (h1.lt k hk).1 hl, h2.keep ⟨hs, fun k hk hx => hb k (Nat.le_of_not_lt fun e => hx (.inl e)) hk, fun _ _ hx => hx⟩⟩
  · obtain ⟨v, hv, h1⟩ := h.slF t s hs'
    exact ⟨v, hv, own_same h1 fun k hk hl => hb k (h1.lt k hk).1 hl⟩
theorem mkT {t e : TypeId} {i : TypeInfo} {z : Value} {by_ sz : Nat} (ht : Tryd.prog.underlying t = some (.slice e)) (hi : Tryd.prog.info? e = some i) (hz : i.zero = some z) (h1 : i.size = sz) (h2 : i.bytes = by_) (hb : by_ ≤ 48) (n : Nat) (hn : n ≤ 1000000) (W : World) :
    (Instr.makeSlice t (.int .i64 (n : Int)) (.int .i64 (n : Int))).run Tryd.prog W = .ok (.slice (some ⟨W.heap.size, 0, none⟩) n n) (W.alloc (.cells (madeCells z.cells (n * sz)) e)) := by
  have h := run_make (P := Tryd.prog) W t e i z ht hi hz .i64 .i64 (n : Int) (n : Int) (by omega) (Int.le_refl _) (by rw [h2]; have : (by_ : Int) * (n : Int) ≤ 48 * 1000000 := Int.mul_le_mul (by omega) (by omega) (by omega) (by omega); omega) (by omega)
  rw [h1] at h
  simpa using h
theorem zero2 (n : Nat) : (madeCells (Value.agg #[.slice none 0 0, .slice none 0 0]).cells (n * 2)).toList = List.replicate (n * 2) (.slice none 0 0) := by
  apply List.ext_getElem?
  intro k
  rw [Array.getElem?_toList, List.getElem?_replicate]
  unfold madeCells
  rw [Array.getElem?_map, Array.getElem?_range]
  split
  · have e : ∀ m, m < 2 → (#[Value.slice none 0 0, Value.slice none 0 0] : Array Value).getD m undef = Value.slice none 0 0 := fun m hm => by
      match m, hm with
      | 0, _ => rfl
      | 1, _ => rfl
    have hm : k % 2 < 2 := Nat.mod_lt _ (by decide)
    rw [Option.map_some]
    refine congrArg some ?_
    rw [show (Value.agg #[.slice none 0 0, .slice none 0 0]).cells = #[Value.slice none 0 0, Value.slice none 0 0] from rfl]
    rcases Nat.mod_two_eq_zero_or_one k with e | e <;> simp [e]
  · rfl
theorem Gro.start {w : World} {B g n : Nat} (hg : w.heap[g]? = some (.cells (madeCells (Value.agg #[.slice none 0 0, .slice none 0 0]).cells (n * 2)) 86)) (hB : B ≤ g) (hn : n ≤ maxLen) : Gro w B (.slice (some ⟨g, 0, none⟩) n n) n (List.replicate n ([], [])) (List.replicate (n * 2) (.slice none 0 0)) := by
  have hno : ∀ v ∈ List.replicate (n * 2) (Value.slice none 0 0), v.ownBlock = none := fun v hv => by rw [(List.mem_replicate.1 hv).2]; rfl
  refine ⟨by simp, ⟨by simp, .inr ⟨g, n, _, rfl, hB, hg, Nat.le_refl _, hn, by rw [size_madeCells], ?_⟩⟩, fun v hv b hb => ?_, fun p q u v b hu _ hb => ?_, fun t s hs => ?_, fun t s hs => ?_⟩
  · rw [zero2, List.take_of_length_le (by simp)]
  · rw [hno v hv] at hb; cases hb
  · rw [hno u (List.mem_of_getElem? hu)] at hb; cases hb
  · have ht := (List.getElem?_eq_some_iff.1 hs).1
    simp at ht
    rw [List.getElem?_replicate, if_pos ht] at hs
    cases hs
    exact ⟨.slice none 0 0, by rw [List.getElem?_replicate, if_pos (by omega)], [], World.ownsRow_nil _ _ _ _, fun j g hg => by simp at hg⟩
  · have ht := (List.getElem?_eq_some_iff.1 hs).1
    simp at ht
    rw [List.getElem?_replicate, if_pos ht] at hs
    cases hs
    exact ⟨.slice none 0 0, by rw [List.getElem?_replicate, if_pos (by omega)], World.ownsRow_nil _ _ _ _⟩
theorem Gro.nil (w : World) (B : Nat) : Gro w B (.slice none 0 0) 0 [] [] := ⟨rfl, World.ownsRow_nil _ _ _ _, fun v hv => by simp at hv, fun p q u v b hu => by simp at hu, fun t s hs => by simp at hs, fun t s hs => by simp at hs⟩
theorem rs_len : ∀ {l : List Int} {last : Int}, rs last l = true → last ≤ 63 → (l.length : Int) ≤ 63 - last
  | [], last, _, h => by simp; omega
  | c :: l, last, h, _ => by
    by_cases h1 : c ≤ last
    · rw [rs_bad (.inl h1)] at h; cases h
    · by_cases h2 : 64 ≤ c
      · rw [rs_bad (.inr h2)] at h; cases h
      · rw [rs_ok (by omega) (by omega)] at h
        have := rs_len h (by omega)
        rw [List.length_cons]; omega
theorem Gdd.lens {L : List St} {s f : Int} (h : Gdd L s f) : ∀ x ∈ L, ∀ e ∈ x.1, e.1.length ≤ 64 := fun x hx e he => by
  have h1 := h.all x hx
  unfold fmd at h1
  simp only [Bool.and_eq_true] at h1
  have := rs_len (edg_all h1.1 e he).2 (by omega)
  omega
theorem le_sum : ∀ {l : List Nat} {x : Nat}, x ∈ l → x ≤ l.sum
  | y :: l, x, h => by
    rw [List.sum_cons]
    rcases List.mem_cons.1 h with rfl | h
    · omega
    · have := le_sum h; omega
theorem eS_in {M : List St} {x : St} (h : x ∈ M) : x.1.length ≤ eS M := le_sum (List.mem_map.2 ⟨x, h, rfl⟩)
theorem fS_in {M : List St} {x : St} (h : x ∈ M) : x.2.length ≤ fS M := le_sum (List.mem_map.2 ⟨x, h, rfl⟩)
/-- While it is turned round, no state has more than there are in all. -/
theorem rv_small {L : List St} {s f : Int} (h : Gdd L s f) {i k m : Nat} {E : List Ed} {F : List Int} (hL : L[i]? = some (E, F)) : eS (rvF i (rvE i (rvK L i) (E.take k)) (F.take m)) ≤ eS L ∧ fS (rvF i (rvE i (rvK L i) (E.take k)) (F.take m)) ≤ fS L := by
  have hi := (List.getElem?_eq_some_iff.1 hL).1
  have hLe := (List.getElem?_eq_some_iff.1 hL).2
  have hE := sums_rvE i (E.take k) (rvK L i) (fun e he => by have := h.ge (u := i) (C := e.1) (t := e.2) ⟨_, hL, List.mem_of_mem_take he⟩; rw [rvK_len]; omega)
  have hF := sums_rvF i (F.take m) (rvE i (rvK L i) (E.take k)) (fun t ht => by have := h.gf (u := i) (t := t) ⟨_, hL, List.mem_of_mem_take ht⟩; rw [rvE_len, rvK_len]; omega)
  have h1 := sums_rvK h i (by omega)
  have h2 := eS_take L i hi
  have h3 := fS_take L i hi
  have h4 := eS_le L (i + 1)
  have h5 := fS_le L (i + 1)
  rw [hLe] at h2 h3
  dsimp only at h2 h3
  have h6 : (E.take k).length ≤ E.length := by rw [List.length_take]; omega
  have h7 : (F.take m).length ≤ F.length := by rw [List.length_take]; omega
  constructor
  · rw [hF.1, hE.1, h1.1]; omega
  · rw [hF.2, hE.2, h1.2]; omega
/-- What Reverse tells. -/
structure RvS (L : List St) (s f : Int) (M : List St) (a b : Int) : Prop where
  yes : gdB L s f = true → M = rv L ∧ a = f ∧ b = s
  no : gdB L s f = false → M = [] ∧ a = 0 ∧ b = 0
def RvQ (w : World) (L : List St) (s f : Int) (e : Ending) (w' : World) : Prop :=
  ∃ (B : Nat) (vo : Option Addr) (m vc : Nat) (M : List St) (R : List Value) (a b : Int), e = .returned (.agg #[.slice vo m vc, .int .i64 a, .int .i64 b]) ∧ RvS L s f M a b ∧ w.heap.size ≤ B ∧ B ≤ w'.heap.size ∧ Gro w' B (.slice vo m vc) m M R ∧ Below w.heap.size w w'
/-- What stays from the beginning on. -/
theorem Gst.old {W wr : World} {g n cap : Nat} {k : Nat} {R : List Value} (h : Gst W wr (.slice (some ⟨g, 0, none⟩) n cap) (List.replicate k (.slice none 0 0)) R) : (∀ b, b < W.heap.size → b ≠ g → wr.heap[b]? = W.heap[b]?) ∧ ∀ b, b < W.heap.size → ∀ v ∈ R, v.ownBlock ≠ some b := by
  have hno : ∀ v ∈ List.replicate k (Value.slice none 0 0), v.ownBlock = none := fun v hv => by rw [(List.mem_replicate.1 hv).2]; rfl
  refine ⟨fun b hb hne => h.block b hb (fun e => hne (Option.some.inj e).symm) (fun v hv e => by rw [hno v hv] at e; cases e), fun b hb v hv e => ?_⟩
  obtain ⟨u, hu, e'⟩ := h.sub b hb ⟨v, hv, e⟩
  rw [hno u hu] at e'; cases e'
set_option maxHeartbeats 16000000 in
set_option maxRecDepth 100000 in
theorem rev_any (so : Option Addr) (sc n : Nat) (L : List St) (s f : Int) (w : World) (hn : n = L.length) (hs : RdS w so L) (hnm : n ≤ most) (he : eS L ≤ 1000000) (hf : fS L ≤ 1000000) :
    Calls Tryd.prog 35 #[.agg #[.slice so n sc, .int .i64 s, .int .i64 f]] w fun e w' => RvQ w L s f e w' := by
  obtain ⟨i86, hi86, hs0, hs1, hs2⟩ := info_parts Tryd.info86
  have HN := hid hn
  have HS := hid hs
  have HES := hid he
  have HFS := hid hf
  obtain ⟨w1, hw1⟩ : ∃ w1, w1 = (w.alloc (.cells #[.slice so n sc, .int .i64 s, .int .i64 f] 28)).alloc (.cells #[.slice none 0 0, .int .i64 0, .int .i64 0] 28) := ⟨_, rfl⟩
  have q1 : w1.heap[w.heap.size]? = some (.cells #[.slice so n sc, .int .i64 s, .int .i64 f] 28) := by rw [hw1, al_old _ _ (by simp), al_new _ _ rfl]
  have q2 : w1.heap[w.heap.size + 1]? = some (.cells #[.slice none 0 0, .int .i64 0, .int .i64 0] 28) := by rw [hw1, al_new _ _ (by simp)]
  have hsz1 : w1.heap.size = w.heap.size + 2 := by rw [hw1]; simp
  have b1 : Below w.heap.size w w1 := by rw [hw1]; exact ((Below.refl _ _).alloc (Nat.le_refl _) _).alloc (by simp) _
  have HB1 := hid b1
  have HQ1 := hid q1
  have HQ2 := hid q2
  have HSZ1 := hid hsz1
  have c0 : w1.cell? ⟨w.heap.size, 0, none⟩ = some (.slice so n sc) := by rw [cell_of_row w1 w.heap.size 0 _ 28 (0, 0) q1]; rfl
  have c1 : w1.cell? ⟨w.heap.size, 1, none⟩ = some (.int .i64 s) := by rw [cell_of_row w1 w.heap.size 1 _ 28 (0, 0) q1]; rfl
  have c2 : w1.cell? ⟨w.heap.size, 2, none⟩ = some (.int .i64 f) := by rw [cell_of_row w1 w.heap.size 2 _ 28 (0, 0) q1]; rfl
  have HC1 := hid c1
  have HC2 := hid c2
  clear hn hs q1 q2 hsz1 b1 he hf
  go_enter Tryd.func35, Tryd.ntmps35
  go_wp2_with fail
  rw [← hw1]
  clear hw1
  refine (good_any so sc n L s f w1 HN.out (HS.out.below HB1.out) hnm).mono ?_
  rintro e w2 ⟨rfl, b2⟩
  have HB2 := hid b2
  have d0 := cell_bl b2 c0
  clear b2 c0 c1 c2
  rcases bool_cases (gdB L s f) with hG | hG
  · have hgd := gdd_of hG
    rw [hG]
    have hn4 : n ≤ 4096 := by have := hgd.few; have := HN.out; omega
    have M1 := mkT Tryd.underlying26 hi86 hs0 hs1 hs2 (by decide) n (by omega)
    obtain ⟨Z, hZ⟩ : ∃ Z, Z = madeCells (Value.agg #[.slice none 0 0, .slice none 0 0]).cells (n * 2) := ⟨_, rfl⟩
    rw [← hZ] at M1
    obtain ⟨g, hg⟩ : ∃ g, g = w2.heap.size := ⟨_, rfl⟩
    obtain ⟨W0, hW0⟩ : ∃ W0, W0 = (w2.alloc (.cells Z 86)).alloc (.cells #[.slice (some ⟨g, 0, none⟩) n n] 72) := ⟨_, rfl⟩
    have hs0' : W0.heap.size = g + 2 := by rw [hW0, hg]; simp
    have hWg : W0.heap[g]? = some (.cells Z 86) := by rw [hW0, al_old _ _ (by rw [hg]; simp), al_new _ _ hg]
    have hWP : W0.heap[g + 1]? = some (.cells #[.slice (some ⟨g, 0, none⟩) n n] 72) := by rw [hW0, al_new _ _ (by rw [hg]; simp)]
    have hWo : ∀ b, b < g → W0.heap[b]? = w2.heap[b]? := fun b hb => by rw [hW0, al_old _ _ (by simp; omega), al_old _ _ (by omega)]
    have HWP := hid hWP
    have HWO := hid hWo
    have HS0 := hid hs0'
    have hgp1 : w.heap.size + 2 ≤ g := by have h1 := HB2.out.size; have h2 := HSZ1.out; omega
    have HGR := hid (show Gro W0 g (.slice (some ⟨g, 0, none⟩) n n) n (rvK L 0) (List.replicate (n * 2) (.slice none 0 0)) from by
      rw [hZ] at hWg
      have h := Gro.start (B := g) hWg (Nat.le_refl _) (show n ≤ maxLen by unfold maxLen; omega)
      rw [HN.out] at h ⊢
      exact h)
    have HGD := hid hgd
    have HGB := hid hG
    have HGP := hid hgp1
    have HT0 := hid (show W0.os = w.os ∧ W0.tape = w.tape ∧ W0.output = w.output from by
      rw [hW0]
      exact ⟨HB2.out.os.trans HB1.out.os, HB2.out.tape.trans HB1.out.tape, HB2.out.output.trans HB1.out.output⟩)
    -- what stays, of whatever comes later
    have HKP := hid (show ∀ (wr : World) (R : List Value), Gst W0 wr (.slice (some ⟨g, 0, none⟩) n n) (List.replicate (n * 2) (.slice none 0 0)) R → Below w.heap.size w wr ∧ wr.heap[g + 1]? = some (.cells #[.slice (some ⟨g, 0, none⟩) n n] 72) ∧ wr.heap[w.heap.size]? = some (.cells #[.slice so n sc, .int .i64 s, .int .i64 f] 28) ∧ wr.heap[w.heap.size + 1]? = some (.cells #[.slice none 0 0, .int .i64 0, .int .i64 0] 28) ∧ (∀ v ∈ R, v.ownBlock ≠ some (g + 1)) ∧ g + 2 ≤ wr.heap.size from fun wr R h => by
      obtain ⟨h1, h2⟩ := h.old
      have hsz := HS0.out
      have hb2 := HB2.out
      have hz1 := HSZ1.out
      refine ⟨⟨h.os.trans HT0.out.1, h.tape.trans HT0.out.2.1, h.output.trans HT0.out.2.2, by have := h.size; omega, fun k hk => ?_⟩, ?_, ?_, ?_, h2 (g + 1) (by omega), by have := h.size; omega⟩
      · rw [h1 k (by omega) (by omega), HWO.out k (by omega), hb2.block k (by omega), HB1.out.block k hk]
      · rw [h1 (g + 1) (by omega) (by omega)]; exact HWP.out
      · rw [h1 _ (by omega) (by omega), HWO.out _ (by omega), hb2.block _ (by omega)]; exact HQ1.out
      · rw [h1 _ (by omega) (by omega), HWO.out _ (by omega), hb2.block _ (by omega)]; exact HQ2.out)
    have d0b : ((w2.alloc (.cells Z 86)).alloc (.cells #[.slice (some ⟨w2.heap.size, 0, none⟩) n n] 72)).cell? ⟨w.heap.size, 0, none⟩ = some (.slice so n sc) := cell_al (cell_al d0)
    have HG0 := hid hg
    have HW0 := hid hW0
    clear hG hgd hWg hWo HB2 hZ hs0' hg hW0 hWP hgp1
    go_wp2_with fail
    rw [← HG0.out, ← HW0.out]
    clear HG0 HW0 d0b d0 M1
    go_loopw [23] (fun y wr => ∃ i : Nat, y = .int .i64 i ∧ i ≤ n ∧ Hid (∃ R, Gro wr g (.slice (some ⟨g, 0, none⟩) n n) n (rvK L i) R ∧ Gst W0 wr (.slice (some ⟨g, 0, none⟩) n n) (List.replicate (n * 2) (.slice none 0 0)) R)) (fun y _ => n - (intOf y).toNat)
    case atStart => exact ⟨0, rfl, Nat.zero_le _, ⟨_, HGR.out, Gst.refl _ _ _⟩⟩
    case round =>
      clear HGR
      obtain ⟨i, rfl, hi, HI⟩ := hrel
      obtain ⟨R, hGr, hSt⟩ := HI.out
      clear HI
      have HG := hid hGr
      have HST := hid hSt
      obtain ⟨bw, hP, hn1, hz1, hno, hsz⟩ := HKP.out _ _ hSt
      clear hGr hSt
      by_cases hlt : i < n
      · have i3 : (i : Int) < (n : Int) := by omega
        have i0 : (0 : Int) ≤ (i : Int) := by omega
        have hiL : i < L.length := by have := HN.out; omega
        obtain ⟨E, F, hEF⟩ : ∃ E F, L[i]? = some (E, F) := ⟨L[i].1, _, List.getElem?_eq_getElem hiL⟩
        obtain ⟨a, ea, hab, eo, ec, fo, fc, f0w, f1w, hE, hF, _, _⟩ := HS.out i (E, F) hEF
        dsimp only at f0w f1w hE hF
        subst ea
        have f0 := (bw.cell (p := a.add (i * 2)) (by rw [add_blk]; exact hab)).trans f0w
        have f1 := (bw.cell (p := ⟨(a.add (i * 2)).block, (a.add (i * 2)).off + 1, none⟩) (show (a.add (i * 2)).block < _ by rw [add_blk]; exact hab)).trans f1w
        obtain ⟨en, hen⟩ : ∃ en, en = E.length := ⟨_, rfl⟩
        obtain ⟨fn, hfn⟩ : ∃ fn, fn = F.length := ⟨_, rfl⟩
        rw [← hen] at f0
        rw [← hfn] at f1
        have HEN := hid hen
        have HFN := hid hfn
        have HER := hid hE
        have HFR := hid hF
        have HEF := hid hEF
        have hle1 : en ≤ 1000000 := by
          have h1 := eS_in (List.mem_of_getElem? hEF)
          have h2 := HES.out
          dsimp only at h1
          omega
        have hle2 : fn ≤ 1000000 := by
          have h1 := fS_in (List.mem_of_getElem? hEF)
          have h2 := HFS.out
          dsimp only at h1
          omega
        obtain ⟨w5, hw5⟩ : ∃ w5, w5 = wr.alloc (.cells #[.slice eo en ec, .slice fo fn fc] 86) := ⟨_, rfl⟩
        obtain ⟨p5, hp5⟩ : ∃ p5, p5 = wr.heap.size := ⟨_, rfl⟩
        have hb5 : Below wr.heap.size wr w5 := by rw [hw5]; exact (Below.refl _ _).alloc (Nat.le_refl _) _
        have HG5 := hid (HG.out.keep hb5)
        have HST5 := hid (HST.out.trans (Gst.below hb5 _ _))
        have HP5 := hid (show ∀ (W : World) (R2 : List Value), Gst w5 W (.slice (some ⟨g, 0, none⟩) n n) R R2 → W.heap[p5]? = some (.cells #[.slice eo en ec, .slice fo fn fc] 86) from fun W R2 h => by
          rw [h.block p5 (by rw [hw5, hp5]; simp) (fun e => by have e' : g = p5 := Option.some.inj e; omega) (fun v hv e => by have := (HG.out.lts.2 v hv p5 e).2; omega), hw5]
          exact al_new _ _ hp5)
        have HW5 := hid hw5
        have HPP := hid hp5
        clear hen hfn hE hF f0w f1w hEF hab hiL hw5 hp5 hb5 hP hn1 hz1 hno HG HST
        go_wp2
        rw [← HPP.out, ← HW5.out]
        clear HPP HW5 f0 f1 hsz bw
        go_loopw [31] (fun y wr => ∃ k : Nat, y = .int .i64 k ∧ k ≤ en ∧ Hid (∃ R', Gro wr g (.slice (some ⟨g, 0, none⟩) n n) n (rvE i (rvK L i) (E.take k)) R' ∧ Gst w5 wr (.slice (some ⟨g, 0, none⟩) n n) R R')) (fun y _ => en - (intOf y).toNat)
        case atStart => exact ⟨0, rfl, Nat.zero_le _, ⟨R, HG5.out, Gst.refl _ _ _⟩⟩
        case round =>
          clear HG5
          obtain ⟨k, rfl, hk, HI⟩ := hrel
          obtain ⟨R1, hGr, hSt⟩ := HI.out
          clear HI
          have HG := hid hGr
          have HST := hid hSt
          obtain ⟨bw, hP, hn1, hz1, hno, hsz⟩ := HKP.out _ _ (HST5.out.trans hSt)
          by_cases hkl : k < en
          · have k3 : (k : Int) < (en : Int) := by omega
            have k0 : (0 : Int) ≤ (k : Int) := by omega
            have hkE : k < E.length := by have := HEN.out; omega
            obtain ⟨C, t, hCt⟩ : ∃ C t, E[k]? = some (C, t) := ⟨E[k].1, _, List.getElem?_eq_getElem hkE⟩
            obtain ⟨d, ed, hdb, co, cc, u0w, u1w, hC, _⟩ := HER.out k (C, t) hCt
            subst ed
            have htb := HGD.out.ge (u := i) (C := C) (t := t) ⟨_, HEF.out, List.mem_of_getElem? hCt⟩
            obtain ⟨tn, rfl⟩ : ∃ tn : Nat, t = (tn : Int) := ⟨t.toNat, by omega⟩
            dsimp only at u0w u1w hC
            have u0 := (bw.cell (p := d.add (k * 2)) (by rw [add_blk]; exact hdb)).trans u0w
            have u1 := (bw.cell (p := ⟨(d.add (k * 2)).block, (d.add (k * 2)).off + 1, none⟩) (show (d.add (k * 2)).block < _ by rw [add_blk]; exact hdb)).trans u1w
            have hcl : C.length ≤ 64 := HGD.out.lens _ (List.mem_of_getElem? HEF.out) _ (List.mem_of_getElem? hCt)
            obtain ⟨cn, hcn⟩ : ∃ cn, cn = C.length := ⟨_, rfl⟩
            rw [← hcn] at u0 hcl
            obtain ⟨E', F', hM⟩ : ∃ E' F', (rvE i (rvK L i) (E.take k))[tn]? = some (E', F') := ⟨_, _, List.getElem?_eq_getElem (by rw [rvE_len, rvK_len]; omega)⟩
            have hE' : E'.length ≤ 1000000 := by
              have h1 := (rv_small HGD.out (k := k) (m := 0) HEF.out).1
              have h2 := eS_in (List.mem_of_getElem? hM)
              have h3 := HES.out
              rw [List.take_zero] at h1
              have h4 : eS (rvE i (rvK L i) (E.take k)) ≤ eS L := h1
              dsimp only at h2
              omega
            obtain ⟨w6, hw6⟩ : ∃ w6, w6 = wr.alloc (.cells #[.slice co cn cc, .int .i64 (tn : Int)] 88) := ⟨_, rfl⟩
            have hb6 : Below wr.heap.size wr w6 := by rw [hw6]; exact (Below.refl _ _).alloc (Nat.le_refl _) _
            have HED := hid (edge_any g (g + 1) n tn g n _ R1 E' F' (i : Int) co cn cc C w6 (by rw [hb6.block _ (lt_of hP)]; exact hP) (HG.out.keep hb6) hno hM hE' (by have := hb6.size; omega) (hC.below (bw.trans (hb6.mono bw.size))) hcn (by omega))
            have HB6 := hid hb6
            have HW6 := hid hw6
            have HCT := hid hCt
            clear hw6 hb6 hM hE' hcn hcl hCt hC hdb hkE u0w u1w htb bw hP hn1 hz1 hno hsz hGr hSt
            go_wp2_with fail
            rw [← HW6.out]
            clear HW6 u0 u1
            refine HED.out.mono ?_
            rintro e w7 ⟨rfl, R2, hGr, hSt⟩
            have HG2 := hid hGr
            have HST2 := hid (HST.out.trans ((Gst.below HB6.out _ _).trans hSt))
            clear hGr hSt HED HB6 HST HG
            go_wp2
            go_roundw
            case rel => exact ⟨k + 1, by go_num, by omega, ⟨R2, by rw [rvE_take HCT.out]; exact HG2.out, HST2.out⟩⟩
            case measure => simp [intOf]; omega
          · have k3 : ¬ (k : Int) < (en : Int) := by omega
            have HT := hid (show E.take k = E from List.take_of_length_le (by have := HEN.out; omega))
            rw [HT.out] at HG
            have hp5 := HP5.out _ _ HST.out
            have y1 : wr.cell? ⟨p5, 1, none⟩ = some (.slice fo fn fc) := by rw [cell_of_row wr p5 1 _ 86 (0, 0) hp5]; rfl
            clear HT hp5 bw hP hn1 hz1 hno hsz hGr hSt
            go_wp2
            clear y1
            go_loopw [46] (fun y wr => ∃ k : Nat, y = .int .i64 k ∧ k ≤ fn ∧ Hid (∃ R', Gro wr g (.slice (some ⟨g, 0, none⟩) n n) n (rvF i (rvE i (rvK L i) E) (F.take k)) R' ∧ Gst w5 wr (.slice (some ⟨g, 0, none⟩) n n) R R')) (fun y _ => fn - (intOf y).toNat)
            case atStart => exact ⟨0, rfl, Nat.zero_le _, ⟨R1, HG.out, HST.out⟩⟩
            case round =>
              clear HG HST
              obtain ⟨m, rfl, hm, HI⟩ := hrel
              obtain ⟨R2, hGr, hSt⟩ := HI.out
              clear HI
              have HG := hid hGr
              have HST := hid hSt
              obtain ⟨bw, hP, hn1, hz1, hno, hsz⟩ := HKP.out _ _ (HST5.out.trans hSt)
              by_cases hml : m < fn
              · have m3 : (m : Int) < (fn : Int) := by omega
                have m0 : (0 : Int) ≤ (m : Int) := by omega
                have hmF : m < F.length := by have := HFN.out; omega
                obtain ⟨t, hFt⟩ : ∃ t, F[m]? = some t := ⟨_, List.getElem?_eq_getElem hmF⟩
                obtain ⟨d, ed, hdb, u0w⟩ := HFR.out m t hFt
                subst ed
                have htb := HGD.out.gf (u := i) (t := t) ⟨_, HEF.out, List.mem_of_getElem? hFt⟩
                obtain ⟨tn, rfl⟩ : ∃ tn : Nat, t = (tn : Int) := ⟨t.toNat, by omega⟩
                have u0 := (bw.cell (p := d.add m) (by rw [add_blk]; exact hdb)).trans u0w
                obtain ⟨E', F', hM⟩ : ∃ E' F', (rvF i (rvE i (rvK L i) E) (F.take m))[tn]? = some (E', F') := ⟨_, _, List.getElem?_eq_getElem (by rw [rvF_len, rvE_len, rvK_len]; omega)⟩
                have hF' : F'.length ≤ 1000000 := by
                  have h1 := (rv_small HGD.out (k := E.length) (m := m) HEF.out).2
                  have h2 := fS_in (List.mem_of_getElem? hM)
                  have h3 := HFS.out
                  rw [List.take_of_length_le (Nat.le_refl _)] at h1
                  dsimp only at h2
                  omega
                have HFE := hid (free_any g (g + 1) n tn g n _ R2 E' F' (i : Int) wr hP HG.out hno hM hF' (by omega))
                have HCT := hid hFt
                clear hM hF' hFt hdb hmF u0w htb bw hP hn1 hz1 hno hsz hGr hSt
                go_wp2_with fail
                clear u0
                refine HFE.out.mono ?_
                rintro e w7 ⟨rfl, R3, hGr, hSt⟩
                have HG2 := hid hGr
                have HST2 := hid (HST.out.trans hSt)
                clear hGr hSt HFE HST HG
                go_wp2
                go_roundw
                case rel => exact ⟨m + 1, by go_num, by omega, ⟨R3, by rw [rvF_take HCT.out]; exact HG2.out, HST2.out⟩⟩
                case measure => simp [intOf]; omega
              · have m3 : ¬ (m : Int) < (fn : Int) := by omega
                have HT := hid (show F.take m = F from List.take_of_length_le (by have := HFN.out; omega))
                rw [HT.out] at HG
                have HG2 := hid (show Gro wr g (.slice (some ⟨g, 0, none⟩) n n) n (rvK L (i + 1)) R2 by rw [rvK_next HEF.out]; exact HG.out)
                have HST2 := hid (HST5.out.trans HST.out)
                clear HT HG HST bw hP hn1 hz1 hno hsz hGr hSt
                go_wp2
                go_roundw
                case rel => exact ⟨i + 1, by go_num, by omega, ⟨R2, HG2.out, HST2.out⟩⟩
                case measure => simp [intOf]; omega
      · have i3 : ¬ (i : Int) < (n : Int) := by omega
        have hin : i = n := by omega
        subst hin
        have r0 : wr.cell? ⟨g + 1, 0, none⟩ = some (.slice (some ⟨g, 0, none⟩) i i) := by rw [cell_of_row wr (g + 1) 0 _ 72 (0, 0) hP]; rfl
        have c1 : wr.cell? ⟨w.heap.size, 1, none⟩ = some (.int .i64 s) := by rw [cell_of_row wr w.heap.size 1 _ 28 (0, 0) hn1]; rfl
        have c2 : wr.cell? ⟨w.heap.size, 2, none⟩ = some (.int .i64 f) := by rw [cell_of_row wr w.heap.size 2 _ 28 (0, 0) hn1]; rfl
        have z0 := frozen_of_row wr (w.heap.size + 1) 0 _ 28 hz1
        have z1 := frozen_of_row wr (w.heap.size + 1) 1 _ 28 hz1
        have z2 := frozen_of_row wr (w.heap.size + 1) 2 _ 28 hz1
        have y0 : wr.cell? ⟨w.heap.size + 1, 0, none⟩ = some (.slice none 0 0) := by rw [cell_of_row wr (w.heap.size + 1) 0 _ 28 (0, 0) hz1]; rfl
        have y1 : wr.cell? ⟨w.heap.size + 1, 1, none⟩ = some (.int .i64 0) := by rw [cell_of_row wr (w.heap.size + 1) 1 _ 28 (0, 0) hz1]; rfl
        have y2 : wr.cell? ⟨w.heap.size + 1, 2, none⟩ = some (.int .i64 0) := by rw [cell_of_row wr (w.heap.size + 1) 2 _ 28 (0, 0) hz1]; rfl
        have HR := hid hz1
        have HBW := hid bw
        have hgg : w.heap.size + 2 ≤ g := HGP.out
        clear hz1 bw hP hn1 hno
        go_wp2_with fail
        refine wp_region_mix [(0, true), (1, true), (2, true), (3, true), (4, true), (5, true), (6, true), (7, true), (8, true), (9, false)] (fun w' => w'.cell? ⟨g + 1, 0, none⟩ = some (.slice (some ⟨g, 0, none⟩) i i) ∧ w'.cell? ⟨w.heap.size, 1, none⟩ = some (.int .i64 s) ∧ w'.cell? ⟨w.heap.size, 2, none⟩ = some (.int .i64 f)) (fun j => j == 9) (by kernel_rfl) (by kernel_rfl) (fun j hj => by have := beq_iff_eq.1 hj; subst this; decide) rfl (by kernel_rfl) ⟨r0, c1, c2⟩ ?_
        iterate 9 (refine mix_free ?_ rfl (by kernel_rfl) (fun w' hS => ?_) ?_; (rotate_left; (obtain ⟨s1, s2, s3⟩ := hS; go_simp; with_reducible rfl); rotate_left))
        refine mix_go rfl (by kernel_rfl) fun KK hKK => ?_
        go_simp
        refine hKK _ _ (fun h => by cases h) ?_
        clear hKK KK
        refine mix_end (NoPanic.normal ?_)
        go_wp2
        (try simp only [Exit.inBlock, Exit.then])
        have e1 := heap_setCell_same wr (w.heap.size + 1) 0 _ 28 (.slice (some ⟨g, 0, none⟩) i i) HR.out
        have e2 := heap_setCell_same _ (w.heap.size + 1) 1 _ 28 (.int .i64 f) e1
        have e3 := heap_setCell_same _ (w.heap.size + 1) 2 _ 28 (.int .i64 s) e2
        refine bodyPost_ret (results_cell_row rfl _ _ (w.heap.size + 1) 28 #[.slice (some ⟨g, 0, none⟩) i i, .int .i64 f, .int .i64 s] (0, 0) _ rfl e3 Tryd.underlying28 rfl (by kernel_rfl)) rfl ?_
        have hoth : ∀ b, b ≠ w.heap.size + 1 → (((wr.setCell ⟨w.heap.size + 1, 0, none⟩ (.slice (some ⟨g, 0, none⟩) i i)).setCell ⟨w.heap.size + 1, 1, none⟩ (.int .i64 f)).setCell ⟨w.heap.size + 1, 2, none⟩ (.int .i64 s)).heap[b]? = wr.heap[b]? := fun b hb => by
          rw [heap_setCell_other _ ⟨w.heap.size + 1, 2, none⟩ b _ (fun e => hb e), heap_setCell_other _ ⟨w.heap.size + 1, 1, none⟩ b _ (fun e => hb e), heap_setCell_other _ ⟨w.heap.size + 1, 0, none⟩ b _ (fun e => hb e)]
        have hfin : Below w.heap.size w (((wr.setCell ⟨w.heap.size + 1, 0, none⟩ (.slice (some ⟨g, 0, none⟩) i i)).setCell ⟨w.heap.size + 1, 1, none⟩ (.int .i64 f)).setCell ⟨w.heap.size + 1, 2, none⟩ (.int .i64 s)) := HBW.out.trans ⟨rfl, rfl, rfl, by simp, fun b hb => hoth b (by omega)⟩
        have hrv : rvK L i = rv L := by rw [HN.out]; rfl
        refine ⟨g, _, _, _, rv L, R, f, s, rfl, ⟨fun _ => ⟨rfl, rfl, rfl⟩, fun h => by rw [HGB.out] at h; cases h⟩, by omega, (by have h : g ≤ wr.heap.size := (by omega); simpa using h), ?_, hfin.drew⟩
        rw [← hrv]
        exact HG.out.keep2 (by simp) fun k hk _ => hoth k (by omega)
  · rw [hG]
    have hz1 : w2.heap[w.heap.size + 1]? = some (.cells #[.slice none 0 0, .int .i64 0, .int .i64 0] 28) := by rw [HB2.out.block _ (by have := HSZ1.out; omega)]; exact HQ2.out
    have z0 := frozen_of_row w2 (w.heap.size + 1) 0 _ 28 hz1
    have z1 := frozen_of_row w2 (w.heap.size + 1) 1 _ 28 hz1
    have z2 := frozen_of_row w2 (w.heap.size + 1) 2 _ 28 hz1
    have y0 : w2.cell? ⟨w.heap.size + 1, 0, none⟩ = some (.slice none 0 0) := by rw [cell_of_row w2 (w.heap.size + 1) 0 _ 28 (0, 0) hz1]; rfl
    have y1 : w2.cell? ⟨w.heap.size + 1, 1, none⟩ = some (.int .i64 0) := by rw [cell_of_row w2 (w.heap.size + 1) 1 _ 28 (0, 0) hz1]; rfl
    have y2 : w2.cell? ⟨w.heap.size + 1, 2, none⟩ = some (.int .i64 0) := by rw [cell_of_row w2 (w.heap.size + 1) 2 _ 28 (0, 0) hz1]; rfl
    have HR := hid hz1
    have HGB := hid hG
    have HBW := hid (HB1.out.trans (HB2.out.mono HB1.out.size))
    clear hz1 hG d0
    go_wp2
    (try simp only [Exit.inBlock, Exit.then])
    have e1 := heap_setCell_same w2 (w.heap.size + 1) 0 _ 28 (.slice none 0 0) HR.out
    have e2 := heap_setCell_same _ (w.heap.size + 1) 1 _ 28 (.int .i64 0) e1
    have e3 := heap_setCell_same _ (w.heap.size + 1) 2 _ 28 (.int .i64 0) e2
    refine bodyPost_ret (results_cell_row rfl _ _ (w.heap.size + 1) 28 #[.slice none 0 0, .int .i64 0, .int .i64 0] (0, 0) _ rfl e3 Tryd.underlying28 rfl (by kernel_rfl)) rfl ?_
    have hfin : Below w.heap.size w (((w2.setCell ⟨w.heap.size + 1, 0, none⟩ (.slice none 0 0)).setCell ⟨w.heap.size + 1, 1, none⟩ (.int .i64 0)).setCell ⟨w.heap.size + 1, 2, none⟩ (.int .i64 0)) := HBW.out.trans ⟨rfl, rfl, rfl, by simp, fun b hb => by
      rw [heap_setCell_other _ ⟨w.heap.size + 1, 2, none⟩ b _ (fun e => by have e' : b = w.heap.size + 1 := e; omega), heap_setCell_other _ ⟨w.heap.size + 1, 1, none⟩ b _ (fun e => by have e' : b = w.heap.size + 1 := e; omega), heap_setCell_other _ ⟨w.heap.size + 1, 0, none⟩ b _ (fun e => by have e' : b = w.heap.size + 1 := e; omega)]⟩
    exact ⟨w.heap.size, none, 0, 0, [], [], 0, 0, rfl, ⟨fun h => (by rw [HGB.out] at h; cases h), fun _ => ⟨rfl, rfl, rfl⟩⟩, Nat.le_refl _, hfin.size, Gro.nil _ _, hfin⟩
end Go.Proofs.YteacehfihogmpaaDoor
/- The contract of spoil (the laws'): an automaton's rows are written over. -/
namespace Go.Proofs.YteacehfihogmpaaDoor
open Go.RowKit

/-- Rows that may be written over. -/
def SpI (w : World) (B : Nat) (v : Value) (n : Nat) : Prop := n ≤ 1000000 ∧ (n = 0 ∨ ∃ xs, w.ownsRow B 3 1 v n xs)
def SpE (w : World) (B : Nat) (v : Value) (n : Nat) : Prop := n ≤ 1000000 ∧ ∃ RE, w.ownsRow B 88 2 v n RE ∧ ∀ k, k < n → ∃ (co : Option Addr) (cn cc : Nat) (u : Value), RE[k * 2]? = some (.slice co cn cc) ∧ RE[k * 2 + 1]? = some u ∧ SpI w B (.slice co cn cc) cn
def SpS (w : World) (B : Nat) (V : Value) (n : Nat) (R : List Value) : Prop := w.ownsRow B 86 2 V n R ∧ ∀ t, t < n → ∃ (eo : Option Addr) (en ec : Nat) (fo : Option Addr) (fn fc : Nat), R[t * 2]? = some (.slice eo en ec) ∧ R[t * 2 + 1]? = some (.slice fo fn fc) ∧ SpE w B (.slice eo en ec) en ∧ SpI w B (.slice fo fn fc) fn
/-- All blocks stay but those of some types. -/
structure Kty (T : Nat → Bool) (w w' : World) : Prop where
  size : w'.heap.size = w.heap.size
  block : ∀ b : Nat, (∀ (c : Array Value) (e : Nat), w.heap[b]? = some (Obj.cells c e) → T e = false) → w'.heap[b]? = w.heap[b]?
section
variable {w w' w'' : World} {B n : Nat} {v V : Value} {R : List Value} {T : Nat → Bool}
theorem Kty.refl (T : Nat → Bool) (w : World) : Kty T w w := ⟨rfl, fun _ _ => rfl⟩
theorem Kty.trans (h : Kty T w w') (h' : Kty T w' w'') : Kty T w w'' := ⟨h'.size.trans h.size, fun b hb => (h'.block b (fun c e hc => hb c e (by rw [← h.block b hb]; exact hc))).trans (h.block b hb)⟩
theorem Kty.set {g j e : Nat} {c : Array Value} {u : Value} (hg : w.heap[g]? = some (.cells c e)) (hT : T e = true) : Kty T w (w.setCell ⟨g, j, none⟩ u) := ⟨by simp, fun b hb => heap_setCell_other w ⟨g, j, none⟩ b u (fun eb => by
  have h : T e = false := hb c e (by rw [eb]; exact hg)
  rw [hT] at h; cases h)⟩
theorem Kty.row (h : Kty T w w') {b e : Nat} {c : Array Value} (hb : w.heap[b]? = some (.cells c e)) (hT : T e = false) : w'.heap[b]? = some (.cells c e) := (h.block b (fun c' e' hc => by rw [hb] at hc; cases hc; exact hT)).trans hb
theorem Kty.mono {T' : Nat → Bool} (h : Kty T w w') (hT : ∀ e, T e = true → T' e = true) : Kty T' w w' := ⟨h.size, fun b hb => h.block b fun c e hc => by
  have h1 := hb c e hc
  rcases bool_cases (T e) with h2 | h2
  · rw [hT e h2] at h1; cases h1
  · exact h2⟩
theorem own_sets {e sz m : Nat} {xs : List Value} (h : w.ownsRow B e sz v m xs) (g j : Nat) (u : Value) : ∃ xs', (w.setCell ⟨g, j, none⟩ u).ownsRow B e sz v m xs' ∧ ∀ i, i ≠ j → xs'[i]? = xs[i]? := by
  by_cases hv : v.ownBlock = some g
  · obtain ⟨cap, rfl⟩ : ∃ cap, v = .slice (some ⟨g, 0, none⟩) m cap := by
      rcases h.2 with ⟨rfl, _⟩ | ⟨g', cap, cur, rfl, _⟩
      · cases hv
      · have e : g' = g := Option.some.inj hv
        subst e
        exact ⟨cap, rfl⟩
    exact ⟨_, (h.stored j u).1, fun i hi => by rw [List.getElem?_set, if_neg (Ne.symm hi)]⟩
  · exact ⟨xs, own_same h fun k hk _ => heap_setCell_other w ⟨g, j, none⟩ k u (fun e => hv (by rw [hk, e])), fun _ _ => rfl⟩
theorem own_other {e e' sz m g j : Nat} {xs : List Value} {c : Array Value} {u : Value} (h : w.ownsRow B e sz v m xs) (hg : w.heap[g]? = some (.cells c e')) (hne : e ≠ e') : (w.setCell ⟨g, j, none⟩ u).ownsRow B e sz v m xs :=
  own_same h fun k hk _ => heap_setCell_other w ⟨g, j, none⟩ k u (fun ek => by
    obtain ⟨c', hc⟩ := own_type h hk
    have hc' : w.heap[g]? = some (.cells c' e) := by rw [show g = k from ek.symm]; exact hc
    rw [hg] at hc'
    cases hc'
    exact hne rfl)
theorem SpI.set (h : SpI w B v n) (g j : Nat) (u : Value) : SpI (w.setCell ⟨g, j, none⟩ u) B v n := ⟨h.1, by
  rcases h.2 with h0 | ⟨xs, h0⟩
  · exact .inl h0
  · obtain ⟨xs', h1, _⟩ := own_sets h0 g j u
    exact .inr ⟨xs', h1⟩⟩
theorem SpE.set3 (h : SpE w B v n) {g j : Nat} {c : Array Value} (hg : w.heap[g]? = some (.cells c 3)) (u : Value) : SpE (w.setCell ⟨g, j, none⟩ u) B v n := by
  obtain ⟨h0, RE, h1, h2⟩ := h
  refine ⟨h0, RE, own_other h1 hg (by decide), fun k hk => ?_⟩
  obtain ⟨co, cn, cc, x, e1, e2, e3⟩ := h2 k hk
  exact ⟨co, cn, cc, x, e1, e2, e3.set g j u⟩
theorem SpE.set88 (h : SpE w B v n) (g i : Nat) (u : Value) : SpE (w.setCell ⟨g, i * 2 + 1, none⟩ u) B v n := by
  obtain ⟨h0, RE, h1, h2⟩ := h
  obtain ⟨RE', h3, h4⟩ := own_sets h1 g (i * 2 + 1) u
  refine ⟨h0, RE', h3, fun k hk => ?_⟩
  obtain ⟨co, cn, cc, x, e1, e2, e3⟩ := h2 k hk
  have hl : RE'.length = n * 2 := h3.1
  exact ⟨co, cn, cc, _, by rw [h4 (k * 2) (by omega)]; exact e1, List.getElem?_eq_getElem (by omega), e3.set g _ u⟩
theorem SpS.set3 (h : SpS w B V n R) {g j : Nat} {c : Array Value} (hg : w.heap[g]? = some (.cells c 3)) (u : Value) : SpS (w.setCell ⟨g, j, none⟩ u) B V n R := by
  refine ⟨own_other h.1 hg (by decide), fun t ht => ?_⟩
  obtain ⟨eo, en, ec, fo, fn, fc, e1, e2, e3, e4⟩ := h.2 t ht
  exact ⟨eo, en, ec, fo, fn, fc, e1, e2, e3.set3 hg u, e4.set g j u⟩
theorem SpS.set88 (h : SpS w B V n R) {g i : Nat} {c : Array Value} (hg : w.heap[g]? = some (.cells c 88)) (u : Value) : SpS (w.setCell ⟨g, i * 2 + 1, none⟩ u) B V n R := by
  refine ⟨own_other h.1 hg (by decide), fun t ht => ?_⟩
  obtain ⟨eo, en, ec, fo, fn, fc, e1, e2, e3, e4⟩ := h.2 t ht
  exact ⟨eo, en, ec, fo, fn, fc, e1, e2, e3.set88 g i u, e4.set g _ u⟩
theorem SpI.keep (h : SpI w B v n) (hb : ∀ k, k < w.heap.size → w'.heap[k]? = w.heap[k]?) : SpI w' B v n := ⟨h.1, by
  rcases h.2 with h0 | ⟨xs, h0⟩
  · exact .inl h0
  · exact .inr ⟨xs, own_same h0 fun k _ hk => hb k hk⟩⟩
theorem SpS.keep (h : SpS w B V n R) (hb : ∀ k, k < w.heap.size → w'.heap[k]? = w.heap[k]?) : SpS w' B V n R := by
  refine ⟨own_same h.1 fun k _ hk => hb k hk, fun t ht => ?_⟩
  obtain ⟨eo, en, ec, fo, fn, fc, e1, e2, ⟨h0, RE, h1, h2⟩, e4⟩ := h.2 t ht
  refine ⟨eo, en, ec, fo, fn, fc, e1, e2, ⟨h0, RE, own_same h1 fun k _ hk => hb k hk, fun k hk => ?_⟩, e4.keep hb⟩
  obtain ⟨co, cn, cc, x, d1, d2, d3⟩ := h2 k hk
  exact ⟨co, cn, cc, x, d1, d2, d3.keep hb⟩
theorem Gro.spoils {M : List St} (h : Gro w B V n M R) (hb : ∀ s ∈ M, s.1.length ≤ 1000000 ∧ s.2.length ≤ 1000000 ∧ ∀ e ∈ s.1, e.1.length ≤ 1000000) : SpS w B V n R := by
  refine ⟨h.row, fun t ht => ?_⟩
  obtain ⟨s, hs⟩ : ∃ s, M[t]? = some s := ⟨_, List.getElem?_eq_getElem (by have := h.len; omega)⟩
  obtain ⟨b1, b2, b3⟩ := hb s (List.mem_of_getElem? hs)
  obtain ⟨u, hu, RE, ho, hG⟩ := h.slE t s hs
  obtain ⟨x, hx, hF⟩ := h.slF t s hs
  have hsl : ∀ {e sz m : Nat} {x : Value} {xs : List Value}, w.ownsRow B e sz x m xs → ∃ xo xc, x = .slice xo m xc := fun hx => by
    rcases hx.2 with ⟨rfl, rfl⟩ | ⟨g, cap, cur, rfl, _⟩
    · exact ⟨none, 0, rfl⟩
    · exact ⟨_, _, rfl⟩
  obtain ⟨eo, ec, rfl⟩ := hsl ho
  obtain ⟨fo, fc, rfl⟩ := hsl hF
  refine ⟨eo, _, ec, fo, _, fc, hu, hx, ⟨b1, RE, ho, fun k hk => ?_⟩, ⟨b2, .inr ⟨_, hF⟩⟩⟩
  obtain ⟨co, cc, h1, h2, h3, _⟩ := hG k _ (List.getElem?_eq_getElem hk)
  refine ⟨co, _, cc, _, h1, h2, b3 _ (List.getElem_mem hk), ?_⟩
  rcases h3 with h3 | h3
  · exact .inl (by rw [h3]; rfl)
  · exact .inr ⟨_, h3⟩
theorem SpI.form {co : Option Addr} {cn cc j : Nat} (h : SpI w B (.slice co cn cc) cn) (hj : j < cn) : ∃ (q : Nat) (c : Array Value) (u : Value), co = some ⟨q, 0, none⟩ ∧ B ≤ q ∧ w.heap[q]? = some (.cells c 3) ∧ w.cell? ⟨q, j, none⟩ = some u ∧ w.frozen? ⟨q, j, none⟩ = false := by
  rcases h.2 with h0 | ⟨xs, h0⟩
  · omega
  · rcases h0.2 with ⟨e, _⟩ | ⟨q, cap, cur, e, hb, hg, _⟩
    · cases e; omega
    · cases e
      have hl : xs.length = cn * 1 := h0.1
      exact ⟨q, cur, xs[j], rfl, hb, hg, by rw [h0.cellAt j (by omega)]; exact List.getElem?_eq_getElem (by omega), h0.frozenAt j⟩
theorem SpE.form {co : Option Addr} {cn cc k : Nat} (h : SpE w B (.slice co cn cc) cn) (hk : k < cn) : ∃ (q : Nat) (c : Array Value) (eo : Option Addr) (en ec : Nat) (u : Value), co = some ⟨q, 0, none⟩ ∧ B ≤ q ∧ w.heap[q]? = some (.cells c 88) ∧ w.cell? ⟨q, k * 2, none⟩ = some (.slice eo en ec) ∧ w.cell? ⟨q, k * 2 + 1, none⟩ = some u ∧ w.frozen? ⟨q, k * 2 + 1, none⟩ = false ∧ SpI w B (.slice eo en ec) en := by
  obtain ⟨_, RE, h0, h2⟩ := h
  obtain ⟨eo, en, ec, u, e1, e2, e3⟩ := h2 k hk
  rcases h0.2 with ⟨e, _⟩ | ⟨q, cap, cur, e, hb, hg, _⟩
  · cases e; omega
  · cases e
    exact ⟨q, cur, eo, en, ec, u, rfl, hb, hg, by rw [h0.cellAt (k * 2) (by omega)]; exact e1, by rw [h0.cellAt (k * 2 + 1) (by omega)]; exact e2, h0.frozenAt _, e3⟩
end
theorem set_below {w0 w : World} {B g j : Nat} {u : Value} (h : Below B w0 w) (hg : B ≤ g) : Below B w0 (w.setCell ⟨g, j, none⟩ u) := h.trans ⟨rfl, rfl, rfl, by simp, fun k hk => heap_setCell_other w ⟨g, j, none⟩ k u (fun e => by have e' : k = g := e; omega)⟩
set_option maxHeartbeats 16000000 in
set_option maxRecDepth 100000 in
theorem spoil_any (B : Nat) (so : Option Addr) (sc n : Nat) (s f : Int) (R : List Value) (w : World) (h : SpS w B (.slice so n sc) n R) (hn : n ≤ 1000000) (hB : B ≤ w.heap.size) :
    Calls Tryd.prog 16 #[.agg #[.slice so n sc, .int .i64 s, .int .i64 f]] w fun e w' => e = .returned (.tuple #[]) ∧ Below B w w' := by
  have HSP := hid (h.keep (w' := w.alloc (.cells #[.slice so n sc, .int .i64 s, .int .i64 f] 28)) fun k hk => al_old _ _ hk)
  have HB0 := hid ((Below.refl B w).alloc hB (.cells #[.slice so n sc, .int .i64 s, .int .i64 f] 28))
  have HP1 := hid (al_new w (.cells #[.slice so n sc, .int .i64 s, .int .i64 f] 28) rfl)
  clear h
  go_enter Tryd.func16, Tryd.ntmps16
  go_wp2
  go_loopw [2] (fun y wr => ∃ i : Nat, y = .int .i64 i ∧ i ≤ n ∧ Hid (SpS wr B (.slice so n sc) n R) ∧ Hid (Below B w wr) ∧ Hid (wr.heap[w.heap.size]? = some (.cells #[.slice so n sc, .int .i64 s, .int .i64 f] 28))) (fun y _ => n - (intOf y).toNat)
  case atStart => exact ⟨0, rfl, Nat.zero_le _, HSP, HB0, HP1⟩
  case round =>
    clear HSP HB0 HP1
    obtain ⟨i, rfl, hi, HSP, HBW, HP1⟩ := hrel
    have c0 : wr.cell? ⟨w.heap.size, 0, none⟩ = some (.slice so n sc) := by rw [cell_of_row wr w.heap.size 0 _ 28 (0, 0) HP1.out]; rfl
    by_cases hlt : i < n
    · have i3 : (i : Int) < (n : Int) := by omega
      have i0 : (0 : Int) ≤ (i : Int) := by omega
      obtain ⟨eo, en, ec, fo, fn, fc, r0, r1, hE, hF⟩ := HSP.out.2 i hlt
      obtain ⟨g, eg, hgB, hgs, x0, x1⟩ := own2_form HSP.out.1 r0 r1
      subst eg
      have hen : en ≤ 1000000 := hE.1
      have hfn : fn ≤ 1000000 := hF.1
      have HR0 := hid r0
      have HR1 := hid r1
      obtain ⟨p3, hp3⟩ : ∃ p3, p3 = wr.heap.size := ⟨_, rfl⟩
      obtain ⟨w3, hw3⟩ : ∃ w3, w3 = wr.alloc (.cells #[.slice eo en ec, .slice fo fn fc] 86) := ⟨_, rfl⟩
      have HSP3 := hid (HSP.out.keep (w' := w3) fun k hk => by rw [hw3]; exact al_old _ _ hk)
      have HB3 := hid (show Below B w w3 by rw [hw3]; exact HBW.out.alloc (by have := HBW.out.size; omega) _)
      have HP13 := hid (show w3.heap[w.heap.size]? = some (.cells #[.slice (some ⟨g, 0, none⟩) n sc, .int .i64 s, .int .i64 f] 28) by rw [hw3, al_old _ _ (lt_of HP1.out)]; exact HP1.out)
      have HP33 := hid (show w3.heap[p3]? = some (.cells #[.slice eo en ec, .slice fo fn fc] 86) by rw [hw3]; exact al_new _ _ hp3)
      clear hE hF r0 r1 hgB hgs
      go_wp2
      rw [← hw3, ← hp3]
      clear hw3 hp3 c0 x0 x1 HSP HBW HP1
      go_loopw [4] (fun y wr => ∃ k : Nat, y = .int .i64 k ∧ k ≤ en ∧ Hid (SpS wr B (.slice (some ⟨g, 0, none⟩) n sc) n R) ∧ Hid (Below B w wr) ∧ Hid (Kty (fun e => e == 3 || e == 88) w3 wr)) (fun y _ => en - (intOf y).toNat)
      case atStart => exact ⟨0, rfl, Nat.zero_le _, HSP3, HB3, Kty.refl _ _⟩
      case round =>
        clear HSP3 HB3
        obtain ⟨k, rfl, hk, HSP, HBW, HK⟩ := hrel
        have hp3 := HK.out.row HP33.out rfl
        have y0 : wr.cell? ⟨p3, 0, none⟩ = some (.slice eo en ec) := by rw [cell_of_row wr p3 0 _ 86 (0, 0) hp3]; rfl
        by_cases hke : k < en
        · have k3 : (k : Int) < (en : Int) := by omega
          have k0 : (0 : Int) ≤ (k : Int) := by omega
          obtain ⟨eo', en', ec', fo', fn', fc', r0, r1, hE, hF⟩ := HSP.out.2 i hlt
          rw [HR0.out] at r0
          cases r0
          obtain ⟨q, cq, co, cn, cc, u, eq, hqB, hq, z0, z1, z2, hI⟩ := hE.form hke
          subst eq
          have hcn : cn ≤ 1000000 := hI.1
          obtain ⟨w4, hw4⟩ : ∃ w4, w4 = wr := ⟨_, rfl⟩
          rw [← hw4] at HSP HBW HK y0 hq z0 hI hp3 ⊢
          have HQ := hid hq
          have HP3 := hid hp3
          have HIC := hid hI
          have HZ0 := hid z0
          clear z1 z2 hF hE r1 u hw4
          go_wp2
          go_loopw [5] (fun y wr => ∃ j : Nat, y = .int .i64 j ∧ j ≤ cn ∧ Hid (SpS wr B (.slice (some ⟨g, 0, none⟩) n sc) n R) ∧ Hid (Below B w wr) ∧ Hid (Kty (fun e => e == 3) w4 wr) ∧ Hid (SpI wr B (.slice co cn cc) cn)) (fun y _ => cn - (intOf y).toNat)
          case atStart => exact ⟨0, rfl, Nat.zero_le _, HSP, HBW, Kty.refl _ _, HIC⟩
          case round =>
            clear HSP HBW HIC y0 z0 hp3 hq hI
            obtain ⟨j, rfl, hj, HSP, HBW, HK4, HIC⟩ := hrel
            have hp3 := HK4.out.row HP3.out rfl
            have hq := HK4.out.row HQ.out rfl
            have y0 : wr.cell? ⟨p3, 0, none⟩ = some (.slice (some ⟨q, 0, none⟩) en ec) := by rw [cell_of_row wr p3 0 _ 86 (0, 0) hp3]; rfl
            have z0 : wr.cell? ⟨q, k * 2, none⟩ = some (.slice co cn cc) := (World.cell?_of_block (a := ⟨q, k * 2, none⟩) (show wr.heap[q]? = w4.heap[q]? from hq.trans HQ.out.symm)).trans HZ0.out
            by_cases hjc : j < cn
            · have j3 : (j : Int) < (cn : Int) := by omega
              have j0 : (0 : Int) ≤ (j : Int) := by omega
              obtain ⟨q2, c2, u2, eq2, hqB2, hq2, y1, y2⟩ := HIC.out.form hjc
              subst eq2
              have HA := hid (HSP.out.set3 (j := j) hq2 (.int .i64 (-7)))
              have HBb := hid (set_below (j := j) (u := .int .i64 (-7)) HBW.out hqB2)
              have HC := hid (HK4.out.trans (Kty.set (T := fun e => e == 3) (j := j) (u := .int .i64 (-7)) hq2 rfl))
              have HD := hid (HIC.out.set q2 j (.int .i64 (-7)))
              clear HSP HBW HK4 HIC hq2 hqB2 hp3 hq
              go_wp2
              go_roundw
              case rel => exact ⟨j + 1, by go_num, by omega, HA, HBb, HC, HD⟩
              case measure => simp [intOf]; omega
            · have j3 : ¬ (j : Int) < (cn : Int) := by omega
              obtain ⟨eo', en', ec', fo', fn', fc', r0, r1, hE, hF⟩ := HSP.out.2 i hlt
              rw [HR0.out] at r0
              cases r0
              obtain ⟨q', cq', co', cn', cc', u, eq', hqB', hq', zz, z1, z2, _⟩ := hE.form hke
              cases eq'
              have HA := hid (HSP.out.set88 (i := k) hq' (.int .i64 (-7)))
              have HBb := hid (set_below (j := k * 2 + 1) (u := .int .i64 (-7)) HBW.out hqB')
              have HC := hid (HK.out.trans ((HK4.out.mono (T' := fun e => e == 3 || e == 88) (fun e he => by simp at he ⊢; omega)).trans (Kty.set (T := fun e => e == 3 || e == 88) (j := k * 2 + 1) (u := .int .i64 (-7)) hq' rfl)))
              clear HSP HBW HK4 HIC hq' hqB' hp3 hq hE hF r1 zz hjc
              go_wp2
              go_roundw
              case rel => exact ⟨k + 1, by go_num, by omega, HA, HBb, HC⟩
              case measure => simp [intOf]; omega
        · have k3 : ¬ (k : Int) < (en : Int) := by omega
          obtain ⟨eo', en', ec', fo', fn', fc', r0, r1, hE, hF⟩ := HSP.out.2 i hlt
          rw [HR1.out] at r1
          cases r1
          obtain ⟨w4, hw4⟩ : ∃ w4, w4 = wr := ⟨_, rfl⟩
          rw [← hw4] at HSP HBW HK y0 hp3 hF ⊢
          have HP3 := hid hp3
          have HIC := hid hF
          have y1 : w4.cell? ⟨p3, 1, none⟩ = some (.slice fo fn fc) := by rw [cell_of_row w4 p3 1 _ 86 (0, 0) hp3]; rfl
          clear hw4 hE hF r0 hp3
          go_wp2
          go_loopw [6] (fun y wr => ∃ j : Nat, y = .int .i64 j ∧ j ≤ fn ∧ Hid (SpS wr B (.slice (some ⟨g, 0, none⟩) n sc) n R) ∧ Hid (Below B w wr) ∧ Hid (Kty (fun e => e == 3) w4 wr) ∧ Hid (SpI wr B (.slice fo fn fc) fn)) (fun y _ => fn - (intOf y).toNat)
          case atStart => exact ⟨0, rfl, Nat.zero_le _, HSP, HBW, Kty.refl _ _, HIC⟩
          case round =>
            clear HSP HBW HIC y0 y1
            obtain ⟨j, rfl, hj, HSP, HBW, HK4, HIC⟩ := hrel
            have hp3 := HK4.out.row HP3.out rfl
            have y1 : wr.cell? ⟨p3, 1, none⟩ = some (.slice fo fn fc) := by rw [cell_of_row wr p3 1 _ 86 (0, 0) hp3]; rfl
            by_cases hjc : j < fn
            · have j3 : (j : Int) < (fn : Int) := by omega
              have j0 : (0 : Int) ≤ (j : Int) := by omega
              obtain ⟨q2, c2, u2, eq2, hqB2, hq2, y3, y2⟩ := HIC.out.form hjc
              subst eq2
              have HA := hid (HSP.out.set3 (j := j) hq2 (.int .i64 (-7)))
              have HBb := hid (set_below (j := j) (u := .int .i64 (-7)) HBW.out hqB2)
              have HC := hid (HK4.out.trans (Kty.set (T := fun e => e == 3) (j := j) (u := .int .i64 (-7)) hq2 rfl))
              have HD := hid (HIC.out.set q2 j (.int .i64 (-7)))
              clear HSP HBW HK4 HIC hq2 hqB2 hp3
              go_wp2
              go_roundw
              case rel => exact ⟨j + 1, by go_num, by omega, HA, HBb, HC, HD⟩
              case measure => simp [intOf]; omega
            · have j3 : ¬ (j : Int) < (fn : Int) := by omega
              have HP := hid (show wr.heap[w.heap.size]? = some (.cells #[.slice (some ⟨g, 0, none⟩) n sc, .int .i64 s, .int .i64 f] 28) from HK4.out.row (HK.out.row HP13.out rfl) rfl)
              clear HK4 HIC hp3 hjc
              go_wp2
              go_roundw
              case rel => exact ⟨i + 1, by go_num, by omega, HSP, HBW, HP⟩
              case measure => simp [intOf]; omega
    · have i3 : ¬ (i : Int) < (n : Int) := by omega
      go_wp2
      go_end0
      exact ⟨rfl, HBW.out⟩
end Go.Proofs.YteacehfihogmpaaDoor
