import Derived.Test.YtkjnaamlhkldmabEvG
import Derived.Orders
import Derived.Recover
namespace Go.Proofs.Ytkjnaamlhkldmab
namespace Ev

/-- Where an abstract block lies: its block, where in it, the cells of that block, the cells of an element. -/
structure Loc where
  b : Nat
  d : Nat
  sz : Nat
  k : Nat
structure Mu where
  f : Nat → Option Loc
  glob : ∀ g s, gloc g = some s → f g = some ⟨g, 0, s.1, s.2⟩
instance : CoeFun Mu fun _ => Nat → Option Loc := ⟨Mu.f⟩
def unk : Nat := 18446744073709551616
def AR (μ : Mu) (a a' : Addr) : Prop := a.spot = none ∧ ∃ l, μ a.block = some l ∧ a' = ⟨l.b, l.d + a.off, none⟩
/-- A slice that is not nil. -/
def SR (μ : Mu) (a : Addr) (n c : Nat) (a' : Addr) (c' : Nat) : Prop :=
  (c ≠ unk ∧ c' = c ∧ AR μ a a') ∨
  (c = unk ∧ ((n = 0 ∧ c' = 0) ∨ (a.spot = none ∧ n ≤ c' ∧ ∃ l, μ a.block = some l ∧ a' = ⟨l.b, l.d + a.off, none⟩ ∧ l.d + a.off + c' * l.k ≤ l.sz)))

mutual
def VR (μ : Mu) : Value → Value → Prop
  | .bool a, v => v = .bool a
  | .int k n, v => v = .int k n
  | .float k n, v => v = .float k n
  | .complex _ _ _, _ => False
  | .string s, v => v = .string s
  | .pointer none, v => v = .pointer none
  | .pointer (some a), v => ∃ a', v = .pointer (some a') ∧ AR μ a a'
  | .slice none n c, v => v = .slice none n c
  | .slice (some a) n c, v => ∃ a' c', v = .slice (some a') n c' ∧ SR μ a n c a' c'
  | .map none, v => v = .map none
  | .map (some r), v => ∃ l, v = .map (some l.b) ∧ μ r = some l
  | .chan _, _ => False
  | .func (.func f) ⟨x⟩ ⟨y⟩, v => ∃ x' y', v = .func (.func f) x' y' ∧ LR μ x x'.toList ∧ LR μ y y'.toList
  | .func (.yield r) x y, v => x = #[] ∧ y = #[] ∧ ∃ l, v = .func (.yield l.b) #[] #[] ∧ μ r = some l
  | .func _ _ _, _ => False
  | .nilFunc, v => v = .nilFunc
  | .iface t u, v => ∃ u', v = .iface t u' ∧ VR μ u u'
  | .nilIface, v => v = .nilIface
  | .agg ⟨xs⟩, v => ∃ ys, v = .agg ys ∧ LR μ xs ys.toList
  | .tuple ⟨xs⟩, v => ∃ ys, v = .tuple ys ∧ LR μ xs ys.toList
def LR (μ : Mu) : List Value → List Value → Prop
  | [], l => l = []
  | x :: xs, l => ∃ y ys, l = y :: ys ∧ VR μ x y ∧ LR μ xs ys
end
mutual
/-- No address in it. -/
def flat : Value → Bool
  | .bool _ | .int _ _ | .float _ _ | .string _ | .pointer none | .map none | .nilFunc | .nilIface => true
  | .slice none _ _ => true
  | .func (.func _) ⟨x⟩ ⟨y⟩ => flatL x && flatL y
  | .iface _ u => flat u
  | .agg ⟨xs⟩ | .tuple ⟨xs⟩ => flatL xs
  | _ => false
def flatL : List Value → Bool
  | [] => true
  | x :: xs => flat x && flatL xs
end
def Le (μ μ' : Mu) : Prop := ∀ i x, μ i = some x → μ' i = some x
theorem Le.refl (μ : Mu) : Le μ μ := fun _ _ h => h
theorem Le.trans {μ μ' μ'' : Mu} (h : Le μ μ') (h' : Le μ' μ'') : Le μ μ'' := fun i x hx => h' i x (h i x hx)
theorem AR.mono {μ μ' : Mu} (h : Le μ μ') {a a' : Addr} (r : AR μ a a') : AR μ' a a' := by
  obtain ⟨h1, l, h4, h5⟩ := r
  exact ⟨h1, l, h _ _ h4, h5⟩
theorem SR.mono {μ μ' : Mu} (h : Le μ μ') {a a' : Addr} {n c c' : Nat} (r : SR μ a n c a' c') : SR μ' a n c a' c' := by
  rcases r with ⟨h1, h2, h3⟩ | ⟨h1, h2 | ⟨h2, h3, l, h6, h7⟩⟩
  · exact .inl ⟨h1, h2, h3.mono h⟩
  · exact .inr ⟨h1, .inl h2⟩
  · exact .inr ⟨h1, .inr ⟨h2, h3, l, h _ _ h6, h7⟩⟩
mutual
theorem VR.mono {μ μ' : Mu} (h : Le μ μ') : ∀ {v v' : Value}, VR μ v v' → VR μ' v v'
  | .bool _, _, r | .int _ _, _, r | .float _ _, _, r | .string _, _, r | .pointer none, _, r | .slice none _ _, _, r | .map none, _, r | .nilFunc, _, r | .nilIface, _, r => by simpa [VR] using r
  | .pointer (some a), _, r => by
    simp only [VR] at r ⊢; obtain ⟨a', h1, h2⟩ := r; exact ⟨a', h1, h2.mono h⟩
  | .slice (some a) n c, _, r => by
    simp only [VR] at r ⊢; obtain ⟨a', c', h1, h2⟩ := r; exact ⟨a', c', h1, h2.mono h⟩
  | .map (some a), _, r => by
    simp only [VR] at r ⊢; obtain ⟨l, h1, h2⟩ := r; exact ⟨l, h1, h _ _ h2⟩
  | .func (.func f) ⟨x⟩ ⟨y⟩, _, r => by
    simp only [VR] at r ⊢; obtain ⟨x', y', h1, h2, h3⟩ := r; exact ⟨x', y', h1, LR.mono h h2, LR.mono h h3⟩
  | .func (.method _) _ _, _, r | .func (.methodOf _ _) _ _, _, r | .func (.via _ _ _ _) _ _, _, r | .chan _, _, r | .complex _ _ _, _, r => by simp [VR] at r
  | .func (.yield i) _ _, _, r => by
    simp only [VR] at r ⊢; obtain ⟨h1, h2, l, h3, h4⟩ := r; exact ⟨h1, h2, l, h3, h _ _ h4⟩
  | .iface t u, _, r => by
    simp only [VR] at r ⊢; obtain ⟨u', h1, h2⟩ := r; exact ⟨u', h1, VR.mono h h2⟩
  | .agg ⟨xs⟩, _, r => by
    simp only [VR] at r ⊢; obtain ⟨u', h1, h2⟩ := r; exact ⟨u', h1, LR.mono h h2⟩
  | .tuple ⟨xs⟩, _, r => by
    simp only [VR] at r ⊢; obtain ⟨u', h1, h2⟩ := r; exact ⟨u', h1, LR.mono h h2⟩
theorem LR.mono {μ μ' : Mu} (h : Le μ μ') : ∀ {v v' : List Value}, LR μ v v' → LR μ' v v'
  | [], _, r => by simpa [LR] using r
  | x :: xs, _, r => by
    simp only [LR] at r ⊢; obtain ⟨y, ys, h1, h2, h3⟩ := r; exact ⟨y, ys, h1, VR.mono h h2, LR.mono h h3⟩
end
mutual
theorem flat_eq {μ : Mu} : ∀ {v v' : Value}, flat v = true → VR μ v v' → v' = v
  | .bool _, _, _, r | .int _ _, _, _, r | .float _ _, _, _, r | .string _, _, _, r | .pointer none, _, _, r | .slice none _ _, _, _, r | .map none, _, _, r | .nilFunc, _, _, r | .nilIface, _, _, r => by simpa [VR] using r
  | .func (.func f) ⟨x⟩ ⟨y⟩, _, h, r => by
    simp only [VR, flat, Bool.and_eq_true] at r h; obtain ⟨⟨x'⟩, ⟨y'⟩, h1, h2, h3⟩ := r
    have e1 := flatL_eq h.1 h2
    have e2 := flatL_eq h.2 h3
    simp only at e1 e2; subst e1 e2; exact h1
  | .iface t u, _, h, r => by
    simp only [VR, flat] at r h; obtain ⟨u', h1, h2⟩ := r; have := flat_eq h h2; subst this; exact h1
  | .agg ⟨xs⟩, _, h, r => by
    simp only [VR, flat] at r h; obtain ⟨⟨u'⟩, h1, h2⟩ := r; have := flatL_eq h h2; simp only at this; subst this; exact h1
  | .tuple ⟨xs⟩, _, h, r => by
    simp only [VR, flat] at r h; obtain ⟨⟨u'⟩, h1, h2⟩ := r; have := flatL_eq h h2; simp only at this; subst this; exact h1
  | .pointer (some a), _, h, _ | .slice (some a) _ _, _, h, _ | .map (some a), _, h, _ => by simp [flat] at h
  | .func (.method _) _ _, _, h, _ | .func (.methodOf _ _) _ _, _, h, _ | .func (.via _ _ _ _) _ _, _, h, _ | .func (.yield _) _ _, _, h, _ | .chan _, _, h, _ | .complex _ _ _, _, h, _ => by simp [flat] at h
theorem flatL_eq {μ : Mu} : ∀ {v v' : List Value}, flatL v = true → LR μ v v' → v' = v
  | [], _, _, r => by simpa [LR] using r
  | x :: xs, _, h, r => by
    simp only [LR, flatL, Bool.and_eq_true] at r h; obtain ⟨y, ys, h1, h2, h3⟩ := r
    rw [h1, flat_eq h.1 h2, flatL_eq h.2 h3]
end
mutual
theorem flat_VR {μ : Mu} : ∀ {v : Value}, flat v = true → VR μ v v
  | .bool _, _ | .int _ _, _ | .float _ _, _ | .string _, _ | .pointer none, _ | .slice none _ _, _ | .map none, _ | .nilFunc, _ | .nilIface, _ => by simp [VR]
  | .func (.func f) ⟨x⟩ ⟨y⟩, h => by
    simp only [VR, flat, Bool.and_eq_true] at h ⊢; exact ⟨_, _, rfl, flatL_LR h.1, flatL_LR h.2⟩
  | .iface t u, h => by
    simp only [VR, flat] at h ⊢; exact ⟨_, rfl, flat_VR h⟩
  | .agg ⟨xs⟩, h => by
    simp only [VR, flat] at h ⊢; exact ⟨_, rfl, flatL_LR h⟩
  | .tuple ⟨xs⟩, h => by
    simp only [VR, flat] at h ⊢; exact ⟨_, rfl, flatL_LR h⟩
  | .pointer (some a), h | .slice (some a) _ _, h | .map (some a), h => by simp [flat] at h
  | .func (.method _) _ _, h | .func (.methodOf _ _) _ _, h | .func (.via _ _ _ _) _ _, h | .func (.yield _) _ _, h | .chan _, h | .complex _ _ _, h => by simp [flat] at h
theorem flatL_LR {μ : Mu} : ∀ {v : List Value}, flatL v = true → LR μ v v
  | [], _ => by simp [LR]
  | x :: xs, h => by
    simp only [LR, flatL, Bool.and_eq_true] at h ⊢; exact ⟨x, xs, rfl, flat_VR h.1, flatL_LR h.2⟩
end
theorem LR_iff {μ : Mu} : ∀ {l l' : List Value}, LR μ l l' ↔ l'.length = l.length ∧ ∀ (i : Nat) (v : Value), l[i]? = some v → ∃ v', l'[i]? = some v' ∧ VR μ v v'
  | [], l' => by
    simp only [LR]
    constructor
    · rintro rfl; simp
    · rintro ⟨h, _⟩; exact List.eq_nil_of_length_eq_zero (by simpa using h)
  | x :: xs, l' => by
    simp only [LR]
    constructor
    · rintro ⟨y, ys, rfl, h1, h2⟩
      obtain ⟨h3, h4⟩ := LR_iff.1 h2
      refine ⟨by simp [h3], fun i v hi => ?_⟩
      cases i with
      | zero => simp at hi; subst hi; exact ⟨y, by simp, h1⟩
      | succ i => simp at hi; obtain ⟨v', h5, h6⟩ := h4 i v hi; exact ⟨v', by simpa using h5, h6⟩
    · rintro ⟨h1, h2⟩
      cases l' with
      | nil => simp at h1
      | cons y ys =>
        obtain ⟨v', h3, h4⟩ := h2 0 x (by simp)
        simp at h3; subst h3
        exact ⟨y, ys, rfl, h4, LR_iff.2 ⟨by simpa using h1, fun i v hi => by
          obtain ⟨v', h5, h6⟩ := h2 (i + 1) v (by simpa using hi)
          exact ⟨v', by simpa using h5, h6⟩⟩⟩

theorem LR.len {μ : Mu} {l l' : List Value} (h : LR μ l l') : l'.length = l.length := (LR_iff.1 h).1
theorem LR.get {μ : Mu} {l l' : List Value} (h : LR μ l l') {i : Nat} {v : Value} (hi : l[i]? = some v) : ∃ v', l'[i]? = some v' ∧ VR μ v v' := (LR_iff.1 h).2 i v hi
theorem LR.append {μ : Mu} {l l' m m' : List Value} (h : LR μ l l') (h' : LR μ m m') : LR μ (l ++ m) (l' ++ m') := by
  refine LR_iff.2 ⟨by simp [h.len, h'.len], fun i v hi => ?_⟩
  rcases Nat.lt_or_ge i l.length with hl | hl
  · rw [List.getElem?_append_left hl] at hi
    obtain ⟨v', h5, h6⟩ := h.get hi
    exact ⟨v', by rw [List.getElem?_append_left (by rw [h.len]; exact hl)]; exact h5, h6⟩
  · rw [List.getElem?_append_right hl] at hi
    obtain ⟨v', h5, h6⟩ := h'.get hi
    exact ⟨v', by rw [List.getElem?_append_right (by rw [h.len]; exact hl), h.len]; exact h5, h6⟩
theorem LR.take {μ : Mu} {l l' : List Value} (h : LR μ l l') (n : Nat) : LR μ (l.take n) (l'.take n) := by
  refine LR_iff.2 ⟨by simp [h.len], fun i v hi => ?_⟩
  rw [List.getElem?_take] at hi ⊢
  split at hi
  · rename_i hc
    obtain ⟨v', h5, h6⟩ := h.get hi
    exact ⟨v', by rw [if_pos hc]; exact h5, h6⟩
  · cases hi
theorem LR.drop {μ : Mu} {l l' : List Value} (h : LR μ l l') (n : Nat) : LR μ (l.drop n) (l'.drop n) := by
  refine LR_iff.2 ⟨by simp [h.len], fun i v hi => ?_⟩
  rw [List.getElem?_drop] at hi ⊢
  exact h.get hi
theorem LR.set {μ : Mu} {l l' : List Value} (h : LR μ l l') (n : Nat) {x x' : Value} (hx : VR μ x x') : LR μ (l.set n x) (l'.set n x') := by
  refine LR_iff.2 ⟨by simp [h.len], fun i v hi => ?_⟩
  rw [List.getElem?_set] at hi ⊢
  split at hi
  · rename_i hc
    subst hc
    split at hi
    · rename_i hn
      cases hi
      exact ⟨x', by rw [if_pos rfl, if_pos (by rw [h.len]; exact hn)], hx⟩
    · cases hi
  · rename_i hc
    rw [if_neg hc]
    exact h.get hi
theorem LR.cons {μ : Mu} {l l' : List Value} {x x' : Value} (hx : VR μ x x') (h : LR μ l l') : LR μ (x :: l) (x' :: l') := by
  simp only [LR]; exact ⟨_, _, rfl, hx, h⟩
theorem LR.nil {μ : Mu} : LR μ [] [] := by simp [LR]

/-! ### The abstract memory -/
inductive Tr (α : Type) where
  | nil
  | node (v : Option α) (l r : Tr α)
noncomputable def Tr.get {α : Type} (t : Tr α) : Nat → Option α :=
  Tr.rec (motive := fun _ => Nat → Option α) (fun _ => none)
    (fun v _ _ gl gr k => Bool.rec (motive := fun _ => Option α) (Bool.rec (motive := fun _ => Option α) (gr (Nat.pred (Nat.div k 2))) (gl (Nat.div k 2)) (Nat.beq (Nat.mod k 2) 1)) v (Nat.beq k 0)) t
/-- An element is laid in; what is made is handed on. -/
noncomputable def Tr.fput {α β : Type} (x : Option α) (f : Nat) : Tr α → Nat → (Tr α → β) → β :=
  Nat.rec (motive := fun _ => Tr α → Nat → (Tr α → β) → β) (fun t _ k => k t)
    (fun _ ih t i k => Tr.rec (motive := fun _ => β)
      (Bool.rec (motive := fun _ => β) (Bool.rec (motive := fun _ => β) (ih .nil (Nat.pred (Nat.div i 2)) fun r => k (.node none .nil r)) (ih .nil (Nat.div i 2) fun l => k (.node none l .nil)) (Nat.beq (Nat.mod i 2) 1)) (k (.node x .nil .nil)) (Nat.beq i 0))
      (fun v l r _ _ => Bool.rec (motive := fun _ => β) (Bool.rec (motive := fun _ => β) (ih r (Nat.pred (Nat.div i 2)) fun r => k (.node v l r)) (ih l (Nat.div i 2) fun l => k (.node v l r)) (Nat.beq (Nat.mod i 2) 1)) (k (.node x l r)) (Nat.beq i 0)) t) f
noncomputable def Tr.put {α : Type} (x : Option α) (f : Nat) (t : Tr α) (i : Nat) : Tr α := Tr.fput x f t i id
theorem Tr.get_nil {α : Type} (k : Nat) : (Tr.nil : Tr α).get k = none := rfl
theorem Tr.get_node {α : Type} (v : Option α) (l r : Tr α) (k : Nat) : (Tr.node v l r).get k = if k = 0 then v else if k % 2 = 1 then l.get (k / 2) else r.get (k / 2 - 1) := by
  show Bool.rec (motive := fun _ => Option α) (Bool.rec (motive := fun _ => Option α) (r.get (Nat.pred (Nat.div k 2))) (l.get (Nat.div k 2)) (Nat.beq (Nat.mod k 2) 1)) v (Nat.beq k 0) = _
  by_cases h : k = 0
  · subst h; rfl
  · rw [if_neg h]
    have h1 : Nat.beq k 0 = false := by cases k with
      | zero => exact absurd rfl h
      | succ n => rfl
    rw [h1]
    by_cases h2 : k % 2 = 1
    · rw [if_pos h2]
      have h3 : Nat.beq (Nat.mod k 2) 1 = true := by
        have : Nat.mod k 2 = 1 := h2
        rw [this]; rfl
      rw [h3]; rfl
    · rw [if_neg h2]
      have h3 : Nat.beq (Nat.mod k 2) 1 = false := by
        have : Nat.mod k 2 = 0 := by
          have : k % 2 = 0 := by omega
          exact this
        rw [this]; rfl
      rw [h3]; rfl
theorem Tr.fput_zero {α β : Type} (x : Option α) (t : Tr α) (i : Nat) (k : Tr α → β) : Tr.fput x 0 t i k = k t := rfl
theorem Tr.fput_nil {α β : Type} (x : Option α) (f : Nat) (i : Nat) (k : Tr α → β) : Tr.fput x (f + 1) .nil i k = if i = 0 then k (.node x .nil .nil) else if i % 2 = 1 then Tr.fput x f .nil (i / 2) fun l => k (.node none l .nil) else Tr.fput x f .nil (i / 2 - 1) fun r => k (.node none .nil r) := by
  show Bool.rec (motive := fun _ => β) (Bool.rec (motive := fun _ => β) (Tr.fput x f .nil (Nat.pred (Nat.div i 2)) fun r => k (.node none .nil r)) (Tr.fput x f .nil (Nat.div i 2) fun l => k (.node none l .nil)) (Nat.beq (Nat.mod i 2) 1)) (k (.node x .nil .nil)) (Nat.beq i 0) = _
  by_cases h : i = 0
  · subst h; rfl
  · rw [if_neg h]
    have h1 : Nat.beq i 0 = false := by cases i with
      | zero => exact absurd rfl h
      | succ n => rfl
    rw [h1]
    by_cases h2 : i % 2 = 1
    · rw [if_pos h2]
      have h3 : Nat.beq (Nat.mod i 2) 1 = true := by
        have : Nat.mod i 2 = 1 := h2
        rw [this]; rfl
      rw [h3]; rfl
    · rw [if_neg h2]
      have h3 : Nat.beq (Nat.mod i 2) 1 = false := by
        have : Nat.mod i 2 = 0 := by
          have : i % 2 = 0 := by omega
          exact this
        rw [this]; rfl
      rw [h3]; rfl
theorem Tr.fput_node {α β : Type} (x : Option α) (f : Nat) (v : Option α) (l r : Tr α) (i : Nat) (k : Tr α → β) : Tr.fput x (f + 1) (.node v l r) i k = if i = 0 then k (.node x l r) else if i % 2 = 1 then Tr.fput x f l (i / 2) fun l => k (.node v l r) else Tr.fput x f r (i / 2 - 1) fun r => k (.node v l r) := by
  show Bool.rec (motive := fun _ => β) (Bool.rec (motive := fun _ => β) (Tr.fput x f r (Nat.pred (Nat.div i 2)) fun r => k (.node v l r)) (Tr.fput x f l (Nat.div i 2) fun l => k (.node v l r)) (Nat.beq (Nat.mod i 2) 1)) (k (.node x l r)) (Nat.beq i 0) = _
  by_cases h : i = 0
  · subst h; rfl
  · rw [if_neg h]
    have h1 : Nat.beq i 0 = false := by cases i with
      | zero => exact absurd rfl h
      | succ n => rfl
    rw [h1]
    by_cases h2 : i % 2 = 1
    · rw [if_pos h2]
      have h3 : Nat.beq (Nat.mod i 2) 1 = true := by
        have : Nat.mod i 2 = 1 := h2
        rw [this]; rfl
      rw [h3]; rfl
    · rw [if_neg h2]
      have h3 : Nat.beq (Nat.mod i 2) 1 = false := by
        have : Nat.mod i 2 = 0 := by
          have : i % 2 = 0 := by omega
          exact this
        rw [this]; rfl
      rw [h3]; rfl
theorem Tr.fput_eq {α β : Type} (x : Option α) : ∀ (f : Nat) (t : Tr α) (i : Nat) (k : Tr α → β), Tr.fput x f t i k = k (Tr.put x f t i)
  | 0, t, i, k => rfl
  | f + 1, .nil, i, k => by
    unfold Tr.put
    rw [Tr.fput_nil, Tr.fput_nil]
    split
    · rfl
    · split
      · rw [Tr.fput_eq x f .nil, Tr.fput_eq x f .nil]; rfl
      · rw [Tr.fput_eq x f .nil, Tr.fput_eq x f .nil]; rfl
  | f + 1, .node v l r, i, k => by
    unfold Tr.put
    rw [Tr.fput_node, Tr.fput_node]
    split
    · rfl
    · split
      · rw [Tr.fput_eq x f l, Tr.fput_eq x f l]; rfl
      · rw [Tr.fput_eq x f r, Tr.fput_eq x f r]; rfl
theorem Tr.put_nil {α : Type} (x : Option α) (f i : Nat) : Tr.put x (f + 1) .nil i = if i = 0 then .node x .nil .nil else if i % 2 = 1 then .node none (Tr.put x f .nil (i / 2)) .nil else .node none .nil (Tr.put x f .nil (i / 2 - 1)) := by
  unfold Tr.put
  rw [Tr.fput_nil]
  simp only [Tr.fput_eq, id]
theorem Tr.put_node {α : Type} (x : Option α) (f : Nat) (v : Option α) (l r : Tr α) (i : Nat) : Tr.put x (f + 1) (.node v l r) i = if i = 0 then .node x l r else if i % 2 = 1 then .node v (Tr.put x f l (i / 2)) r else .node v l (Tr.put x f r (i / 2 - 1)) := by
  unfold Tr.put
  rw [Tr.fput_node]
  simp only [Tr.fput_eq, id]
theorem Tr.get_put {α : Type} (x : Option α) : ∀ (f : Nat) (t : Tr α) (k j : Nat), k < f → (Tr.put x f t k).get j = if j = k then x else t.get j
  | 0, _, _, _, h => by omega
  | f + 1, .nil, k, j, h => by
    rw [Tr.put_nil, Tr.get_nil]
    split
    · rename_i hk; subst hk
      rw [Tr.get_node]
      by_cases hj : j = 0
      · simp [hj]
      · simp [hj, Tr.get_nil]
    · split
      · rw [Tr.get_node]
        by_cases hj : j = 0
        · rw [if_pos hj, if_neg (by omega)]
        · rw [if_neg hj]
          split
          · rw [Tr.get_put x f .nil (k / 2) (j / 2) (by omega), Tr.get_nil]
            by_cases e : j = k
            · simp [e]
            · rw [if_neg e, if_neg (by omega)]
          · rw [Tr.get_nil, if_neg (by omega)]
      · rw [Tr.get_node]
        by_cases hj : j = 0
        · rw [if_pos hj, if_neg (by omega)]
        · rw [if_neg hj]
          split
          · rw [Tr.get_nil, if_neg (by omega)]
          · rw [Tr.get_put x f .nil (k / 2 - 1) (j / 2 - 1) (by omega), Tr.get_nil]
            by_cases e : j = k
            · simp [e]
            · rw [if_neg e, if_neg (by omega)]
  | f + 1, .node v l r, k, j, h => by
    rw [Tr.put_node]
    split
    · rename_i hk; subst hk
      rw [Tr.get_node, Tr.get_node]
      by_cases hj : j = 0
      · simp [hj]
      · simp [hj]
    · split
      · rw [Tr.get_node, Tr.get_node]
        by_cases hj : j = 0
        · rw [if_pos hj, if_neg (by omega), if_pos hj]
        · rw [if_neg hj, if_neg hj]
          split
          · rw [Tr.get_put x f l (k / 2) (j / 2) (by omega)]
            by_cases e : j = k
            · simp [e]
            · rw [if_neg e, if_neg (by omega)]
          · rw [if_neg (by omega)]
      · rw [Tr.get_node, Tr.get_node]
        by_cases hj : j = 0
        · rw [if_pos hj, if_neg (by omega), if_pos hj]
        · rw [if_neg hj, if_neg hj]
          split
          · rw [if_neg (by omega)]
          · rw [Tr.get_put x f r (k / 2 - 1) (j / 2 - 1) (by omega)]
            by_cases e : j = k
            · simp [e]
            · rw [if_neg e, if_neg (by omega)]
/-- The jump that a round has left. -/
inductive AJ where
  | none
  | ret
  | exit (id : Nat)
  | goto (l : Nat)
def AJ.code : AJ → Option Code
  | .none => Option.none
  | .ret => some .ret
  | .exit id => some (.exit id)
  | .goto l => some (.goto l)
/-- An object of the abstract memory. In cells: those that are known; whether there may be more; how many of them are frozen (none: it is a plain row). -/
inductive AObj where
  | cells (vs : List Value) (t : TypeId) (op : Bool) (fz : Option Nat) (es : Nat)
  | map (es : List MapEntry) (clock : Nat)
  | sit (s : ByteArray) (pos : Nat)
  | dfr (op : Bool)
  | loop (st : LoopState) (j : AJ) (ps : Array Tmp) (asg bd : Code) (tmps : Tr Value) (n : Nat)
/-- What was written since the memory was last laid out, the memory, the next number. -/
structure AW where
  log : List (Nat × Option AObj)
  tree : Tr AObj
  next : Nat
noncomputable def logGet : List (Nat × Option AObj) → Nat → Option (Option AObj)
  | [], _ => none
  | (i, o) :: r, j => if j = i then some o else logGet r j
noncomputable def AW.get (A : AW) (i : Nat) : Option AObj :=
  match logGet A.log i with
  | some o => o
  | none => A.tree.get i
def AW.set (A : AW) (i : Nat) (o : Option AObj) : AW := { A with log := (i, o) :: A.log }
def AW.push (A : AW) (o : AObj) : AW := { log := (A.next, some o) :: A.log, tree := A.tree, next := A.next + 1 }
theorem AW.get_set (A : AW) (i j : Nat) (o : Option AObj) : (A.set i o).get j = if j = i then o else A.get j := by
  simp only [AW.get, AW.set, logGet]
  by_cases h : j = i
  · simp [h]
  · simp [h]
theorem AW.get_push (A : AW) (j : Nat) (o : AObj) : (A.push o).get j = if j = A.next then some o else A.get j := by
  simp only [AW.get, AW.push, logGet]
  by_cases h : j = A.next
  · simp [h]
  · simp [h]

def FZ (fz : Option Nat) (fr : Nat × Nat) (d sz : Nat) : Prop :=
  match fz with
  | none => fr = (0, 0)
  | some n => ∀ i, d + i < sz → ((fr.1 ≤ d + i ∧ d + i < fr.2) ↔ i < n)
def MR (μ : Mu) : List MapEntry → List MapEntry → Prop
  | [], l => l = []
  | e :: es, l => ∃ e' es', l = e' :: es' ∧ flat e.key = true ∧ e'.key = e.key ∧ e'.born = e.born ∧ VR μ e.val e'.val ∧ MR μ es es'
def OR (μ : Mu) (l : Loc) : AObj → Obj → Prop
  | .cells vs t op fz es, o => ∃ c fr, o = .cells c t fr ∧ c.size = l.sz ∧ l.d + vs.length ≤ l.sz ∧ (op = false → l.d = 0 ∧ vs.length = l.sz) ∧ es = l.k ∧ LR μ vs ((c.toList.drop l.d).take vs.length) ∧ FZ fz fr l.d l.sz
  | .map es clock, o => ∃ es', o = .map es' clock ∧ MR μ es es'.toList
  | .sit s pos, o => l.d = 0 ∧ o = .stringIter s pos
  | .dfr op, o => o = .deferred (if op then some [] else none)
  | .loop st j ps asg bd tmps n, o => ∃ r : Loop, o = .loop r ∧ r.state = st ∧ r.pending = j.code ∧ r.params = ps ∧ r.assign = asg ∧ r.body = bd ∧ r.tmps.size = n ∧ ∀ (t : Nat) (v : Value), tmps.get t = some v → ∃ v', r.tmps.toList[t]? = some v' ∧ VR μ v v'
theorem MR.mono {μ μ' : Mu} (h : Le μ μ') : ∀ {l l' : List MapEntry}, MR μ l l' → MR μ' l l'
  | [], _, r => by simpa [MR] using r
  | x :: xs, _, r => by
    simp only [MR] at r ⊢; obtain ⟨y, ys, h1, h2, h3, h4, h5, h6⟩ := r; exact ⟨y, ys, h1, h2, h3, h4, h5.mono h, MR.mono h h6⟩
theorem OR.mono {μ μ' : Mu} (h : Le μ μ') {l : Loc} : ∀ {o : AObj} {o' : Obj}, OR μ l o o' → OR μ' l o o'
  | .cells vs t op fz es, _, r => by
    simp only [OR] at r ⊢; obtain ⟨c, fr, h1, h2, h3, h4, h5, h6, h7⟩ := r; exact ⟨c, fr, h1, h2, h3, h4, h5, h6.mono h, h7⟩
  | .map es clock, _, r => by
    simp only [OR] at r ⊢; obtain ⟨c, h1, h2⟩ := r; exact ⟨c, h1, h2.mono h⟩
  | .sit s pos, _, r => by simpa [OR] using r
  | .dfr op, _, r => by simpa [OR] using r
  | .loop st j ps asg bd tmps n, _, r => by
    simp only [OR] at r ⊢
    obtain ⟨q, h1, h2, h3, h4, h5, h6, h7, h8⟩ := r
    exact ⟨q, h1, h2, h3, h4, h5, h6, h7, fun t v ht => by
      obtain ⟨v', h9, h10⟩ := h8 t v ht
      exact ⟨v', h9, h10.mono h⟩⟩
structure WR (μ : Mu) (A : AW) (w : World) : Prop where
  has : ∀ i o l, A.get i = some o → μ i = some l → ∃ o', w.heap[l.b]? = some o' ∧ OR μ l o o'
  inj : ∀ i j oi oj li lj, A.get i = some oi → A.get j = some oj → μ i = some li → μ j = some lj → li.b = lj.b → i = j
  dom : ∀ i, A.next ≤ i → μ i = none
/-- What a piece of the run leaves: the blocks that A does not know stay; what A' knows lay in A or is new. -/
structure Ext (μ : Mu) (A : AW) (w : World) (μ' : Mu) (A' : AW) (w' : World) : Prop where
  le : Le μ μ'
  size : w.heap.size ≤ w'.heap.size
  tape : w'.tape = w.tape
  os : w'.os = w.os
  output : w'.output = w.output
  stay : ∀ b, b < w.heap.size → (∀ i o l, A.get i = some o → μ i = some l → l.b ≠ b) → w'.heap[b]? = w.heap[b]?
  img : ∀ i o l, A'.get i = some o → μ' i = some l → w.heap.size ≤ l.b ∨ ∃ j oj lj, A.get j = some oj ∧ μ j = some lj ∧ lj.b = l.b
  next : A.next ≤ A'.next
  keep : ∀ i, i < A.next → μ' i = μ i
theorem Ext.refl {μ : Mu} {A : AW} {w : World} : Ext μ A w μ A w :=
  ⟨Le.refl _, Nat.le_refl _, rfl, rfl, rfl, fun _ _ _ => rfl, fun i o l h h' => .inr ⟨i, o, l, h, h', rfl⟩, Nat.le_refl _, fun _ _ => rfl⟩
theorem Ext.trans {μ μ' μ'' : Mu} {A A' A'' : AW} {w w' w'' : World} (h : Ext μ A w μ' A' w') (h' : Ext μ' A' w' μ'' A'' w'') : Ext μ A w μ'' A'' w'' where
  le := h.le.trans h'.le
  size := Nat.le_trans h.size h'.size
  tape := h'.tape.trans h.tape
  os := h'.os.trans h.os
  output := h'.output.trans h.output
  stay := fun b hb hn => by
    rw [← h.stay b hb hn]
    refine h'.stay b (Nat.lt_of_lt_of_le hb h.size) fun i o l hg hm e => ?_
    rcases h.img i o l hg hm with h5 | ⟨j, oj, lj, h5, h6, h7⟩
    · omega
    · exact hn j oj lj h5 h6 (h7.trans e)
  img := fun i o l hg hm => by
    rcases h'.img i o l hg hm with h5 | ⟨j, oj, lj, h5, h6, h7⟩
    · exact .inl (Nat.le_trans h.size h5)
    · rcases h.img j oj lj h5 h6 with h8 | ⟨m, om, lm, h8, h9, h10⟩
      · exact .inl (by omega)
      · exact .inr ⟨m, om, lm, h8, h9, h10.trans h7⟩
  next := Nat.le_trans h.next h'.next
  keep := fun i hi => (h'.keep i (Nat.lt_of_lt_of_le hi h.next)).trans (h.keep i hi)
end Ev
end Go.Proofs.Ytkjnaamlhkldmab
