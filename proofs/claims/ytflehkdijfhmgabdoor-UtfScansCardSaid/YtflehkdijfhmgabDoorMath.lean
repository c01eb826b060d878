/- The runes of a list of bytes, as plain functions: what a first byte says, the first rune of a list that is sure, and all the sure ones with their places. -/
namespace Go.Proofs.YtflehkdijfhmgabDoor

def ldMore (c : Int) : Int := if c < 128 then 0 else if c < 194 then -1 else if 244 < c then -1 else if c < 224 then 1 else if c < 240 then 2 else 3
def ldBits (c : Int) : Int := if c < 128 then c else if c < 194 then 0 else if 244 < c then 0 else if c < 224 then c % 32 else if c < 240 then c % 16 else c % 8
def ldLow (c : Int) : Int := if c = 224 then 160 else if c = 240 then 144 else 128
def ldHigh (c : Int) : Int := if c = 237 then 159 else if c = 244 then 143 else 191

theorem ldLow_bd (c : Int) : 128 ≤ ldLow c ∧ ldLow c ≤ 160 := by unfold ldLow; omega
theorem ldHigh_bd (c : Int) : 143 ≤ ldHigh c ∧ ldHigh c ≤ 191 := by unfold ldHigh; omega
theorem ldMore_bd (c : Int) : -1 ≤ ldMore c ∧ ldMore c ≤ 3 := by unfold ldMore; omega

/-- A mark: the place, the width, the rune, whether it is a fault. -/
structure Mk where
  pl : Int
  wd : Int
  ru : Int
  bad : Bool

/-- Behind a first byte: so many bytes are to come. -/
def foll : Nat → Nat → Int → Int → Int → List Int → Option (Nat × Int × Bool)
  | n, 0, r, _, _, _ => some (n, r, false)
  | _, _ + 1, _, _, _, [] => none
  | n, m + 1, r, lo, hi, d :: t => if d < lo then some (1, 65533, true) else if hi < d then some (1, 65533, true) else foll (n + 1) m (r * 64 + d % 64) 128 191 t

/-- The first rune, if it is sure: its width, itself, whether it is a fault. -/
def frst : List Int → Option (Nat × Int × Bool)
  | [] => none
  | c :: t => if ldMore c < 0 then some (1, 65533, true) else foll 1 (ldMore c).toNat (ldBits c) (ldLow c) (ldHigh c) t

theorem frst_cons (c : Int) (t : List Int) : frst (c :: t) = if ldMore c < 0 then some (1, 65533, true) else foll 1 (ldMore c).toNat (ldBits c) (ldLow c) (ldHigh c) t := rfl

theorem foll_bd : ∀ (m n : Nat) (r lo hi : Int) (t : List Int) (k : Nat) (q : Int) (b : Bool), 1 ≤ n → foll n m r lo hi t = some (k, q, b) → 1 ≤ k ∧ k ≤ n + t.length
  | 0, n, r, lo, hi, t, k, q, b, h, e => by simp [foll] at e; omega
  | m + 1, n, r, lo, hi, [], k, q, b, h, e => by simp [foll] at e
  | m + 1, n, r, lo, hi, d :: t, k, q, b, h, e => by
    unfold foll at e
    split at e
    · simp at e; simp; omega
    · split at e
      · simp at e; simp; omega
      · have := foll_bd m (n + 1) _ _ _ t k q b (by omega) e
        simp; omega

theorem frst_bd (bs : List Int) (k : Nat) (q : Int) (b : Bool) (e : frst bs = some (k, q, b)) : 1 ≤ k ∧ k ≤ bs.length := by
  cases bs with
  | nil => simp [frst] at e
  | cons c t =>
    rw [frst_cons] at e
    split at e
    · simp at e; simp; omega
    · have := foll_bd _ 1 _ _ _ t k q b (by omega) e
      simp; omega

def scF : Nat → Int → List Int → List Mk × Nat
  | 0, _, _ => ([], 0)
  | k + 1, base, bs => match frst bs with
    | none => ([], 0)
    | some (n, r, b) => (⟨base, n, r, b⟩ :: (scF k (base + n) (bs.drop n)).1, n + (scF k (base + n) (bs.drop n)).2)

/-- The sure runes of a list of bytes that begins at a place, and how many bytes they have. -/
def sc (base : Int) (bs : List Int) : List Mk × Nat := scF bs.length base bs

theorem scF_any : ∀ (k k' : Nat) (base : Int) (bs : List Int), bs.length ≤ k → bs.length ≤ k' → scF k base bs = scF k' base bs
  | 0, 0, _, _, _, _ => rfl
  | 0, k' + 1, base, bs, h, _ => by
    have : bs = [] := List.length_eq_zero_iff.1 (by omega)
    subst this; simp [scF, frst]
  | k + 1, 0, base, bs, _, h => by
    have : bs = [] := List.length_eq_zero_iff.1 (by omega)
    subst this; simp [scF, frst]
  | k + 1, k' + 1, base, bs, h, h' => by
    unfold scF
    cases e : frst bs with
    | none => rfl
    | some x =>
      obtain ⟨n, r, b⟩ := x
      have hb := frst_bd bs n r b e
      have := scF_any k k' (base + n) (bs.drop n) (by simp; omega) (by simp; omega)
      simp only [this]

theorem sc_none (base : Int) (bs : List Int) (e : frst bs = none) : sc base bs = ([], 0) := by
  unfold sc
  cases hl : bs.length with
  | zero => rfl
  | succ k => unfold scF; rw [e]

theorem sc_some (base : Int) (bs : List Int) (n : Nat) (r : Int) (b : Bool) (e : frst bs = some (n, r, b)) :
    sc base bs = (⟨base, n, r, b⟩ :: (sc (base + n) (bs.drop n)).1, n + (sc (base + n) (bs.drop n)).2) := by
  have hb := frst_bd bs n r b e
  unfold sc
  rw [scF_any bs.length (bs.length - 1 + 1) base bs (by omega) (by omega)]
  conv => lhs; unfold scF
  rw [e]
  have := scF_any (bs.length - 1) (bs.drop n).length (base + n) (bs.drop n) (by simp; omega) (by omega)
  simp only [this]

/-- What was found so far and what is to come make the whole. -/
def Part (base : Int) (bs : List Int) (ms : List Mk) (s : Nat) : Prop :=
  s ≤ bs.length ∧ ms ++ (sc (base + s) (bs.drop s)).1 = (sc base bs).1 ∧ s + (sc (base + s) (bs.drop s)).2 = (sc base bs).2 ∧ ms.length ≤ s

theorem Part.start (base : Int) (bs : List Int) : Part base bs [] 0 := by simp [Part]

theorem Part.step {base : Int} {bs : List Int} {ms : List Mk} {s n : Nat} {r : Int} {b : Bool} (h : Part base bs ms s) (e : frst (bs.drop s) = some (n, r, b)) :
    Part base bs (ms ++ [⟨base + s, n, r, b⟩]) (s + n) := by
  obtain ⟨h1, h2, h3, h4⟩ := h
  have hb := frst_bd _ _ _ _ e
  have es := sc_some (base + s) (bs.drop s) n r b e
  simp only [List.length_drop] at hb
  refine ⟨by omega, ?_, ?_, by simp; omega⟩
  · rw [← h2, es]
    simp [List.drop_drop, Int.add_assoc]
  · rw [← h3, es]
    simp only [List.drop_drop, Int.natCast_add, Int.add_assoc]
    omega

theorem Part.done {base : Int} {bs : List Int} {ms : List Mk} {s : Nat} (h : Part base bs ms s) (e : frst (bs.drop s) = none) : ms = (sc base bs).1 ∧ s = (sc base bs).2 := by
  obtain ⟨h1, h2, h3, _⟩ := h
  rw [sc_none _ _ e] at h2 h3
  simpa using And.intro h2 h3

theorem drop_at (bs : List Int) (s : Nat) (h : s < bs.length) : bs.drop s = bs.getD s 0 :: bs.drop (s + 1) := by
  rw [List.drop_eq_getElem_cons h]; simp [h]

theorem frst_wrong (bs : List Int) (s : Nat) (h : s < bs.length) (hm : ldMore (bs.getD s 0) < 0) : frst (bs.drop s) = some (1, 65533, true) := by
  rw [drop_at bs s h, frst_cons, if_pos hm]

theorem frst_go (bs : List Int) (s : Nat) (h : s < bs.length) (hm : ¬ ldMore (bs.getD s 0) < 0) :
    frst (bs.drop s) = foll 1 (ldMore (bs.getD s 0)).toNat (ldBits (bs.getD s 0)) (ldLow (bs.getD s 0)) (ldHigh (bs.getD s 0)) (bs.drop (s + 1)) := by
  rw [drop_at bs s h, frst_cons, if_neg hm]

/-- Bytes of a sequence were read: n of them; m are to come. -/
structure Mid (bs : List Int) (s n m : Nat) (r lo hi : Int) : Prop where
  is : foll n m r lo hi (bs.drop (s + n)) = frst (bs.drop s)
  le : s + n ≤ bs.length
  n1 : 1 ≤ n
  sum : n + m ≤ 4
  r0 : 0 ≤ r
  rb : (r + 1) * 64 ^ m ≤ 2097152
  lo0 : 0 ≤ lo

theorem Mid.start (bs : List Int) (s : Nat) (h : s < bs.length) (h0 : 0 ≤ bs.getD s 0) (h9 : bs.getD s 0 < 256) (hm : ¬ ldMore (bs.getD s 0) < 0) :
    Mid bs s 1 (ldMore (bs.getD s 0)).toNat (ldBits (bs.getD s 0)) (ldLow (bs.getD s 0)) (ldHigh (bs.getD s 0)) := by
  refine ⟨(frst_go bs s h hm).symm, by omega, by omega, ?_, ?_, ?_, ?_⟩
  · have := ldMore_bd (bs.getD s 0); omega
  · generalize bs.getD s 0 = c at *
    unfold ldBits; omega
  · generalize bs.getD s 0 = c at *
    by_cases c1 : c < 128
    · rw [show ldMore c = 0 by unfold ldMore; omega, show ldBits c = c by unfold ldBits; omega]; simp; omega
    by_cases c2 : c < 194
    · exact absurd (show ldMore c < 0 by unfold ldMore; omega) hm
    by_cases c3 : 244 < c
    · exact absurd (show ldMore c < 0 by unfold ldMore; omega) hm
    by_cases c4 : c < 224
    · rw [show ldMore c = 1 by unfold ldMore; omega, show ldBits c = c % 32 by unfold ldBits; omega]; simp; omega
    by_cases c5 : c < 240
    · rw [show ldMore c = 2 by unfold ldMore; omega, show ldBits c = c % 16 by unfold ldBits; omega]; simp; omega
    · rw [show ldMore c = 3 by unfold ldMore; omega, show ldBits c = c % 8 by unfold ldBits; omega]; simp; omega
  · have := ldLow_bd (bs.getD s 0); omega

theorem Mid.whole {bs : List Int} {s n : Nat} {r lo hi : Int} (h : Mid bs s n 0 r lo hi) : frst (bs.drop s) = some (n, r, false) := by
  rw [← h.is]; simp [foll]

theorem Mid.held {bs : List Int} {s n m : Nat} {r lo hi : Int} (h : Mid bs s n (m + 1) r lo hi) (e : s + n = bs.length) : frst (bs.drop s) = none := by
  rw [← h.is, e]; simp [foll]

theorem Mid.wrong {bs : List Int} {s n m : Nat} {r lo hi : Int} (h : Mid bs s n (m + 1) r lo hi) (hl : s + n < bs.length) (hd : bs.getD (s + n) 0 < lo ∨ hi < bs.getD (s + n) 0) : frst (bs.drop s) = some (1, 65533, true) := by
  rw [← h.is, drop_at bs (s + n) hl]
  unfold foll
  rcases hd with hd | hd
  · rw [if_pos hd]
  · by_cases h1 : bs.getD (s + n) 0 < lo
    · rw [if_pos h1]
    · rw [if_neg h1, if_pos hd]

theorem Mid.on {bs : List Int} {s n m : Nat} {r lo hi : Int} (h : Mid bs s n (m + 1) r lo hi) (hl : s + n < bs.length) (h1 : ¬ bs.getD (s + n) 0 < lo) (h2 : ¬ hi < bs.getD (s + n) 0) :
    Mid bs s (n + 1) m (r * 64 + bs.getD (s + n) 0 % 64) 128 191 := by
  have hi' := h.is
  rw [drop_at bs (s + n) hl] at hi'
  unfold foll at hi'
  rw [if_neg h1, if_neg h2] at hi'
  have hr := h.rb
  have hs := h.sum
  have hr0 := h.r0
  refine ⟨hi', by omega, by omega, by omega, by omega, ?_, by omega⟩
  have hp : (64 : Int) ^ (m + 1) = 64 * 64 ^ m := by rw [Int.pow_succ]; omega
  rw [hp, ← Int.mul_assoc] at hr
  refine Int.le_trans (Int.mul_le_mul_of_nonneg_right ?_ (Int.pow_nonneg (by decide))) hr
  omega

theorem Mid.small {bs : List Int} {s n m : Nat} {r lo hi : Int} (h : Mid bs s n (m + 1) r lo hi) : r < 32768 := by
  have hr := h.rb
  have hr0 := h.r0
  have hp : (64 : Int) ^ (m + 1) = 64 * 64 ^ m := by rw [Int.pow_succ]; omega
  have h1 : (1 : Int) ≤ 64 ^ m := Int.pow_pos (by decide)
  have h2 : (r + 1) * 64 ≤ (r + 1) * 64 ^ (m + 1) := Int.mul_le_mul_of_nonneg_left (by omega) (by omega)
  omega
theorem foll_none : ∀ (m n : Nat) (r lo hi : Int) (t : List Int), foll n m r lo hi t = none → t.length < m
  | 0, n, r, lo, hi, t, e => by simp [foll] at e
  | m + 1, n, r, lo, hi, [], e => by simp
  | m + 1, n, r, lo, hi, d :: t, e => by
    unfold foll at e
    split at e
    · simp at e
    · split at e
      · simp at e
      · have := foll_none m (n + 1) _ _ _ t e
        simp; omega

/-- What is not sure has at most three bytes. -/
theorem frst_none (bs : List Int) (e : frst bs = none) : bs.length ≤ 3 := by
  cases bs with
  | nil => simp
  | cons c t =>
    rw [frst_cons] at e
    split at e
    · simp at e
    · have := foll_none _ _ _ _ _ t e
      have := ldMore_bd c
      simp; omega

theorem scF_end : ∀ (k : Nat) (base : Int) (bs : List Int), bs.length ≤ k → (scF k base bs).2 ≤ bs.length ∧ frst (bs.drop (scF k base bs).2) = none
  | 0, base, bs, h => by
    have : bs = [] := List.length_eq_zero_iff.1 (by omega)
    subst this; simp [scF, frst]
  | k + 1, base, bs, h => by
    unfold scF
    cases e : frst bs with
    | none => simp [e]
    | some x =>
      obtain ⟨n, r, b⟩ := x
      have hb := frst_bd bs n r b e
      obtain ⟨h1, h2⟩ := scF_end k (base + n) (bs.drop n) (by simp; omega)
      simp only [List.length_drop, List.drop_drop] at h1 h2
      exact ⟨by simp only []; omega, h2⟩

theorem sc_end (base : Int) (bs : List Int) : (sc base bs).2 ≤ bs.length ∧ frst (bs.drop (sc base bs).2) = none := scF_end bs.length base bs (Nat.le_refl _)
theorem sc_rest (base : Int) (bs : List Int) : bs.length - (sc base bs).2 ≤ 3 := by
  have h := frst_none _ (sc_end base bs).2
  simpa using h

end Go.Proofs.YtflehkdijfhmgabDoor
