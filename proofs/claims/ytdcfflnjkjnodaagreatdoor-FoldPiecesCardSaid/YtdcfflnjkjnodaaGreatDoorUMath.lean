/- Runes of texts: what Decode and Last answer, marks, edges, cuts: mathematics alone. -/
import Derived.Shelf.Unicode.DecodeAny
import Derived.Shelf.Unicode.DecodeLast
import Derived.Lib.DecodeN
import Derived.Lib.MapLaws
namespace Go.Proofs.YtdcfflnjkjnodaaGreatDoor
/-- A mark: the place, the width, the rune, whether it is a fault. -/
structure Mk where
  pl : Int
  wd : Int
  ru : Int
  bad : Bool
/-- What Decode answers. -/
def dec (l : List UInt8) : Nat × Nat := if l = [] then (0, 0) else Lib.decodeGo ⟨l.toArray⟩
/-- What Last answers. -/
def decLast (l : List UInt8) : Nat × Nat := if l = [] then (0, 0) else Lib.decodeLastL l
theorem ext_drop (l : List UInt8) (t : Nat) : (⟨l.toArray⟩ : ByteArray).extract t l.length = ⟨(l.drop t).toArray⟩ := by
  apply ByteArray.ext
  simp [ByteArray.data_extract, List.take_of_length_le]
/-- A byte of a text, as a number. -/
def byt (l : List UInt8) (i : Nat) : Int := ((l.getD i 0).toNat : Int)
theorem byt_bd (l : List UInt8) (i : Nat) : 0 ≤ byt l i ∧ byt l i < 256 := by
  have := (l.getD i 0).toNat_lt; unfold byt; omega
/-- Where the rune begins to which a byte belongs, looked for from so many places ahead on. -/
def bgF (l : List UInt8) (p : Nat) : Nat → Nat
  | 0 => p
  | f + 1 => if p < 3 - f then p else if Lib.runeStart (byt l (p - (3 - f))) then (if p < p - (3 - f) + (dec (l.drop (p - (3 - f)))).2 then p - (3 - f) else p) else bgF l p f
theorem dec_le4 (l : List UInt8) : (dec l).2 ≤ 4 := by
  unfold dec
  split
  · simp
  · unfold Lib.decodeGo
    split
    · simp
    · unfold Utf8.decode
      simp only []
      repeat' split
      all_goals simp
theorem byt_eq (l : List UInt8) (t : Nat) (h : t < (⟨l.toArray⟩ : ByteArray).size) : (((⟨l.toArray⟩ : ByteArray)[t]'h).toNat : Int) = byt l t := by
  have h' : t < l.length := by have : t < l.toArray.size := h; simpa using this
  unfold byt
  rw [show (⟨l.toArray⟩ : ByteArray)[t]'h = l[t] from rfl]
  simp [List.getD, h']
theorem bgF_out (l : List UInt8) (p f : Nat) (h : p < 4 - f) : bgF l p f = p := by
  cases f with
  | zero => rfl
  | succ f => unfold bgF; rw [if_pos (by omega)]
theorem bgF_more (l : List UInt8) (p f t : Nat) (ht : t + (3 - f) = p) (h : Lib.runeStart (byt l t) = false) : bgF l p (f + 1) = bgF l p f := by
  have e : p - (3 - f) = t := by omega
  conv => lhs; unfold bgF
  rw [if_neg (by omega), e, h]; simp
theorem bgF_in (l : List UInt8) (p f t : Nat) (ht : t + (3 - f) = p) (h : Lib.runeStart (byt l t) = true) (hn : p < t + (dec (l.drop t)).2) : bgF l p (f + 1) = t := by
  have e : p - (3 - f) = t := by omega
  unfold bgF
  rw [if_neg (by omega), e, h, if_pos rfl, if_pos hn]
theorem bgF_off (l : List UInt8) (p f t : Nat) (ht : t + (3 - f) = p) (h : Lib.runeStart (byt l t) = true) (hn : ¬ p < t + (dec (l.drop t)).2) : bgF l p (f + 1) = p := by
  have e : p - (3 - f) = t := by omega
  unfold bgF
  rw [if_neg (by omega), e, h, if_pos rfl, if_neg hn]
theorem beq_nat (a b : Nat) : (((a : Int) == (b : Int)) : Bool) = (a == b) := by
  rw [Bool.eq_iff_iff]; simp; omega
/-- What Is answers. -/
def isE (l : List UInt8) (p : Int) : Bool := if p ≤ 0 then p == 0 else if (l.length : Int) ≤ p then p == l.length else bgF l p.toNat 4 == p.toNat
theorem get_list (l : List UInt8) (i : Nat) : (⟨l.toArray⟩ : ByteArray).get! i = l.getD i 0 := by
  show l.toArray.getD i default = l.getD i 0
  by_cases h : i < l.length
  · simp [Array.getD, List.getD, h]
  · simp [Array.getD, List.getD, h]; rfl
theorem dec_numbers (l : List UInt8) (h : l ≠ []) : dec l = Lib.decodeN l.length (l.getD 0 0).toNat (l.getD 1 0).toNat (l.getD 2 0).toNat (l.getD 3 0).toNat := by
  unfold dec
  rw [if_neg h]
  unfold Lib.decodeGo
  have hs : (⟨l.toArray⟩ : ByteArray).size = l.length := by show l.toArray.size = _; simp
  rw [if_neg (by rw [hs]; exact fun e => h (List.length_eq_zero_iff.1 e)), Lib.decode_at, hs]
  simp only [get_list, Nat.zero_add, Nat.sub_zero]
theorem dec_eqL (l : List UInt8) (h : l ≠ []) : dec l = Lib.decodeL l := by
  unfold dec
  rw [if_neg h]
  unfold Lib.decodeGo
  have hs : (⟨l.toArray⟩ : ByteArray).size = l.length := by show l.toArray.size = _; simp
  rw [if_neg (by rw [hs]; exact fun e => h (List.length_eq_zero_iff.1 e))]
  rfl
theorem dec_ge (l : List UInt8) (h : l ≠ []) : 1 ≤ (dec l).2 := by rw [dec_eqL l h]; exact Lib.decodeL_width l
theorem dec_le (l : List UInt8) (h : l ≠ []) : (dec l).2 ≤ l.length := by rw [dec_eqL l h]; exact Lib.decodeL_le l h
theorem dec_rune (l : List UInt8) (h : l ≠ []) : (dec l).1 ≤ 1114111 := by rw [dec_eqL l h]; exact Lib.decodeL_rune l
/-- The mark of the first rune. -/
def mk1 (p : Nat) (l : List UInt8) : Mk := ⟨p, (dec l).2, (dec l).1, decide ((dec l).2 = 1) && decide ((dec l).1 = 65533)⟩
def mksF : Nat → Nat → List UInt8 → List Mk
  | 0, _, _ => []
  | k + 1, p, l => if l = [] then [] else mk1 p l :: mksF k (p + (dec l).2) (l.drop (dec l).2)
theorem mksF_any : ∀ (k k' p : Nat) (l : List UInt8), l.length ≤ k → l.length ≤ k' → mksF k p l = mksF k' p l
  | 0, 0, _, _, _, _ => rfl
  | 0, k' + 1, p, l, h, _ => by
    have : l = [] := List.length_eq_zero_iff.1 (by omega)
    subst this; simp [mksF]
  | k + 1, 0, p, l, _, h => by
    have : l = [] := List.length_eq_zero_iff.1 (by omega)
    subst this; simp [mksF]
  | k + 1, k' + 1, p, l, h, h' => by
    unfold mksF
    by_cases e : l = []
    · simp [e]
    · rw [if_neg e, if_neg e]
      have := dec_ge l e
      rw [mksF_any k k' (p + (dec l).2) (l.drop (dec l).2) (by simp; omega) (by simp; omega)]
/-- The marks of a text that begins at a place. -/
def mks (p : Nat) (l : List UInt8) : List Mk := mksF l.length p l
theorem mks_nil (p : Nat) : mks p [] = [] := rfl
theorem mks_cons (p : Nat) (l : List UInt8) (h : l ≠ []) : mks p l = mk1 p l :: mks (p + (dec l).2) (l.drop (dec l).2) := by
  have h1 := dec_ge l h
  have h2 := dec_le l h
  unfold mks
  rw [mksF_any l.length (l.length - 1 + 1) p l (by omega) (by omega)]
  conv => lhs; unfold mksF
  rw [if_neg h, mksF_any (l.length - 1) (l.drop (dec l).2).length _ _ (by simp; omega) (by omega)]
theorem get_drop (l : List UInt8) (t j : Nat) : (l.drop t).getD j 0 = l.getD (t + j) 0 := by simp [List.getD]
/-- What range finds at a place of a text is what Decode finds of the rest. -/
theorem decode_place (l : List UInt8) (t : Nat) (h : t < l.length) : Utf8.decode ⟨l.toArray⟩ t = dec (l.drop t) := by
  have hne : l.drop t ≠ [] := fun e => by have := congrArg List.length e; simp at this; omega
  have hs : (⟨l.toArray⟩ : ByteArray).size = l.length := by show l.toArray.size = _; simp
  rw [dec_numbers _ hne, Lib.decode_at, hs]
  simp only [get_list, get_drop, List.length_drop, Nat.add_zero]
def prs (l : List UInt8) : List (Int × Int) := (mks 0 l).map fun m => (m.pl, m.ru)
def prF (l : List UInt8) (t : Nat) : List (Int × Int) := (mks t (l.drop t)).map fun m => (m.pl, m.ru)
theorem prF_step (l : List UInt8) (t : Nat) (h : t < l.length) : prF l t = ((t : Int), ((dec (l.drop t)).1 : Int)) :: prF l (t + (dec (l.drop t)).2) := by
  have hne : l.drop t ≠ [] := fun e => by have := congrArg List.length e; simp at this; omega
  unfold prF
  rw [mks_cons t (l.drop t) hne, List.drop_drop]; rfl
theorem prF_end (l : List UInt8) (t : Nat) (h : ¬ t < l.length) : prF l t = [] := by
  unfold prF
  rw [List.drop_of_length_le (by omega), mks_nil]; rfl

theorem byt_drop (l : List UInt8) (t j : Nat) : byt (l.drop t) j = byt l (t + j) := by simp [byt, List.getD]

/-- How many bytes the rune has that begins at a place. -/
def wid (l : List UInt8) (t : Nat) : Nat := (dec (l.drop t)).2
theorem drop_ne (l : List UInt8) (t : Nat) (h : t < l.length) : l.drop t ≠ [] := fun e => by have := congrArg List.length e; simp at this; omega
theorem wid_ge (l : List UInt8) (t : Nat) (h : t < l.length) : 1 ≤ wid l t := dec_ge _ (drop_ne l t h)
theorem wid_le (l : List UInt8) (t : Nat) (h : t < l.length) : t + wid l t ≤ l.length := by
  have := dec_le _ (drop_ne l t h); simp only [List.length_drop] at this; unfold wid; omega
theorem wid_le4 (l : List UInt8) (t : Nat) : wid l t ≤ 4 := dec_le4 _

/-- Within a rune lie bytes that begin none; its first byte may begin one. -/
theorem dec_inner (l : List UInt8) (h : l ≠ []) (j : Nat) (h1 : 1 ≤ j) (h2 : j < (dec l).2) : Lib.runeStart (byt l j) = false ∧ Lib.runeStart (byt l 0) = true := by
  have h4 := dec_le4 l
  have hj : j = 1 ∨ j = 2 ∨ j = 3 := by omega
  have key : byt l j / 64 = 2 ∧ ¬ byt l 0 / 64 = 2 := by
    rw [dec_numbers l h] at h2
    rcases hj with rfl | rfl | rfl
    all_goals
      unfold byt
      generalize (l.getD 0 0).toNat = b0 at *
      generalize (l.getD 1 0).toNat = b1 at *
      generalize (l.getD 2 0).toNat = b2 at *
      generalize (l.getD 3 0).toNat = b3 at *
      unfold Lib.decodeN at h2
      split at h2
      · exfalso; simp at h2
      · split at h2
        · split at h2
          · simp at h2 <;> omega
          · exfalso; simp at h2
        · split at h2
          · split at h2
            · simp at h2 <;> omega
            · exfalso; simp at h2
          · split at h2
            · split at h2
              · simp at h2 <;> omega
              · exfalso; simp at h2
            · exfalso; simp at h2
  unfold Lib.runeStart
  simp [key]

theorem wid_inner (l : List UInt8) (t q : Nat) (ht : t < l.length) (h1 : t < q) (h2 : q < t + wid l t) : Lib.runeStart (byt l q) = false ∧ Lib.runeStart (byt l t) = true := by
  have h := dec_inner (l.drop t) (drop_ne l t ht) (q - t) (by omega) (by unfold wid at h2; omega)
  rw [byt_drop, byt_drop] at h
  rw [show t + (q - t) = q by omega, Nat.add_zero] at h
  exact h

theorem mks_at (l : List UInt8) (t : Nat) (h : t < l.length) : mks t (l.drop t) = mk1 t (l.drop t) :: mks (t + wid l t) (l.drop (t + wid l t)) := by
  rw [mks_cons t (l.drop t) (drop_ne l t h), List.drop_drop]; rfl
theorem mks_end (l : List UInt8) (t : Nat) (h : ¬ t < l.length) : mks t (l.drop t) = [] := by rw [List.drop_of_length_le (by omega)]; rfl

theorem mks_ge (l : List UInt8) : ∀ (n t : Nat), l.length - t ≤ n → ∀ m ∈ mks t (l.drop t), (t : Int) ≤ m.pl ∧ m.pl < l.length
  | 0, t, h, m, hm => by rw [mks_end l t (by omega)] at hm; cases hm
  | n + 1, t, h, m, hm => by
    by_cases ht : t < l.length
    · rw [mks_at l t ht] at hm
      have hw := wid_ge l t ht
      rcases List.mem_cons.1 hm with rfl | hm
      · exact ⟨Int.le_refl _, by show (t : Int) < _; omega⟩
      · have := mks_ge l n (t + wid l t) (by omega) m hm
        omega
    · rw [mks_end l t ht] at hm; cases hm

/-- The rune to which a byte belongs. -/
theorem locate (l : List UInt8) (q : Nat) (hq : q < l.length) : ∀ (n t : Nat), l.length - t ≤ n → t ≤ q →
    ∃ (e : Nat) (P : List Mk), t ≤ e ∧ e ≤ q ∧ q < e + wid l e ∧ mks t (l.drop t) = P ++ mk1 e (l.drop e) :: mks (e + wid l e) (l.drop (e + wid l e)) ∧ ∀ m ∈ P, m.pl < (e : Int)
  | 0, t, h, ht => by omega
  | n + 1, t, h, ht => by
    have htl : t < l.length := by omega
    have hw := wid_ge l t htl
    by_cases hc : q < t + wid l t
    · exact ⟨t, [], Nat.le_refl _, ht, hc, mks_at l t htl, fun m hm => by cases hm⟩
    · obtain ⟨e, P, h1, h2, h3, h4, h5⟩ := locate l q hq n (t + wid l t) (by omega) (by omega)
      refine ⟨e, mk1 t (l.drop t) :: P, by omega, h2, h3, by rw [mks_at l t htl, h4]; rfl, fun m hm => ?_⟩
      rcases List.mem_cons.1 hm with rfl | hm
      · show (t : Int) < e; omega
      · exact h5 m hm

/-- An edge behind another lies behind its rune. -/
theorem chain (l : List UInt8) (e x : Nat) (P : List Mk) (h : mks 0 l = P ++ mk1 e (l.drop e) :: mks (e + wid l e) (l.drop (e + wid l e))) (hP : ∀ m ∈ P, m.pl < (e : Int)) (hx : ∃ m ∈ mks 0 l, m.pl = (x : Int)) (hlt : e < x) : e + wid l e ≤ x := by
  obtain ⟨m, hm, he⟩ := hx
  rw [h] at hm
  rcases List.mem_append.1 hm with hm | hm
  · have := hP m hm; omega
  · rcases List.mem_cons.1 hm with rfl | hm
    · have : (e : Int) = x := he
      omega
    · have := (mks_ge l (l.length - (e + wid l e)) (e + wid l e) (Nat.le_refl _) m hm).1
      omega

theorem bgF_tail (l : List UInt8) (q : Nat) (h : ∀ t, t < q → Lib.runeStart (byt l t) = true → ¬ q < t + wid l t) : ∀ f, f ≤ 3 → bgF l q f = q
  | 0, _ => rfl
  | f + 1, hf => by
    by_cases ho : q < 4 - (f + 1)
    · exact bgF_out l q (f + 1) ho
    · have ht : (q - (3 - f)) + (3 - f) = q := by omega
      cases hr : Lib.runeStart (byt l (q - (3 - f))) with
      | false => rw [bgF_more l q f _ ht hr]; exact bgF_tail l q h f (by omega)
      | true => exact bgF_off l q f _ ht hr (h _ (by omega) hr)

/-- begin finds where the rune begins. -/
theorem begin_is (l : List UInt8) (q e : Nat) (P : List Mk) (hq : q < l.length) (h1 : e ≤ q) (h2 : q < e + wid l e) (h : mks 0 l = P ++ mk1 e (l.drop e) :: mks (e + wid l e) (l.drop (e + wid l e))) : bgF l q 4 = e := by
  have h4 := wid_le4 l e
  have hel : e < l.length := by omega
  by_cases he : e = q
  · subst he
    cases hr : Lib.runeStart (byt l e) with
    | true => exact bgF_in l e 3 e (by omega) hr (by exact h2)
    | false =>
      rw [bgF_more l e 3 e (by omega) hr]
      refine bgF_tail l e (fun t ht hs hc => ?_) 3 (Nat.le_refl _)
      obtain ⟨e', P', g1, g2, g3, g4, g5⟩ := locate l t (by omega) l.length 0 (by omega) (Nat.zero_le _)
      have ee : e' = t := by
        rcases Nat.lt_or_ge e' t with hlt | hge
        · have := (wid_inner l e' t (by omega) hlt g3).1
          rw [this] at hs; cases hs
        · omega
      subst ee
      have := chain l e' e P' g4 g5 ⟨mk1 e (l.drop e), by rw [h]; simp, rfl⟩ ht
      omega
  · have hin : ∀ t, e < t → t ≤ q → Lib.runeStart (byt l t) = false := fun t a b => (wid_inner l e t hel a (by omega)).1
    have hst : Lib.runeStart (byt l e) = true := (wid_inner l e q hel (by omega) h2).2
    have hj : q = e + 1 ∨ q = e + 2 ∨ q = e + 3 := by omega
    rcases hj with rfl | rfl | rfl
    · rw [bgF_more l (e + 1) 3 (e + 1) (by omega) (hin _ (by omega) (by omega))]
      exact bgF_in l (e + 1) 2 e (by omega) hst h2
    · rw [bgF_more l (e + 2) 3 (e + 2) (by omega) (hin _ (by omega) (by omega)), bgF_more l (e + 2) 2 (e + 1) (by omega) (hin _ (by omega) (by omega))]
      exact bgF_in l (e + 2) 1 e (by omega) hst h2
    · rw [bgF_more l (e + 3) 3 (e + 3) (by omega) (hin _ (by omega) (by omega)), bgF_more l (e + 3) 2 (e + 2) (by omega) (hin _ (by omega) (by omega)), bgF_more l (e + 3) 1 (e + 1) (by omega) (hin _ (by omega) (by omega))]
      exact bgF_in l (e + 3) 0 e (by omega) hst h2

/-- The edges of a text. -/
def edg (l : List UInt8) : List Int := (mks 0 l).map (·.pl) ++ [(l.length : Int)]
def isL (E : List Int) (p : Int) : Bool := E.any (fun e => e == p)
def backL (E : List Int) (p : Int) : Int := E.foldl (fun b e => if e < p then e else b) 0
def onL (E : List Int) (p d : Int) : Int := (E.find? (fun e => decide (p < e))).getD d

def backE (l : List UInt8) (p : Int) : Int := if p ≤ 0 then 0 else if (l.length : Int) < p then l.length else bgF l (p.toNat - 1) 4
def onE (l : List UInt8) (p : Int) : Int := if p < 0 then 0 else if (l.length : Int) ≤ p then l.length else (bgF l p.toNat 4 : Int) + wid l (bgF l p.toNat 4)

theorem pl_ge (l : List UInt8) : ∀ m ∈ mks 0 l, 0 ≤ m.pl ∧ m.pl < l.length := fun m hm => by
  have h := mks_ge l l.length 0 (by omega) m (by simpa using hm)
  exact ⟨h.1, h.2⟩
theorem edg_bd (l : List UInt8) (x : Int) (hx : x ∈ edg l) : 0 ≤ x ∧ x ≤ l.length := by
  unfold edg at hx
  rcases List.mem_append.1 hx with h | h
  · obtain ⟨m, hm, rfl⟩ := List.mem_map.1 h
    have := pl_ge l m hm; omega
  · simp at h; omega
theorem edg_len (l : List UInt8) : (l.length : Int) ∈ edg l := by simp [edg]
theorem edg_head (l : List UInt8) : ∃ R, edg l = 0 :: R := by
  by_cases h : l = []
  · subst h; exact ⟨[], rfl⟩
  · unfold edg
    rw [mks_cons 0 l h]
    exact ⟨_, rfl⟩

/-- The list of edges, parted at a byte. -/
theorem edg_parts (l : List UInt8) (q : Nat) (hq : q < l.length) : ∃ (e : Nat) (U V : List Int), edg l = U ++ (e : Int) :: V ∧ (∀ x ∈ U, x < (e : Int)) ∧ e ≤ q ∧ q < e + wid l e ∧ bgF l q 4 = e ∧
    (∀ x ∈ V, ((e + wid l e : Nat) : Int) ≤ x) ∧ ∃ R, V = ((e + wid l e : Nat) : Int) :: R := by
  obtain ⟨e, P, g1, g2, g3, g4, g5⟩ := locate l q hq l.length 0 (by omega) (Nat.zero_le _)
  have g4' : mks 0 l = P ++ mk1 e (l.drop e) :: mks (e + wid l e) (l.drop (e + wid l e)) := by simpa using g4
  have hel : e < l.length := by omega
  have hwl := wid_le l e hel
  refine ⟨e, P.map (·.pl), (mks (e + wid l e) (l.drop (e + wid l e))).map (·.pl) ++ [(l.length : Int)], ?_, ?_, g2, g3, begin_is l q e P hq g2 g3 g4', ?_, ?_⟩
  · unfold edg; rw [g4']; simp [mk1]
  · intro x hx
    obtain ⟨m, hm, rfl⟩ := List.mem_map.1 hx
    exact g5 m hm
  · intro x hx
    rcases List.mem_append.1 hx with h | h
    · obtain ⟨m, hm, rfl⟩ := List.mem_map.1 h
      exact (mks_ge l (l.length - (e + wid l e)) (e + wid l e) (Nat.le_refl _) m hm).1
    · simp at h; omega
  · by_cases h : e + wid l e < l.length
    · rw [mks_at l _ h]; exact ⟨_, rfl⟩
    · rw [mks_end l _ h]
      have : e + wid l e = l.length := by omega
      rw [this]; exact ⟨[], rfl⟩

theorem is_eq (l : List UInt8) (p : Int) : isE l p = isL (edg l) p := by
  have no : (∀ x ∈ edg l, x ≠ p) → isL (edg l) p = false := fun h => by
    unfold isL; rw [List.any_eq_false]; intro x hx; simpa using h x hx
  have yes : p ∈ edg l → isL (edg l) p = true := fun h => by
    unfold isL; rw [List.any_eq_true]; exact ⟨p, h, by simp⟩
  unfold isE
  by_cases h1 : p ≤ 0
  · rw [if_pos h1]
    by_cases h0 : p = 0
    · obtain ⟨R, hR⟩ := edg_head l
      rw [yes (by rw [hR, h0]; simp), h0]; rfl
    · rw [no fun x hx => by have := edg_bd l x hx; omega]
      simpa using h0
  · rw [if_neg h1]
    by_cases h2 : (l.length : Int) ≤ p
    · rw [if_pos h2]
      by_cases h0 : p = l.length
      · rw [yes (by rw [h0]; exact edg_len l), h0]; simp
      · rw [no fun x hx => by have := edg_bd l x hx; omega]
        simpa using h0
    · rw [if_neg h2]
      obtain ⟨q, rfl⟩ : ∃ q : Nat, p = q := ⟨p.toNat, by omega⟩
      obtain ⟨e, U, V, hE, hU, h3, h4, hb, hV, _⟩ := edg_parts l q (by omega)
      rw [Int.toNat_natCast, hb]
      by_cases he : e = q
      · subst he
        rw [yes (by rw [hE]; simp)]; simp
      · rw [no fun x hx => ?_]
        · simpa using he
        · rw [hE] at hx
          rcases List.mem_append.1 hx with h | h
          · have := hU x h; omega
          · rcases List.mem_cons.1 h with rfl | h
            · omega
            · have := hV x h; omega

theorem fold_ge (p : Int) : ∀ (V : List Int) (b : Int), (∀ x ∈ V, ¬ x < p) → V.foldl (fun b e => if e < p then e else b) b = b
  | [], b, _ => rfl
  | x :: V, b, h => by
    rw [List.foldl_cons, if_neg (h x (by simp))]
    exact fold_ge p V b fun y hy => h y (by simp [hy])

theorem back_eq (l : List UInt8) (p : Int) : backE l p = backL (edg l) p := by
  unfold backE backL
  by_cases h1 : p ≤ 0
  · rw [if_pos h1, fold_ge p _ _ fun x hx => by have := edg_bd l x hx; omega]
  · rw [if_neg h1]
    by_cases h2 : (l.length : Int) < p
    · rw [if_pos h2]
      unfold edg
      rw [List.foldl_append, List.foldl_cons, List.foldl_nil, if_pos h2]
    · rw [if_neg h2]
      obtain ⟨e, U, V, hE, hU, h3, h4, hb, hV, _⟩ := edg_parts l (p.toNat - 1) (by omega)
      rw [hb, hE, List.foldl_append, List.foldl_cons, if_pos (by omega), fold_ge p V _ fun x hx => by have := hV x hx; omega]

theorem find_gt (p : Int) (U W : List Int) (h : ∀ x ∈ U, ¬ p < x) : (U ++ W).find? (fun e => decide (p < e)) = W.find? (fun e => decide (p < e)) := by
  rw [List.find?_append]
  have : U.find? (fun e => decide (p < e)) = none := List.find?_eq_none.2 fun x hx => by simpa using h x hx
  rw [this]; simp

theorem on_eq (l : List UInt8) (p : Int) : onE l p = onL (edg l) p l.length := by
  unfold onE onL
  by_cases h1 : p < 0
  · obtain ⟨R, hR⟩ := edg_head l
    rw [if_pos h1, hR, List.find?_cons, decide_eq_true h1]; rfl
  · rw [if_neg h1]
    by_cases h2 : (l.length : Int) ≤ p
    · rw [if_pos h2, List.find?_eq_none.2 fun x hx => by have := edg_bd l x hx; simp; omega]; rfl
    · rw [if_neg h2]
      obtain ⟨q, rfl⟩ : ∃ q : Nat, p = q := ⟨p.toNat, by omega⟩
      obtain ⟨e, U, V, hE, hU, h3, h4, hb, hV, R, hR⟩ := edg_parts l q (by omega)
      rw [Int.toNat_natCast, hb, hE, find_gt _ _ _ fun x hx => by have := hU x hx; omega, List.find?_cons, decide_eq_false (by omega), hR]
      simp only []
      rw [List.find?_cons, decide_eq_true (by omega)]
      simp

theorem getD_take (l : List UInt8) (n i : Nat) : ((l.take n).getD i 0).toNat = if i < n then (l.getD i 0).toNat else 0 := by
  by_cases h : i < n <;> simp [List.getD, List.getElem?_take, h]

theorem decodeN_cut (N n b0 b1 b2 b3 : Nat) (h1 : 1 ≤ n) (h : (Lib.decodeN N b0 b1 b2 b3).2 ≤ n) :
    Lib.decodeN (min n N) b0 (if 1 < n then b1 else 0) (if 2 < n then b2 else 0) (if 3 < n then b3 else 0) = Lib.decodeN N b0 b1 b2 b3 := by
  have c : n = 1 ∨ n = 2 ∨ n = 3 ∨ 4 ≤ n := by omega
  rcases c with rfl | rfl | rfl | c
  · simp only [Nat.lt_irrefl, if_false, Nat.reduceLT]
    unfold Lib.decodeN at *
    revert h
    repeat' split
    all_goals first | (intro h; dsimp only at h; exfalso; omega) | (intro _; rfl)
  · simp only [Nat.lt_irrefl, if_false, if_true, Nat.reduceLT]
    unfold Lib.decodeN at *
    revert h
    repeat' split
    all_goals first | (intro h; dsimp only at h; exfalso; omega) | (intro _; rfl)
  · simp only [Nat.lt_irrefl, if_false, if_true, Nat.reduceLT]
    unfold Lib.decodeN at *
    revert h
    repeat' split
    all_goals first | (intro h; dsimp only at h; exfalso; omega) | (intro _; rfl)
  · rw [if_pos (by omega), if_pos (by omega), if_pos (by omega)]
    unfold Lib.decodeN
    have e1 : (1 < min n N) = (1 < N) := propext ⟨fun h => by omega, fun h => by omega⟩
    have e2 : (2 < min n N) = (2 < N) := propext ⟨fun h => by omega, fun h => by omega⟩
    have e3 : (3 < min n N) = (3 < N) := propext ⟨fun h => by omega, fun h => by omega⟩
    simp only [e1, e2, e3]

theorem dec_take (l : List UInt8) (h : l ≠ []) (n : Nat) (hn : (dec l).2 ≤ n) : dec (l.take n) = dec l := by
  have h1 := dec_ge l h
  have hp : 0 < l.length := List.length_pos_iff.2 h
  have hne : l.take n ≠ [] := fun e => by have := congrArg List.length e; rw [List.length_take] at this; simp only [List.length_nil] at this; omega
  have hn1 : 1 ≤ n := by omega
  rw [dec_numbers _ hne, dec_numbers l h, List.length_take]
  rw [dec_numbers l h] at hn
  simp only [getD_take]
  rw [if_pos (by omega : 0 < n)]
  exact decodeN_cut _ _ _ _ _ _ (by omega) hn

theorem last_cut (l : List UInt8) : ∀ (n t : Nat), l.length - t ≤ n → t < l.length →
    ∃ e, t ≤ e ∧ e < l.length ∧ e + wid l e = l.length ∧ mks t (l.drop t) = mks t ((l.take e).drop t) ++ [mk1 e (l.drop e)]
  | 0, t, h, ht => by omega
  | n + 1, t, h, ht => by
    have h1 := wid_ge l t ht
    have h2 := wid_le l t ht
    by_cases hc : t + wid l t = l.length
    · refine ⟨t, Nat.le_refl _, ht, hc, ?_⟩
      rw [mks_at l t ht, hc, mks_end l l.length (by omega), (show (l.take t).drop t = [] from List.drop_of_length_le (by simp; omega)), mks_nil]; rfl
    · obtain ⟨e, g1, g2, g3, g4⟩ := last_cut l n (t + wid l t) (by omega) (by omega)
      refine ⟨e, by omega, g2, g3, ?_⟩
      have hd : (l.take e).drop t = (l.drop t).take (e - t) := List.drop_take ..
      have hl : (l.take e).length = e := by simp; omega
      have hdec : dec ((l.take e).drop t) = dec (l.drop t) := by rw [hd]; exact dec_take _ (drop_ne l t ht) _ (by unfold wid at g1; omega)
      have hw : wid (l.take e) t = wid l t := by unfold wid; rw [hdec]
      rw [mks_at l t ht, g4, mks_at (l.take e) t (by omega), hw]
      have hm : mk1 t ((l.take e).drop t) = mk1 t (l.drop t) := by unfold mk1; rw [hdec]
      rw [hm]; rfl

theorem last_parts (l : List UInt8) (h : l ≠ []) : ∃ e, e < l.length ∧ e + wid l e = l.length ∧ mks 0 l = mks 0 (l.take e) ++ [mk1 e (l.drop e)] := by
  obtain ⟨e, _, g2, g3, g4⟩ := last_cut l l.length 0 (by omega) (List.length_pos_iff.2 h)
  exact ⟨e, g2, g3, by simpa using g4⟩

/-- A byte that starts a rune is an edge, and its rune ends ahead of the next edge. -/
theorem start_chain (l : List UInt8) (s e : Nat) (hs : s < l.length) (hr : Lib.runeStart (byt l s) = true) (he : ∃ m ∈ mks 0 l, m.pl = (e : Int)) (hlt : s < e) : s + wid l s ≤ e := by
  obtain ⟨e', P', g1, g2, g3, g4, g5⟩ := locate l s hs l.length 0 (by omega) (Nat.zero_le _)
  have ee : e' = s := by
    rcases Nat.lt_or_ge e' s with hlt | hge
    · have := (wid_inner l e' s (by omega) hlt g3).1
      rw [this] at hr; cases hr
    · omega
  subst ee
  exact chain l e' e P' g4 g5 he hlt

theorem startB (l : List UInt8) (i : Nat) : Lib.runeStartB (l.getD i 0) = Lib.runeStart (byt l i) := Lib.runeStartB_eq _

theorem lastStart_le (l : List UInt8) (h : 2 ≤ l.length) : Lib.lastStart l ≤ l.length - 2 := by
  unfold Lib.lastStart
  simp only
  repeat' split
  all_goals omega

theorem last_is (l : List UInt8) (h : l ≠ []) (e : Nat) (he : e < l.length) (hw : e + wid l e = l.length) (hm : mks 0 l = mks 0 (l.take e) ++ [mk1 e (l.drop e)]) : decLast l = dec (l.drop e) := by
  have hp : 0 < l.length := List.length_pos_iff.2 h
  have hge := wid_ge l e he
  have h4 := wid_le4 l e
  unfold decLast
  rw [if_neg h]
  unfold Lib.decodeLastL
  rw [if_neg h]
  by_cases h1 : wid l e = 1
  · have ee : e = l.length - 1 := by omega
    have hdl : (l.drop e).length = 1 := by simp; omega
    have hb0 : (l.drop e).getD 0 0 = l.getD e 0 := by simp [List.getD]
    have hN : dec (l.drop e) = if (l.getD e 0).toNat < 128 then ((l.getD e 0).toNat, 1) else (65533, 1) := by
      rw [dec_numbers _ (drop_ne l e he), hdl, hb0]
      unfold Lib.decodeN
      simp
    rw [hN, ← ee]
    by_cases ha : (l.getD e 0).toNat < 128
    · rw [if_pos ha, if_pos ha]
    · rw [if_neg ha, if_neg ha]
      by_cases hl1 : l.length = 1
      · have hs := Lib.lastStart_one l hl1
        have e0 : e = 0 := by omega
        simp only [hs]
        rw [← dec_eqL _ (drop_ne l 0 hp)]
        rw [e0] at hN ha
        rw [hN, if_neg ha]
        simp [Utf8.runeError]
      · have hsl := lastStart_le l (by omega)
        have hslt : Lib.lastStart l < l.length := by omega
        simp only
        rw [← dec_eqL _ (drop_ne l _ hslt), if_neg]
        · rfl
        · intro hc
          change Lib.lastStart l + wid l (Lib.lastStart l) = l.length at hc
          generalize Lib.lastStart l = s at *
          cases hr : Lib.runeStart (byt l s) with
          | true =>
            have := start_chain l s e hslt hr ⟨mk1 e (l.drop e), by rw [hm]; simp, rfl⟩ (by omega)
            omega
          | false =>
            have hg := wid_ge l s hslt
            have : ¬ 1 < wid l s := fun hw1 => by
              have := (wid_inner l s (s + 1) hslt (by omega) (by omega)).2
              rw [this] at hr; cases hr
            omega
  · have hlast := (wid_inner l e (l.length - 1) he (by omega) (by omega)).1
    have hst := (wid_inner l e (l.length - 1) he (by omega) (by omega)).2
    have ha : ¬ (l.getD (l.length - 1) 0).toNat < 128 := by
      have : ((l.getD (l.length - 1) 0).toNat : Int) / 64 = 2 := by simpa [Lib.runeStart, byt] using hlast
      omega
    rw [if_neg ha]
    have hs : Lib.lastStart l = e := by
      have hc : wid l e = 2 ∨ wid l e = 3 ∨ wid l e = 4 := by omega
      rcases hc with hc | hc | hc
      · exact Lib.lastStart_at2 l e (by omega) (by rw [startB]; exact hst)
      · exact Lib.lastStart_at3 l e (by omega) (by rw [startB]; exact (wid_inner l e (e + 1) he (by omega) (by omega)).1) (by rw [startB]; exact hst)
      · exact Lib.lastStart_at4 l e (by omega) (by rw [startB]; exact (wid_inner l e (e + 2) he (by omega) (by omega)).1) (by rw [startB]; exact (wid_inner l e (e + 1) he (by omega) (by omega)).1) (by rw [startB]; exact hst)
    simp only [hs]
    rw [← dec_eqL _ (drop_ne l e he), if_pos (show e + (dec (l.drop e)).2 = l.length from hw)]

/-- The last rune, its width, where it begins, and what lies ahead. -/
theorem last_step (l : List UInt8) (h : l ≠ []) : ∃ e n c : Nat, decLast l = (c, n) ∧ 1 ≤ n ∧ e + n = l.length ∧ c ≤ 1114111 ∧ bgF l (l.length - 1) 4 = e ∧ prs l = prs (l.take e) ++ [((e : Int), (c : Int))] := by
  obtain ⟨e, h1, h2, h3⟩ := last_parts l h
  refine ⟨e, wid l e, (dec (l.drop e)).1, last_is l h e h1 h2 h3, wid_ge l e h1, h2, dec_rune _ (drop_ne l e h1), ?_, ?_⟩
  · refine begin_is l (l.length - 1) e (mks 0 (l.take e)) (by omega) (by omega) (by omega) ?_
    rw [h3, mks_end l (e + wid l e) (by omega)]
  · unfold prs
    rw [h3, List.map_append]; rfl
/-- A mark, so many bytes further on. -/
def Mk.on (e : Nat) (m : Mk) : Mk := { m with pl := m.pl + e }
theorem mks_shift (e : Nat) : ∀ (n k : Nat) (l : List UInt8), l.length ≤ n → mks (e + k) l = (mks k l).map (Mk.on e)
  | 0, k, l, h => by
    have : l = [] := List.length_eq_zero_iff.1 (by omega)
    subst this; rfl
  | n + 1, k, l, h => by
    by_cases hl : l = []
    · subst hl; rfl
    · have h1 := dec_ge l hl
      have hp : 0 < l.length := List.length_pos_iff.2 hl
      rw [mks_cons _ l hl, mks_cons k l hl, Nat.add_assoc, mks_shift e n (k + (dec l).2) (l.drop (dec l).2) (by simp; omega), List.map_cons]
      congr 1
      unfold mk1 Mk.on
      simp
      omega
theorem mks_cut (l : List UInt8) (e : Nat) (he : e ≤ l.length) : ∀ (n t : Nat), l.length - t ≤ n → t ≤ e → (e = l.length ∨ ∃ m ∈ mks t (l.drop t), m.pl = (e : Int)) →
    mks t (l.drop t) = mks t ((l.take e).drop t) ++ mks e (l.drop e)
  | 0, t, h, ht, hm => by
    obtain rfl : t = e := by omega
    rw [show (l.take t).drop t = [] from List.drop_of_length_le (by simp; omega), mks_nil]; rfl
  | n + 1, t, h, ht, hm => by
    by_cases hte : t = e
    · subst hte
      rw [show (l.take t).drop t = [] from List.drop_of_length_le (by simp; omega), mks_nil]; rfl
    · have htl : t < l.length := by omega
      have h1 := wid_ge l t htl
      have h2 := wid_le l t htl
      have hm' : e = l.length ∨ ∃ m ∈ mks (t + wid l t) (l.drop (t + wid l t)), m.pl = (e : Int) := by
        rcases hm with hm | ⟨m, hm, hme⟩
        · exact .inl hm
        · rw [mks_at l t htl] at hm
          rcases List.mem_cons.1 hm with rfl | hm
          · exfalso
            have : (t : Int) = e := hme
            omega
          · exact .inr ⟨m, hm, hme⟩
      have hge : t + wid l t ≤ e := by
        rcases hm' with hm' | ⟨m, hm', hme⟩
        · omega
        · have := (mks_ge l (l.length - (t + wid l t)) (t + wid l t) (Nat.le_refl _) m hm').1
          omega
      have hn' : l.length - (t + wid l t) ≤ n := by clear hm hm'; omega
      have g4 := mks_cut l e he n (t + wid l t) hn' hge hm'
      clear hm hm'
      have hd : (l.take e).drop t = (l.drop t).take (e - t) := List.drop_take ..
      have hl : (l.take e).length = e := by simp; omega
      have hdec : dec ((l.take e).drop t) = dec (l.drop t) := by rw [hd]; exact dec_take _ (drop_ne l t htl) _ (by unfold wid at hge; omega)
      have hw : wid (l.take e) t = wid l t := by unfold wid; rw [hdec]
      rw [mks_at l t htl, g4, mks_at (l.take e) t (by omega), hw]
      have hmk : mk1 t ((l.take e).drop t) = mk1 t (l.drop t) := by unfold mk1; rw [hdec]
      rw [hmk]; rfl
theorem cut_edge (l : List UInt8) (e : Nat) (h : isE l e = true) : e ≤ l.length ∧ (e : Int) ∈ edg l := by
  rw [is_eq] at h
  unfold isL at h
  obtain ⟨x, hx, he⟩ := List.any_eq_true.1 h
  have : x = (e : Int) := by simpa using he
  subst this
  have := edg_bd l _ hx
  exact ⟨by omega, hx⟩
theorem cut_mks (l : List UInt8) (e : Nat) (h : isE l e = true) : mks 0 l = mks 0 (l.take e) ++ (mks 0 (l.drop e)).map (Mk.on e) := by
  obtain ⟨he, hx⟩ := cut_edge l e h
  have hm : e = l.length ∨ ∃ m ∈ mks 0 (l.drop 0), m.pl = (e : Int) := by
    unfold edg at hx
    rcases List.mem_append.1 hx with hx | hx
    · obtain ⟨m, hm, hp⟩ := List.mem_map.1 hx
      exact .inr ⟨m, by simpa using hm, hp⟩
    · simp at hx; exact .inl (by omega)
  have := mks_cut l e he l.length 0 (by omega) (Nat.zero_le _) hm
  rw [List.drop_zero, List.drop_zero] at this
  rw [this, ← mks_shift e (l.drop e).length 0 (l.drop e) (Nat.le_refl _)]; rfl
/-- The runes of a text; the places of its faults. -/
def rns (l : List UInt8) : List Int := (mks 0 l).map (·.ru)
theorem cut_rns (l : List UInt8) (e : Nat) (h : isE l e = true) : rns l = rns (l.take e) ++ rns (l.drop e) := by
  unfold rns
  rw [cut_mks l e h, List.map_append, List.map_map]; rfl
end Go.Proofs.YtdcfflnjkjnodaaGreatDoor
