/- The document's reading of a rune's spelling, the mathematics. -/
import Derived.Test.YtfahbdlcokoghabDoorParse
import Derived.Test.YtfahbdlcokoghabDoorRRunes
import Derived.Lib.ValidLaws
namespace Go.Proofs.YtfahbdlcokoghabDoor
open Go.RowKit

theorem getD_take (l : List UInt8) (n i : Nat) : ((l.take n).getD i 0).toNat = if i < n then (l.getD i 0).toNat else 0 := by
  by_cases h : i < n <;> simp [List.getD, List.getElem?_take, h]
theorem decodeN_cut (N n b0 b1 b2 b3 : Nat) (h1 : 1 ≤ n) (h : (Lib.decodeN N b0 b1 b2 b3).2 ≤ n) :
    Lib.decodeN (min n N) b0 (if 1 < n then b1 else 0) (if 2 < n then b2 else 0) (if 3 < n then b3 else 0) = Lib.decodeN N b0 b1 b2 b3 := by
  have c : n = 1 ∨ n = 2 ∨ n = 3 ∨ 4 ≤ n := by omega
  rcases c with rfl | rfl | rfl | c
  · simp only [Nat.lt_irrefl, if_false, Nat.reduceLT]
    unfold Lib.decodeN at *
    revert h
    repeat' split
    all_goals first | (intro h; dsimp only at h; exfalso; omega) | (intro _; rfl)
  · simp only [Nat.lt_irrefl, if_false, if_true, Nat.reduceLT]
    unfold Lib.decodeN at *
    revert h
    repeat' split
    all_goals first | (intro h; dsimp only at h; exfalso; omega) | (intro _; rfl)
  · simp only [Nat.lt_irrefl, if_false, if_true, Nat.reduceLT]
    unfold Lib.decodeN at *
    revert h
    repeat' split
    all_goals first | (intro h; dsimp only at h; exfalso; omega) | (intro _; rfl)
  · rw [if_pos (by omega), if_pos (by omega), if_pos (by omega)]
    unfold Lib.decodeN
    have e1 : (1 < min n N) = (1 < N) := propext ⟨fun h => by omega, fun h => by omega⟩
    have e2 : (2 < min n N) = (2 < N) := propext ⟨fun h => by omega, fun h => by omega⟩
    have e3 : (3 < min n N) = (3 < N) := propext ⟨fun h => by omega, fun h => by omega⟩
    simp only [e1, e2, e3]
theorem dec_take (l : List UInt8) (h : l ≠ []) (n : Nat) (hn : (dec l).2 ≤ n) : dec (l.take n) = dec l := by
  have h1 := dec_ge l h
  have hp : 0 < l.length := List.length_pos_iff.2 h
  have hne : l.take n ≠ [] := fun e => by have := congrArg List.length e; rw [List.length_take] at this; simp only [List.length_nil] at this; omega
  rw [dec_eqL _ hne, dec_eqL l h, Lib.decodeL_N, Lib.decodeL_N, List.length_take]
  have hn1 : 1 ≤ n := by omega
  rw [dec_eqL l h, Lib.decodeL_N] at hn
  simp only [getD_take]
  rw [if_pos (by omega : 0 < n)]
  exact decodeN_cut _ _ _ _ _ _ (by omega) hn
theorem dec_take4 (l : List UInt8) (n : Nat) (hn : 4 ≤ n) : dec (l.take n) = dec l := by
  by_cases h : l = []
  · subst h; simp
  · exact dec_take l h n (by have := dec_le4 l; omega)
theorem dec_zero (l : List UInt8) (h : l ≠ []) : Utf8.decode ⟨l.toArray⟩ 0 = dec l := by rw [dec_eqL l h]; rfl
theorem txt_nil : txt [] = [] := rfl
theorem txt_first (l : List UInt8) (h : l ≠ []) : (txt l)[0]? = some (((dec l).1 : Int), 0, (dec l).2) ∧ 0 < (txt l).length := by
  have hp : 0 < l.length := List.length_pos_iff.2 h
  have h1 := dec_ge l h
  have h2 := dec_le l h
  unfold txt
  rw [plr_step l 0 hp, dec_zero l h, cls]
  refine ⟨?_, by simp⟩
  have hn : nxt l.length (plr l (0 + (dec l).2)) = (dec l).2 := by
    rw [Nat.zero_add]
    by_cases c : (dec l).2 < l.length
    · rw [plr_step l _ c]; rfl
    · rw [plr_end l _ c]; show l.length = _; omega
  rw [hn]; rfl
theorem valid_one (l : List UInt8) (h : l ≠ []) : Lib.validD (l.take (dec l).2) = !(decide ((dec l).1 = 65533) && decide ((dec l).2 = 1)) := by
  have h1 := dec_ge l h
  have h2 := dec_le l h
  have hne : l.take (dec l).2 ≠ [] := fun e => by have := congrArg List.length e; rw [List.length_take] at this; simp only [List.length_nil] at this; omega
  have hd : Lib.decodeL (l.take (dec l).2) = dec l := by rw [← dec_eqL _ hne, dec_take l h _ (Nat.le_refl _)]
  rw [Lib.validD_step _ hne, hd]
  have e : (l.take (dec l).2).drop (dec l).2 = [] := List.drop_of_length_le (by rw [List.length_take]; omega)
  rw [e, Lib.validD_nil]
  by_cases c1 : (dec l).1 = 65533 <;> by_cases c2 : (dec l).2 = 1 <;> simp [c1, c2]
theorem hxs_snoc : ∀ (t : List UInt8) (a : Nat) (c : UInt8), hxs a (t ++ [c]) = hxs a t * 16 + hxV c
  | [], _, _ => rfl
  | x :: t, a, c => by
    show hxs (a * 16 + hxV x) (t ++ [c]) = hxs (a * 16 + hxV x) t * 16 + hxV c
    exact hxs_snoc t _ c
/-- What the document's digit tells. -/
def dgv (c : UInt8) : Nat := if isHx c = true then hxV c else 0
/-- What the document's Quoted tells. -/
def qdd (l : List UInt8) (p : Nat) : Int × Nat × Bool :=
  if pre (l.drop p) [39] = true ∧ (dec (l.drop (p + 1))).2 ≠ 0 ∧ p + 1 + (dec (l.drop (p + 1))).2 < l.length ∧ l.getD (p + 1 + (dec (l.drop (p + 1))).2) 0 = 39 then ((((dec (l.drop (p + 1))).1 : Nat) : Int), (dec (l.drop (p + 1))).2, true)
  else (0, 0, false)
/-- What the document's spelling tells: the rune, the place behind it, the error, its place. -/
def rsp (l : List UInt8) (p : Nat) : Int × Nat × Int × Nat :=
  if (spl l p).2.2 = 0 then ((spl l p).1, (spl l p).2.1, 0, 0) else (0, 0, (spl l p).2.2, (spl l p).2.1)
theorem rsp_code1 {l : List UInt8} {p : Nat} (h : pre (l.drop p) [85, 43] = true) (h1 : hxn l (p + 2) < 4 ∨ 6 < hxn l (p + 2)) : rsp l p = (0, 0, 21, p) := by
  unfold rsp spl cdd
  rw [if_pos h, if_pos h1]; rfl
theorem rsp_code2 {l : List UInt8} {p : Nat} (h : pre (l.drop p) [85, 43] = true) (h1 : ¬ (hxn l (p + 2) < 4 ∨ 6 < hxn l (p + 2))) (h2 : 1114111 < hxs 0 ((l.drop (p + 2)).take (hxn l (p + 2)))) : rsp l p = (0, 0, 22, p) := by
  unfold rsp spl cdd
  rw [if_pos h, if_neg h1, if_pos h2]; rfl
theorem rsp_code3 {l : List UInt8} {p : Nat} (h : pre (l.drop p) [85, 43] = true) (h1 : ¬ (hxn l (p + 2) < 4 ∨ 6 < hxn l (p + 2))) (h2 : ¬ 1114111 < hxs 0 ((l.drop (p + 2)).take (hxn l (p + 2)))) : rsp l p = (((hxs 0 ((l.drop (p + 2)).take (hxn l (p + 2))) : Nat) : Int), p + 2 + hxn l (p + 2), 0, 0) := by
  unfold rsp spl cdd
  rw [if_pos h, if_neg h1, if_neg h2]; rfl
/-- By what Quoted tells. -/
theorem rsp_quot {l : List UInt8} {p : Nat} (h : pre (l.drop p) [85, 43] = false) :
    rsp l p = if (qdd l p).2.2 = false then (0, 0, 21, p) else if (qdd l p).1 = 65533 ∧ (qdd l p).2.1 = 1 then (0, 0, 23, p + 1) else ((qdd l p).1, p + (qdd l p).2.1 + 2, 0, 0) := by
  have hs : spl l p = if pre (l.drop p) [39] = true then qtd l p else (0, p, 21) := by unfold spl; rw [if_neg (by rw [h]; decide)]
  unfold rsp
  rw [hs]
  clear hs
  cases hq : pre (l.drop p) [39] with
  | false =>
    have e : qdd l p = (0, 0, false) := by unfold qdd; rw [if_neg (by rw [hq]; simp)]
    rw [e]; rfl
  | true =>
    simp only [if_true]
    have hin := dec_in (l.drop (p + 1))
    rw [List.length_drop] at hin
    have hpl := pre_len hq
    rw [List.length_drop] at hpl
    simp only [List.length_cons, List.length_nil] at hpl
    by_cases c : (dec (l.drop (p + 1))).2 = 0 ∨ p + 1 + (dec (l.drop (p + 1))).2 = l.length ∨ l.getD (p + 1 + (dec (l.drop (p + 1))).2) 0 ≠ 39
    · have e : qdd l p = (0, 0, false) := by
        unfold qdd
        rw [if_neg]
        rintro ⟨_, a, b, d⟩
        rcases c with c | c | c
        · exact a c
        · omega
        · exact c d
      have e2 : qtd l p = (0, p, 21) := by unfold qtd; rw [if_pos c]
      rw [e, e2]; rfl
    · have hne : l.drop (p + 1) ≠ [] := fun e => c (.inl (by rw [e]; rfl))
      have c1 : (dec (l.drop (p + 1))).2 ≠ 0 := fun e => c (.inl e)
      have c2 : ¬ p + 1 + (dec (l.drop (p + 1))).2 = l.length := fun e => c (.inr (.inl e))
      have c3 : l.getD (p + 1 + (dec (l.drop (p + 1))).2) 0 = 39 := Classical.not_not.1 fun e => c (.inr (.inr e))
      have e : qdd l p = ((((dec (l.drop (p + 1))).1 : Nat) : Int), (dec (l.drop (p + 1))).2, true) := by
        unfold qdd
        rw [if_pos ⟨hq, c1, by omega, c3⟩]
      have hv := valid_one _ hne
      rw [e]
      unfold qtd
      rw [if_neg c, hv]
      generalize (dec (l.drop (p + 1))).2 = n at *
      generalize (dec (l.drop (p + 1))).1 = r at *
      by_cases d1 : r = 65533
      · by_cases d2 : n = 1
        · subst d1 d2
          rfl
        · subst d1
          simp [d2]
          omega
      · have f1 : decide (r = 65533) = false := decide_eq_false d1
        have f2 : ¬ (r : Int) = 65533 := by omega
        simp [f1, f2]
        omega
end Go.Proofs.YtfahbdlcokoghabDoor
