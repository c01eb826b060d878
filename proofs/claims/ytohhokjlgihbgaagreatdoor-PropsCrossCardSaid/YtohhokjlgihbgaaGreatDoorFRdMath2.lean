/- The document's reading of a rune's spelling, the mathematics. -/
import Derived.Lib.ValidLaws
import Derived.Test.YtohhokjlgihbgaaGreatDoorFItem
import Derived.Test.YtohhokjlgihbgaaGreatDoorFRuns
import Derived.Test.YtohhokjlgihbgaaGreatDoorFPut
namespace Go.Proofs.YtohhokjlgihbgaaGreatDoor
open Go.RowKit

theorem getD_take (l : List UInt8) (n i : Nat) : ((l.take n).getD i 0).toNat = if i < n then (l.getD i 0).toNat else 0 := by
  by_cases h : i < n <;> simp [List.getD, List.getElem?_take, h]
theorem decodeN_cut (N n b0 b1 b2 b3 : Nat) (h1 : 1 ≤ n) (h : (Lib.decodeN N b0 b1 b2 b3).2 ≤ n) :
    Lib.decodeN (min n N) b0 (if 1 < n then b1 else 0) (if 2 < n then b2 else 0) (if 3 < n then b3 else 0) = Lib.decodeN N b0 b1 b2 b3 := by
  have c : n = 1 ∨ n = 2 ∨ n = 3 ∨ 4 ≤ n := by omega
  rcases c with rfl | rfl | rfl | c
  · simp only [Nat.lt_irrefl, if_false, Nat.reduceLT]
    unfold Lib.decodeN at *
    revert h
    repeat' split
    all_goals first | (intro h; dsimp only at h; exfalso; omega) | (intro _; rfl)
  · simp only [Nat.lt_irrefl, if_false, if_true, Nat.reduceLT]
    unfold Lib.decodeN at *
    revert h
    repeat' split
    all_goals first | (intro h; dsimp only at h; exfalso; omega) | (intro _; rfl)
  · simp only [Nat.lt_irrefl, if_false, if_true, Nat.reduceLT]
    unfold Lib.decodeN at *
    revert h
    repeat' split
    all_goals first | (intro h; dsimp only at h; exfalso; omega) | (intro _; rfl)
  · rw [if_pos (by omega), if_pos (by omega), if_pos (by omega)]
    unfold Lib.decodeN
    have e1 : (1 < min n N) = (1 < N) := propext ⟨fun h => by omega, fun h => by omega⟩
    have e2 : (2 < min n N) = (2 < N) := propext ⟨fun h => by omega, fun h => by omega⟩
    have e3 : (3 < min n N) = (3 < N) := propext ⟨fun h => by omega, fun h => by omega⟩
    simp only [e1, e2, e3]
theorem dec_take (l : List UInt8) (h : l ≠ []) (n : Nat) (hn : (dec l).2 ≤ n) : dec (l.take n) = dec l := by
  have h1 := dec_ge l h
  have hp : 0 < l.length := List.length_pos_iff.2 h
  have hne : l.take n ≠ [] := fun e => by have := congrArg List.length e; rw [List.length_take] at this; simp only [List.length_nil] at this; omega
  rw [dec_eqL _ hne, dec_eqL l h, Lib.decodeL_N, Lib.decodeL_N, List.length_take]
  have hn1 : 1 ≤ n := by omega
  rw [dec_eqL l h, Lib.decodeL_N] at hn
  simp only [getD_take]
  rw [if_pos (by omega : 0 < n)]
  exact decodeN_cut _ _ _ _ _ _ (by omega) hn
theorem dec_take4 (l : List UInt8) (n : Nat) (hn : 4 ≤ n) : dec (l.take n) = dec l := by
  by_cases h : l = []
  · subst h; simp
  · exact dec_take l h n (by have := dec_le4 l; omega)
theorem dec_zero (l : List UInt8) (h : l ≠ []) : Utf8.decode ⟨l.toArray⟩ 0 = dec l := by rw [dec_eqL l h]; rfl
theorem txt_nil : txt [] = [] := rfl
theorem txt_first (l : List UInt8) (h : l ≠ []) : (txt l)[0]? = some (((dec l).1 : Int), 0, (dec l).2) ∧ 0 < (txt l).length := by
  have hp : 0 < l.length := List.length_pos_iff.2 h
  have h1 := dec_ge l h
  have h2 := dec_le l h
  unfold txt
  rw [plr_step l 0 hp, dec_zero l h, cls]
  refine ⟨?_, by simp⟩
  have hn : nxt l.length (plr l (0 + (dec l).2)) = (dec l).2 := by
    rw [Nat.zero_add]
    by_cases c : (dec l).2 < l.length
    · rw [plr_step l _ c]; rfl
    · rw [plr_end l _ c]; show l.length = _; omega
  rw [hn]; rfl
theorem valid_one (l : List UInt8) (h : l ≠ []) : Lib.validD (l.take (dec l).2) = !(decide ((dec l).1 = 65533) && decide ((dec l).2 = 1)) := by
  have h1 := dec_ge l h
  have h2 := dec_le l h
  have hne : l.take (dec l).2 ≠ [] := fun e => by have := congrArg List.length e; rw [List.length_take] at this; simp only [List.length_nil] at this; omega
  have hd : Lib.decodeL (l.take (dec l).2) = dec l := by rw [← dec_eqL _ hne, dec_take l h _ (Nat.le_refl _)]
  rw [Lib.validD_step _ hne, hd]
  have e : (l.take (dec l).2).drop (dec l).2 = [] := List.drop_of_length_le (by rw [List.length_take]; omega)
  rw [e, Lib.validD_nil]
  by_cases c1 : (dec l).1 = 65533 <;> by_cases c2 : (dec l).2 = 1 <;> simp [c1, c2]
theorem hxs_snoc2 : ∀ (t : List UInt8) (a : Nat) (c : UInt8), hxs a (t ++ [c]) = hxs a t * 16 + hxV c
  | [], _, _ => rfl
  | x :: t, a, c => by
    show hxs (a * 16 + hxV x) (t ++ [c]) = hxs (a * 16 + hxV x) t * 16 + hxV c
    exact hxs_snoc2 t _ c
/-- What the document's digit tells. -/
def dgv (c : UInt8) : Nat := if isHx c = true then hxV c else 0
/-- What the document's Quoted tells. -/
def qdd (l : List UInt8) (p : Nat) : Int × Nat × Bool :=
  if pre (l.drop p) [39] = true ∧ (dec (l.drop (p + 1))).2 ≠ 0 ∧ p + 1 + (dec (l.drop (p + 1))).2 < l.length ∧ l.getD (p + 1 + (dec (l.drop (p + 1))).2) 0 = 39 then ((((dec (l.drop (p + 1))).1 : Nat) : Int), (dec (l.drop (p + 1))).2, true)
  else (0, 0, false)
/-- What the document's spelling tells: the rune, the place behind it, the error, its place. -/
def rspo (l : List UInt8) (p : Nat) : Int × Nat × Int × Nat :=
  if (spl l p).2.2 = 0 then ((spl l p).1, (spl l p).2.1, 0, 0) else (0, 0, (spl l p).2.2, (spl l p).2.1)
theorem rsp_code1 {l : List UInt8} {p : Nat} (h : pre (l.drop p) [85, 43] = true) (h1 : hxn l (p + 2) < 4 ∨ 6 < hxn l (p + 2)) : rspo l p = (0, 0, 21, p) := by
  unfold rspo spl cdd
  rw [if_pos h, if_pos h1]; rfl
theorem rsp_code2 {l : List UInt8} {p : Nat} (h : pre (l.drop p) [85, 43] = true) (h1 : ¬ (hxn l (p + 2) < 4 ∨ 6 < hxn l (p + 2))) (h2 : 1114111 < hxs 0 ((l.drop (p + 2)).take (hxn l (p + 2)))) : rspo l p = (0, 0, 22, p) := by
  unfold rspo spl cdd
  rw [if_pos h, if_neg h1, if_pos h2]; rfl
theorem rsp_code3 {l : List UInt8} {p : Nat} (h : pre (l.drop p) [85, 43] = true) (h1 : ¬ (hxn l (p + 2) < 4 ∨ 6 < hxn l (p + 2))) (h2 : ¬ 1114111 < hxs 0 ((l.drop (p + 2)).take (hxn l (p + 2)))) : rspo l p = (((hxs 0 ((l.drop (p + 2)).take (hxn l (p + 2))) : Nat) : Int), p + 2 + hxn l (p + 2), 0, 0) := by
  unfold rspo spl cdd
  rw [if_pos h, if_neg h1, if_neg h2]; rfl
/-- By what Quoted tells. -/
theorem rsp_quot {l : List UInt8} {p : Nat} (h : pre (l.drop p) [85, 43] = false) :
    rspo l p = if (qdd l p).2.2 = false then (0, 0, 21, p) else if (qdd l p).1 = 65533 ∧ (qdd l p).2.1 = 1 then (0, 0, 23, p + 1) else ((qdd l p).1, p + (qdd l p).2.1 + 2, 0, 0) := by
  have hs : spl l p = if pre (l.drop p) [39] = true then qtd l p else (0, p, 21) := by unfold spl; rw [if_neg (by rw [h]; decide)]
  unfold rspo
  rw [hs]
  clear hs
  cases hq : pre (l.drop p) [39] with
  | false =>
    have e : qdd l p = (0, 0, false) := by unfold qdd; rw [if_neg (by rw [hq]; simp)]
    rw [e]; rfl
  | true =>
    simp only [if_true]
    have hin := dec_in (l.drop (p + 1))
    rw [List.length_drop] at hin
    have hpl := pre_len hq
    rw [List.length_drop] at hpl
    simp only [List.length_cons, List.length_nil] at hpl
    by_cases c : (dec (l.drop (p + 1))).2 = 0 ∨ p + 1 + (dec (l.drop (p + 1))).2 = l.length ∨ l.getD (p + 1 + (dec (l.drop (p + 1))).2) 0 ≠ 39
    · have e : qdd l p = (0, 0, false) := by
        unfold qdd
        rw [if_neg]
        rintro ⟨_, a, b, d⟩
        rcases c with c | c | c
        · exact a c
        · omega
        · exact c d
      have e2 : qtd l p = (0, p, 21) := by unfold qtd; rw [if_pos c]
      rw [e, e2]; rfl
    · have hne : l.drop (p + 1) ≠ [] := fun e => c (.inl (by rw [e]; rfl))
      have c1 : (dec (l.drop (p + 1))).2 ≠ 0 := fun e => c (.inl e)
      have c2 : ¬ p + 1 + (dec (l.drop (p + 1))).2 = l.length := fun e => c (.inr (.inl e))
      have c3 : l.getD (p + 1 + (dec (l.drop (p + 1))).2) 0 = 39 := Classical.not_not.1 fun e => c (.inr (.inr e))
      have e : qdd l p = ((((dec (l.drop (p + 1))).1 : Nat) : Int), (dec (l.drop (p + 1))).2, true) := by
        unfold qdd
        rw [if_pos ⟨hq, c1, by omega, c3⟩]
      have hv := valid_one _ hne
      rw [e]
      unfold qtd
      rw [if_neg c, hv]
      generalize (dec (l.drop (p + 1))).2 = n at *
      generalize (dec (l.drop (p + 1))).1 = r at *
      by_cases d1 : r = 65533
      · by_cases d2 : n = 1
        · subst d1 d2
          rfl
        · subst d1
          simp [d2]
          omega
      · have f1 : decide (r = 65533) = false := decide_eq_false d1
        have f2 : ¬ (r : Int) = 65533 := by omega
        simp [f1, f2]
        omega
end Go.Proofs.YtohhokjlgihbgaaGreatDoor
/- The contracts of the document's digit, First, Quoted and spelling. -/
namespace Go.Proofs.YtohhokjlgihbgaaGreatDoor
open Go.RowKit

set_option maxHeartbeats 400000 in
theorem digit_any (c : UInt8) (w : World) :
    Calls Tryz.prog 125 #[.int .u8 (c.toNat : Int)] w fun e w' => e = .returned (.tuple #[.int .i64 (dgv c : Nat), .bool (isHx c)]) ∧ w' = w := by
  have hc : c.toNat < 256 := c.toNat_lt
  by_cases h1 : 48 ≤ c.toNat ∧ c.toNat ≤ 57
  · have hi : isHx c = true := (isHx_iff c).2 (.inl h1)
    have HD := hid (show ((dgv c : Nat) : Int) = (c.toNat : Int) - 48 by unfold dgv; rw [if_pos hi]; unfold hxV; rw [if_pos h1.2]; omega)
    have HI := hid hi
    clear hi
    obtain ⟨a1, a2⟩ := h1
    generalize c.toNat = m at *
    go_enter Tryz.func125, Tryz.ntmps125
    go_wp2
    go_ret2
    exact ⟨by rw [HD.out, HI.out]; go_num, rfl⟩
  · by_cases h2 : 65 ≤ c.toNat ∧ c.toNat ≤ 70
    · have hi : isHx c = true := (isHx_iff c).2 (.inr h2)
      have HD := hid (show ((dgv c : Nat) : Int) = (c.toNat : Int) - 65 + 10 by unfold dgv; rw [if_pos hi]; unfold hxV; rw [if_neg (by omega)]; omega)
      have HI := hid hi
      clear hi
      obtain ⟨a1, a2⟩ := h2
      have a3 : ¬ (c.toNat : Int) ≤ 57 := by omega
      have a4 : (48 : Int) ≤ (c.toNat : Int) := by omega
      clear h1
      generalize c.toNat = m at *
      go_enter Tryz.func125, Tryz.ntmps125
      go_wp2
      go_ret2
      exact ⟨by rw [HD.out, HI.out]; go_num, rfl⟩
    · have hi : isHx c = false := by
        cases h : isHx c with
        | false => rfl
        | true => exact absurd ((isHx_iff c).1 h) (by rintro (h | h); exact h1 h; exact h2 h)
      have HD := hid (show dgv c = 0 by unfold dgv; rw [if_neg (by rw [hi]; decide)])
      have HI := hid hi
      clear hi
      generalize c.toNat = m at *
      go_enter Tryz.func125, Tryz.ntmps125
      go_wp2
      all_goals go_ret2
      all_goals exact ⟨by rw [HD.out, HI.out]; rfl, rfl⟩

set_option maxHeartbeats 400000 in
theorem first_any (l : List UInt8) (w : World) (hl : l.length ≤ 1000000) :
    Calls Tryz.prog 124 #[.string ⟨l.toArray⟩] w fun e w' => e = .returned (.tuple #[.int .i32 ((dec l).1 : Nat), .int .i64 ((dec l).2 : Nat)]) ∧ Below w.heap.size w w' := by
  have HR := hid (rrunes_rd l w hl)
  by_cases h : l = []
  · subst h
    rw [txt_nil] at HR
    go_enter Tryz.func124, Tryz.ntmps124
    go_wp2_with fail
    refine HR.out.mono ?_
    rintro e w1 ⟨xo, xc, rfl, _, hb⟩
    have HB := hid hb
    clear hb
    go_wp2
    go_ret2
    exact ⟨rfl, HB.out⟩
  · obtain ⟨f1, f2⟩ := txt_first l h
    have HF := hid f1
    obtain ⟨m, hm⟩ : ∃ m, m = (txt l).length := ⟨_, rfl⟩
    rw [← hm] at f2 HR
    have HM := hid hm
    clear f1 hm h
    have t1 : ((m : Int) == 0) = false := beq_eq_false_iff_ne.2 (by omega)
    have t2 : (0 : Int) < (m : Int) := by omega
    go_enter Tryz.func124, Tryz.ntmps124
    go_wp2_with fail
    refine HR.out.mono ?_
    rintro e w1 ⟨xo, xc, rfl, hr, hb⟩
    have HB := hid hb
    obtain ⟨g, rfl, _, c0, c1, c2⟩ := hr 0 _ HF.out
    rw [Nat.zero_mul] at c0 c1 c2
    rw [Nat.zero_add] at c1 c2
    dsimp only at c0 c1 c2
    obtain ⟨r, her⟩ : ∃ r, r = (dec l).1 := ⟨_, rfl⟩
    obtain ⟨k, hek⟩ : ∃ k, k = (dec l).2 := ⟨_, rfl⟩
    rw [← her] at c0
    rw [← hek] at c2
    have HER := hid her
    have HEK := hid hek
    clear hb hr her hek
    go_wp2_with fail
    go_region
    go_wp2
    go_ret2
    exact ⟨by rw [← HER.out, ← HEK.out]; rfl, HB.out.drew⟩
theorem first_eq2 (s : ByteArray) (l : List UInt8) (r : Int) (k : Nat) (w : World) (hs : s = ⟨l.toArray⟩) (hl : l.length ≤ 1000000) (hr : r = ((dec l).1 : Nat)) (hk : k = (dec l).2) :
    Calls Tryz.prog 124 #[.string s] w fun e w' => e = .returned (.tuple #[.int .i32 r, .int .i64 (k : Nat)]) ∧ Below w.heap.size w w' := by
  subst hs hr hk; exact first_any l w hl

/-- What Quoted answers. -/
def qdv (x : Int × Nat × Bool) : Value := .tuple #[.int .i32 x.1, .int .i64 (x.2.1 : Nat), .bool x.2.2]
theorem pre_one {l : List UInt8} {p : Nat} (h : p < l.length) : pre (l.drop p) [39] = decide (l[p] = 39) := by
  have e : (l.drop p).take 1 = [l[p]] := by rw [List.drop_eq_getElem_cons h]; rfl
  show decide ((l.drop p).take 1 = [39]) = _
  rw [e]
  exact Bool.eq_iff_iff.2 (by rw [decide_eq_true_iff, decide_eq_true_iff]; exact ⟨fun h => by injection h, fun h => by rw [h]⟩)
set_option maxHeartbeats 1000000 in
theorem rquoted_any (l : List UInt8) (p : Nat) (w : World) (hp : p ≤ l.length) (hl : l.length ≤ 100000) :
    Calls Tryz.prog 102 #[.string ⟨l.toArray⟩, .int .i64 p] w fun e w' => e = .returned (qdv (qdd l p)) ∧ Below w.heap.size w w' := by
  have HSZ := hid (show (⟨l.toArray⟩ : ByteArray).size = l.length by show l.toArray.size = _; simp)
  by_cases c0 : p < l.length
  · have hq := pre_one c0
    have hszp : p < (⟨l.toArray⟩ : ByteArray).size := by rw [HSZ.out]; exact c0
    have hb : (⟨l.toArray⟩ : ByteArray)[p]'hszp = l[p] := rfl
    obtain ⟨c, hc⟩ : ∃ c, c = l[p] := ⟨_, rfl⟩
    rw [← hc] at hq hb
    by_cases c1 : c = 39
    · subst c1
      rw [decide_eq_true rfl] at hq
      have hin := dec_in (l.drop (p + 1))
      rw [List.length_drop] at hin
      obtain ⟨n, hn⟩ : ∃ n, n = (dec (l.drop (p + 1))).2 := ⟨_, rfl⟩
      obtain ⟨r, hr⟩ : ∃ r : Int, r = ((dec (l.drop (p + 1))).1 : Nat) := ⟨_, rfl⟩
      have HQ := hid (show qdd l p = if n ≠ 0 ∧ p + 1 + n < l.length ∧ l.getD (p + 1 + n) 0 = 39 then (r, n, true) else (0, 0, false) by
        unfold qdd; rw [hq, ← hn, ← hr]; simp only [true_and])
      rw [← hn] at hin
      have HF1 := hid (show ¬ l.length < p + 6 → ∀ W, Calls Tryz.prog 124 #[.string ((⟨l.toArray⟩ : ByteArray).extract (p + 1) (p + 6))] W fun e w' => e = .returned (.tuple #[.int .i32 r, .int .i64 (n : Nat)]) ∧ Below W.heap.size W w' from fun _ W =>
        first_eq2 _ ((l.drop (p + 1)).take 5) r n W (ext_mid l (p + 1) 5) (by rw [List.length_take]; omega) (by rw [dec_take4 _ 5 (by omega)]; exact hr) (by rw [dec_take4 _ 5 (by omega)]; exact hn))
      have HF2 := hid (show ∀ W, Calls Tryz.prog 124 #[.string ((⟨l.toArray⟩ : ByteArray).extract (p + 1) l.length)] W fun e w' => e = .returned (.tuple #[.int .i32 r, .int .i64 (n : Nat)]) ∧ Below W.heap.size W w' from fun W =>
        first_eq2 _ (l.drop (p + 1)) r n W (ext_drop l (p + 1)) (by rw [List.length_drop]; omega) hr hn)
      clear hn hr hq hc
      have key : ∀ (w1 : World), Below w.heap.size w w1 → True := fun _ _ => trivial
      clear key
      by_cases c2 : l.length < p + 6
      · have c2' : ((l.length : Int) < (p : Int) + 6) := by omega
        go_enter Tryz.func102, Tryz.ntmps102
        go_wp2_with fail
        refine (HF2.out _).mono ?_
        rintro e w1 ⟨rfl, hb1⟩
        have HB1 := hid hb1
        clear hb1 HF1 HF2
        by_cases d1 : n = 0
        · have HC := hid (show qdd l p = (0, 0, false) by rw [HQ.out, if_neg (by simp [d1])])
          subst d1
          go_wp2
          go_ret3
          exact ⟨by rw [HC.out]; rfl, HB1.out⟩
        · have d1' : ((n : Int) == 0) = false := beq_eq_false_iff_ne.2 (by omega)
          by_cases d2 : p + 1 + n < l.length
          · have hszn : p + 1 + n < (⟨l.toArray⟩ : ByteArray).size := by rw [HSZ.out]; exact d2
            have hbn : (⟨l.toArray⟩ : ByteArray)[p + 1 + n]'hszn = l[p + 1 + n] := rfl
            have hgn : l.getD (p + 1 + n) 0 = l[p + 1 + n] := by simp [List.getD, List.getElem?_eq_getElem d2]
            rw [hgn] at HQ
            have d2' : ¬ (l.length : Int) ≤ (p : Int) + 1 + n := by omega
            generalize l[p + 1 + n] = d at *
            by_cases d3 : d = 39
            · subst d3
              have HC := hid (show qdd l p = (r, n, true) by rw [HQ.out, if_pos ⟨d1, d2, rfl⟩])
              clear HQ
              go_wp2
              go_ret3
              exact ⟨by rw [HC.out]; rfl, HB1.out⟩
            · have HC := hid (show qdd l p = (0, 0, false) by rw [HQ.out, if_neg (by simp [d3])])
              have d3' : ((d.toNat : Int) != 39) = true := bne_iff_ne.2 (fun e => d3 (UInt8.toNat_inj.1 (by show d.toNat = 39; omega)))
              clear HQ d3
              go_wp2
              go_ret3
              exact ⟨by rw [HC.out]; rfl, HB1.out⟩
          · have HC := hid (show qdd l p = (0, 0, false) by rw [HQ.out, if_neg (by simp [d2])])
            have d2' : (l.length : Int) ≤ (p : Int) + 1 + n := by omega
            go_wp2
            go_ret3
            exact ⟨by rw [HC.out]; rfl, HB1.out⟩
      · have c2' : ¬ ((l.length : Int) < (p : Int) + 6) := by omega
        have HF3 := hid (HF1.out c2)
        go_enter Tryz.func102, Tryz.ntmps102
        go_wp2_with fail
        refine (HF3.out _).mono ?_
        rintro e w1 ⟨rfl, hb1⟩
        have HB1 := hid hb1
        clear hb1 HF1 HF2 HF3
        by_cases d1 : n = 0
        · have HC := hid (show qdd l p = (0, 0, false) by rw [HQ.out, if_neg (by simp [d1])])
          subst d1
          go_wp2
          go_ret3
          exact ⟨by rw [HC.out]; rfl, HB1.out⟩
        · have d1' : ((n : Int) == 0) = false := beq_eq_false_iff_ne.2 (by omega)
          by_cases d2 : p + 1 + n < l.length
          · have hszn : p + 1 + n < (⟨l.toArray⟩ : ByteArray).size := by rw [HSZ.out]; exact d2
            have hbn : (⟨l.toArray⟩ : ByteArray)[p + 1 + n]'hszn = l[p + 1 + n] := rfl
            have hgn : l.getD (p + 1 + n) 0 = l[p + 1 + n] := by simp [List.getD, List.getElem?_eq_getElem d2]
            rw [hgn] at HQ
            have d2' : ¬ (l.length : Int) ≤ (p : Int) + 1 + n := by omega
            generalize l[p + 1 + n] = d at *
            by_cases d3 : d = 39
            · subst d3
              have HC := hid (show qdd l p = (r, n, true) by rw [HQ.out, if_pos ⟨d1, d2, rfl⟩])
              clear HQ
              go_wp2
              go_ret3
              exact ⟨by rw [HC.out]; rfl, HB1.out⟩
            · have HC := hid (show qdd l p = (0, 0, false) by rw [HQ.out, if_neg (by simp [d3])])
              have d3' : ((d.toNat : Int) != 39) = true := bne_iff_ne.2 (fun e => d3 (UInt8.toNat_inj.1 (by show d.toNat = 39; omega)))
              clear HQ d3
              go_wp2
              go_ret3
              exact ⟨by rw [HC.out]; rfl, HB1.out⟩
          · have HC := hid (show qdd l p = (0, 0, false) by rw [HQ.out, if_neg (by simp [d2])])
            have d2' : (l.length : Int) ≤ (p : Int) + 1 + n := by omega
            go_wp2
            go_ret3
            exact ⟨by rw [HC.out]; rfl, HB1.out⟩
    · rw [decide_eq_false c1] at hq
      have HC := hid (show qdd l p = (0, 0, false) by unfold qdd; rw [if_neg (by rw [hq]; simp)])
      have c1' : ((c.toNat : Int) != 39) = true := bne_iff_ne.2 (fun e => c1 (UInt8.toNat_inj.1 (by show c.toNat = 39; omega)))
      clear hq hc c1
      go_enter Tryz.func102, Tryz.ntmps102
      go_wp2
      go_ret3
      exact ⟨by rw [HC.out]; rfl, Below.refl _ _⟩
  · have HC := hid (show qdd l p = (0, 0, false) by
      unfold qdd
      rw [if_neg]
      rintro ⟨h, _⟩
      have := pre_len h
      rw [List.length_drop] at this
      simp only [List.length_cons, List.length_nil] at this
      omega)
    have c0' : (l.length : Int) ≤ (p : Int) := by omega
    go_enter Tryz.func102, Tryz.ntmps102
    go_wp2
    go_ret3
    exact ⟨by rw [HC.out]; rfl, Below.refl _ _⟩

/-- What the document's spelling answers. -/
def rsv (x : Int × Nat × Int × Nat) : Value := .tuple #[.int .i32 x.1, .int .i64 (x.2.1 : Nat), .int .i64 x.2.2.1, .int .i64 (x.2.2.2 : Nat)]
theorem digit_eq (c : UInt8) (v : Nat) (b : Bool) (w : World) (hv : v = dgv c) (hb : b = isHx c) :
    Calls Tryz.prog 125 #[.int .u8 (c.toNat : Int)] w fun e w' => e = .returned (.tuple #[.int .i64 (v : Nat), .bool b]) ∧ w' = w := by
  subst hv hb; exact digit_any c w
theorem pre_two {l : List UInt8} {p : Nat} (h : p + 1 < l.length) : pre (l.drop p) [85, 43] = decide (l[p] = 85 ∧ l[p + 1] = 43) := by
  have e : (l.drop p).take 2 = [l[p], l[p + 1]] := by rw [List.drop_eq_getElem_cons (by omega : p < l.length), List.drop_eq_getElem_cons h]; rfl
  show decide ((l.drop p).take 2 = [85, 43]) = _
  rw [e]
  exact Bool.eq_iff_iff.2 (by rw [decide_eq_true_iff, decide_eq_true_iff]; exact ⟨fun h => by injection h with h1 h2; injection h2 with h2; exact ⟨h1, h2⟩, fun h => by rw [h.1, h.2]⟩)
theorem results_tmp4 {fn : Func} {t u v x : Tmp} (h : fn.results = #[.tmp t, .tmp u, .tmp v, .tmp x]) (tmps : Array Value) (P : Program) (w : World) :
    (results fn tmps).run P w = .ok (.tuple #[tmps.getD t undef, tmps.getD u undef, tmps.getD v undef, tmps.getD x undef]) w := by
  simp [results, h]
theorem quoted_eq2 (l : List UInt8) (p : Nat) (r : Int) (n : Nat) (b : Bool) (w : World) (hp : p ≤ l.length) (hl : l.length ≤ 100000) (h : qdd l p = (r, n, b)) :
    Calls Tryz.prog 102 #[.string ⟨l.toArray⟩, .int .i64 p] w fun e w' => e = .returned (.tuple #[.int .i32 r, .int .i64 (n : Nat), .bool b]) ∧ Below w.heap.size w w' := by
  have := rquoted_any l p w hp hl
  rw [h] at this
  exact this
end Go.Proofs.YtohhokjlgihbgaaGreatDoor
/- The contract of the document's spelling. -/
namespace Go.Proofs.YtohhokjlgihbgaaGreatDoor
open Go.RowKit

theorem hex_pre (l : List UInt8) (b j : Nat) (hj : j ≤ hxn l b) (m : Nat) (hm : m ≤ j) : ∀ c, c ∈ (l.drop b).take m → isHx c = true := fun c hc => by
  have e : (l.drop b).take m = ((l.drop b).take (hxn l b)).take m := by rw [List.take_take, Nat.min_eq_left (by omega)]
  rw [e] at hc
  exact hxn_all l b c (List.mem_of_mem_take hc)
theorem hex_more (l : List UInt8) (b j : Nat) (hlt : b + j < l.length) : (l.drop b).take (j + 1) = (l.drop b).take j ++ [l[b + j]] := by
  have h : j < (l.drop b).length := by rw [List.length_drop]; omega
  rw [List.take_succ_eq_append_getElem h, List.getElem_drop]

set_option maxHeartbeats 2000000 in
set_option maxRecDepth 100000 in
theorem rspell_code (l : List UInt8) (p : Nat) (w : World) (hp : p + 1 < l.length) (hl : l.length ≤ 100000) (hpr : pre (l.drop p) [85, 43] = true) :
    Calls Tryz.prog 104 #[.string ⟨l.toArray⟩, .int .i64 p] w fun e w' => e = .returned (rsv (rspo l p)) ∧ Below w.heap.size w w' := by
  have HSZ := hid (show (⟨l.toArray⟩ : ByteArray).size = l.length by show l.toArray.size = _; simp)
  have HPR := hid hpr
  rw [pre_two hp] at hpr
  have hpr2 := of_decide_eq_true hpr
  have sz0 : p < (⟨l.toArray⟩ : ByteArray).size := by rw [HSZ.out]; omega
  have sz1 : p + 1 < (⟨l.toArray⟩ : ByteArray).size := by rw [HSZ.out]; omega
  have b0 : (⟨l.toArray⟩ : ByteArray)[p]'sz0 = 85 := hpr2.1
  have b1 : (⟨l.toArray⟩ : ByteArray)[p + 1]'sz1 = 43 := hpr2.2
  clear hpr hpr2
  have t1 : (p : Int) + 1 < (l.length : Int) := by omega
  go_enter Tryz.func104, Tryz.ntmps104
  go_wp2
  go_loopw [8, 9, 10, 11] (fun n k _ _ wr => ∃ j nn : Nat, k = .int .i64 (j : Int) ∧ n = .int .i64 (nn : Int) ∧ nn ≤ 16777215 ∧ p + 2 + j ≤ l.length ∧ Hid (hxn l (p + 2) = j + hxn l (p + 2 + j)) ∧ Hid (nn = hxs 0 ((l.drop (p + 2)).take (min j 6))) ∧ wr = w) (fun _ k _ _ _ => (l.length + 1 - intOf k).toNat)
  case atStart => exact ⟨0, 0, rfl, rfl, by omega, by omega, by simp [Hid], by simp [Hid, hxs], rfl⟩
  case round =>
    obtain ⟨j, nn, rfl, rfl, hnn, hj, HZN, HNV, hw⟩ := hrel
    obtain rfl := hw.symm
    by_cases hlt : p + 2 + j < l.length
    · have hszk : p + 2 + j < (⟨l.toArray⟩ : ByteArray).size := by rw [HSZ.out]; exact hlt
      have hq : (⟨l.toArray⟩ : ByteArray)[p + 2 + j]'hszk = l[p + 2 + j] := rfl
      have tl : (p : Int) + 2 + j < (l.length : Int) := by omega
      have HMO := hid (hex_more l (p + 2) j hlt)
      by_cases hh : isHx l[p + 2 + j] = true
      · have HZ2 := hid (show hxn l (p + 2) = (j + 1) + hxn l (p + 2 + (j + 1)) by rw [HZN.out, hxn_yes hlt hh, Nat.add_assoc (p + 2) j 1]; omega)
        have hv := hxV_lt hh
        have hdv : dgv l[p + 2 + j] = hxV l[p + 2 + j] := by unfold dgv; rw [if_pos hh]
        obtain ⟨v, hvv⟩ : ∃ v, v = hxV l[p + 2 + j] := ⟨_, rfl⟩
        have HD := hid (digit_eq l[p + 2 + j] v true w (by rw [hvv, hdv]) hh.symm)
        have HN6 := hid (show ∀ k, k < 6 → j = k → nn * 16 + v = hxs 0 ((l.drop (p + 2)).take (min (j + 1) 6)) ∧ nn * 16 + v ≤ 16777215 from fun k hk e => by
          have hj6 : min j 6 = j := by omega
          have hj7 : min (j + 1) 6 = j + 1 := by omega
          have h := HNV.out
          rw [hj6] at h
          have e1 : nn * 16 + v = hxs 0 ((l.drop (p + 2)).take (j + 1)) := by rw [HMO.out, hxs_snoc2, ← h, hvv]
          rw [hj7]
          refine ⟨e1, ?_⟩
          rw [e1]
          exact hxs_six _ (by rw [List.length_take]; omega) (hex_pre l (p + 2) (j + 1) (by have := HZ2.out; omega) _ (Nat.le_refl _)))
        have HN7 := hid (show 6 ≤ j → nn = hxs 0 ((l.drop (p + 2)).take (min (j + 1) 6)) from fun h => by
          have e1 : min (j + 1) 6 = min j 6 := by omega
          rw [e1]; exact HNV.out)
        rw [← hvv] at hv
        generalize l[p + 2 + j] = c at *
        clear hdv hvv hh HMO HZN HNV
        by_cases h6 : j < 6
        · obtain ⟨HA, hA⟩ := HN6.out j h6 rfl
          have HA := hid HA
          have h6' : (j : Int) < 6 := by omega
          have ew : (16 : Int) * nn + v = ((nn * 16 + v : Nat) : Int) := by omega
          have HEW := hid ew
          clear ew HN6 HN7
          go_wp2_with fail
          refine HD.out.mono ?_
          rintro e w1 ⟨rfl, hw1⟩
          obtain rfl := hw1.symm
          clear hw1 HD
          go_wp2
          go_roundw
          case rel => exact ⟨j + 1, nn * 16 + v, by go_num, by rw [← HEW.out], hA, by omega, HZ2, HA, trivial⟩
          case measure => simp [intOf]; omega
        · have HA := hid (HN7.out (by omega))
          have h6' : ¬ (j : Int) < 6 := by omega
          clear HN6 HN7
          go_wp2_with fail
          refine HD.out.mono ?_
          rintro e w1 ⟨rfl, hw1⟩
          obtain rfl := hw1.symm
          clear hw1 HD
          go_wp2
          go_roundw
          case rel => exact ⟨j + 1, nn, by go_num, rfl, hnn, by omega, HZ2, HA, trivial⟩
          case measure => simp [intOf]; omega
      · have HZ := hid (show hxn l (p + 2) = j by rw [HZN.out, hxn_no hlt hh]; rfl)
        have hh' : isHx l[p + 2 + j] = false := by simpa using hh
        have HD := hid (digit_eq l[p + 2 + j] 0 false w (by unfold dgv; rw [if_neg hh]) hh'.symm)
        clear hh hh' HMO
        generalize l[p + 2 + j] = c at *
        go_wp2_with fail
        refine HD.out.mono ?_
        rintro e w1 ⟨rfl, hw1⟩
        obtain rfl := hw1.symm
        clear hw1 HD
        have HZ6 := hid (show ∀ c, c ∈ (l.drop (p + 2)).take j → isHx c = true from hex_pre l (p + 2) j (by have := HZ.out; omega) j (Nat.le_refl _))
        by_cases c1 : j < 4
        · have HC := hid (rsp_code1 HPR.out (.inl (by rw [HZ.out]; exact c1)))
          have c1' : (j : Int) < 4 := by omega
          clear HZ HZ6 HNV HZN
          go_wp2
          all_goals (try rw [Exit.noGoto_ret])
          all_goals (try simp only [Exit.inBlock, Exit.then])
          all_goals refine bodyPost_ret (results_tmp4 rfl _ _ _) rfl ?_
          all_goals exact ⟨by rw [HC.out]; rfl, Below.refl _ _⟩
        · by_cases c2 : 6 < j
          · have HC := hid (rsp_code1 HPR.out (.inr (by rw [HZ.out]; exact c2)))
            have c1' : ¬ (j : Int) < 4 := by omega
            have c2' : 6 < (j : Int) := by omega
            clear HZ HZ6 HNV HZN
            go_wp2
            all_goals (try rw [Exit.noGoto_ret])
            all_goals (try simp only [Exit.inBlock, Exit.then])
            all_goals refine bodyPost_ret (results_tmp4 rfl _ _ _) rfl ?_
            all_goals exact ⟨by rw [HC.out]; rfl, Below.refl _ _⟩
          · have hmin : min j 6 = j := by omega
            have HNV2 := hid (show nn = hxs 0 ((l.drop (p + 2)).take j) by have h := HNV.out; rw [hmin] at h; exact h)
            have c1' : ¬ (j : Int) < 4 := by omega
            have c2' : ¬ 6 < (j : Int) := by omega
            have hco : ¬ (hxn l (p + 2) < 4 ∨ 6 < hxn l (p + 2)) := by rw [HZ.out]; omega
            have H2 := hid (rsp_code2 HPR.out hco)
            have H3 := hid (rsp_code3 HPR.out hco)
            rw [HZ.out, ← HNV2.out] at H2 H3
            clear HZ HZ6 HNV HNV2 hmin HZN hco
            by_cases c3 : 1114111 < nn
            · have HC := hid (H2.out c3)
              have c3' : (1114111 : Int) < (nn : Int) := by omega
              clear H2 H3
              go_wp2
              all_goals (try rw [Exit.noGoto_ret])
              all_goals (try simp only [Exit.inBlock, Exit.then])
              all_goals refine bodyPost_ret (results_tmp4 rfl _ _ _) rfl ?_
              all_goals exact ⟨by rw [HC.out]; rfl, Below.refl _ _⟩
            · have HC := hid (H3.out c3)
              have c3' : ¬ (1114111 : Int) < (nn : Int) := by omega
              have ev : IntKind.i32.wrap (nn : Int) = (nn : Int) := by rw [IntKind.wrap_i32]; omega
              clear H2 H3
              go_wp2
              all_goals (try rw [Exit.noGoto_ret])
              all_goals (try simp only [Exit.inBlock, Exit.then])
              all_goals refine bodyPost_ret (results_tmp4 rfl _ _ _) rfl ?_
              all_goals exact ⟨by rw [HC.out]; rfl, Below.refl _ _⟩
    · have HZ := hid (show hxn l (p + 2) = j by rw [HZN.out, hxn_end hlt]; rfl)
      have tl : ¬ (p : Int) + 2 + j < (l.length : Int) := by omega
      have HZ6 := hid (show ∀ c, c ∈ (l.drop (p + 2)).take j → isHx c = true from hex_pre l (p + 2) j (by have := HZ.out; omega) j (Nat.le_refl _))
      by_cases c1 : j < 4
      · have HC := hid (rsp_code1 HPR.out (.inl (by rw [HZ.out]; exact c1)))
        have c1' : (j : Int) < 4 := by omega
        clear HZ HZ6 HNV HZN
        go_wp2
        all_goals (try rw [Exit.noGoto_ret])
        all_goals (try simp only [Exit.inBlock, Exit.then])
        all_goals refine bodyPost_ret (results_tmp4 rfl _ _ _) rfl ?_
        all_goals exact ⟨by rw [HC.out]; rfl, Below.refl _ _⟩
      · by_cases c2 : 6 < j
        · have HC := hid (rsp_code1 HPR.out (.inr (by rw [HZ.out]; exact c2)))
          have c1' : ¬ (j : Int) < 4 := by omega
          have c2' : 6 < (j : Int) := by omega
          clear HZ HZ6 HNV HZN
          go_wp2
          all_goals (try rw [Exit.noGoto_ret])
          all_goals (try simp only [Exit.inBlock, Exit.then])
          all_goals refine bodyPost_ret (results_tmp4 rfl _ _ _) rfl ?_
          all_goals exact ⟨by rw [HC.out]; rfl, Below.refl _ _⟩
        · have hmin : min j 6 = j := by omega
          have HNV2 := hid (show nn = hxs 0 ((l.drop (p + 2)).take j) by have h := HNV.out; rw [hmin] at h; exact h)
          have c1' : ¬ (j : Int) < 4 := by omega
          have c2' : ¬ 6 < (j : Int) := by omega
          have hco : ¬ (hxn l (p + 2) < 4 ∨ 6 < hxn l (p + 2)) := by rw [HZ.out]; omega
          have H2 := hid (rsp_code2 HPR.out hco)
          have H3 := hid (rsp_code3 HPR.out hco)
          rw [HZ.out, ← HNV2.out] at H2 H3
          clear HZ HZ6 HNV HNV2 hmin HZN hco
          by_cases c3 : 1114111 < nn
          · have HC := hid (H2.out c3)
            have c3' : (1114111 : Int) < (nn : Int) := by omega
            clear H2 H3
            go_wp2
            all_goals (try rw [Exit.noGoto_ret])
            all_goals (try simp only [Exit.inBlock, Exit.then])
            all_goals refine bodyPost_ret (results_tmp4 rfl _ _ _) rfl ?_
            all_goals exact ⟨by rw [HC.out]; rfl, Below.refl _ _⟩
          · have HC := hid (H3.out c3)
            have c3' : ¬ (1114111 : Int) < (nn : Int) := by omega
            have ev : IntKind.i32.wrap (nn : Int) = (nn : Int) := by rw [IntKind.wrap_i32]; omega
            clear H2 H3
            go_wp2
            all_goals (try rw [Exit.noGoto_ret])
            all_goals (try simp only [Exit.inBlock, Exit.then])
            all_goals refine bodyPost_ret (results_tmp4 rfl _ _ _) rfl ?_
            all_goals exact ⟨by rw [HC.out]; rfl, Below.refl _ _⟩

set_option maxHeartbeats 2000000 in
set_option maxRecDepth 100000 in
theorem rspell_quot (l : List UInt8) (p : Nat) (w : World) (hp : p ≤ l.length) (hl : l.length ≤ 100000) (hpr : pre (l.drop p) [85, 43] = false) :
    Calls Tryz.prog 104 #[.string ⟨l.toArray⟩, .int .i64 p] w fun e w' => e = .returned (rsv (rspo l p)) ∧ Below w.heap.size w w' := by
  have HSZ := hid (show (⟨l.toArray⟩ : ByteArray).size = l.length by show l.toArray.size = _; simp)
  have HPR := hid hpr
  have HR := hid (rsp_quot hpr)
  clear hpr
  obtain ⟨r, n, b, hqd⟩ : ∃ r n b, qdd l p = (r, n, b) := ⟨_, _, _, rfl⟩
  have HQ := hid (quoted_eq2 l p r n b w hp hl hqd)
  have hn5 : n ≤ 4 := by
    have h := congrArg (fun x => x.2.1) hqd
    dsimp only at h
    rw [← h]
    unfold qdd
    split
    · exact dec_le4 _
    · exact Nat.zero_le _
  rw [hqd] at HR
  clear hqd
  dsimp only at HR
  cases b with
  | false =>
    have HC := hid (show rspo l p = (0, 0, 21, p) by rw [HR.out, if_pos rfl])
    clear HR
    by_cases c9 : p + 1 < l.length
    · obtain ⟨c0, hc0⟩ : ∃ c0, l[p]'(by omega) = c0 := ⟨_, rfl⟩
      by_cases d0 : c0 = 85
      · subst d0
        obtain ⟨c1, hc1⟩ : ∃ c1, l[p + 1] = c1 := ⟨_, rfl⟩
        have d1 : c1 ≠ 43 := fun e => by rw [pre_two c9] at HPR; have := of_decide_eq_false HPR.out; exact this ⟨hc0, hc1.trans e⟩
        have t1 : (p : Int) + 1 < (l.length : Int) := by omega
        have sz0 : p < (⟨l.toArray⟩ : ByteArray).size := by rw [HSZ.out]; omega
        have sz1 : p + 1 < (⟨l.toArray⟩ : ByteArray).size := by rw [HSZ.out]; omega
        have b0 : (⟨l.toArray⟩ : ByteArray)[p]'sz0 = 85 := hc0
        have b1 : (⟨l.toArray⟩ : ByteArray)[p + 1]'sz1 = c1 := hc1
        have t2 : ((c1.toNat : Int) == 43) = false := beq_eq_false_iff_ne.2 (fun e => d1 (UInt8.toNat_inj.1 (by show c1.toNat = 43; omega)))
        clear hc0 hc1 d1
        go_enter Tryz.func104, Tryz.ntmps104
        go_wp2_with fail
        refine HQ.out.mono ?_
        rintro e w1 ⟨rfl, hb⟩
        have HB := hid hb
        clear hb HQ
        go_wp2
        (try simp only [Exit.inBlock, Exit.then])
        refine bodyPost_ret (results_tmp4 rfl _ _ _) rfl ?_
        exact ⟨by rw [HC.out]; rfl, HB.out⟩
      · have t1 : (p : Int) + 1 < (l.length : Int) := by omega
        have sz0 : p < (⟨l.toArray⟩ : ByteArray).size := by rw [HSZ.out]; omega
        have b0 : (⟨l.toArray⟩ : ByteArray)[p]'sz0 = c0 := hc0
        have t2 : ((c0.toNat : Int) == 85) = false := beq_eq_false_iff_ne.2 (fun e => d0 (UInt8.toNat_inj.1 (by show c0.toNat = 85; omega)))
        clear hc0 d0
        go_enter Tryz.func104, Tryz.ntmps104
        go_wp2_with fail
        refine HQ.out.mono ?_
        rintro e w1 ⟨rfl, hb⟩
        have HB := hid hb
        clear hb HQ
        go_wp2
        (try simp only [Exit.inBlock, Exit.then])
        refine bodyPost_ret (results_tmp4 rfl _ _ _) rfl ?_
        exact ⟨by rw [HC.out]; rfl, HB.out⟩
    · have t1 : ¬ (p : Int) + 1 < (l.length : Int) := by omega
      go_enter Tryz.func104, Tryz.ntmps104
      go_wp2_with fail
      refine HQ.out.mono ?_
      rintro e w1 ⟨rfl, hb⟩
      have HB := hid hb
      clear hb HQ
      go_wp2
      (try simp only [Exit.inBlock, Exit.then])
      refine bodyPost_ret (results_tmp4 rfl _ _ _) rfl ?_
      exact ⟨by rw [HC.out]; rfl, HB.out⟩
  | true =>
    by_cases e1 : r = 65533
    · by_cases e2 : n = 1
      · subst e1 e2
        have HC := hid (show rspo l p = (0, 0, 23, p + 1) by rw [HR.out, if_neg (by decide), if_pos ⟨rfl, rfl⟩])
        clear HR
        by_cases c9 : p + 1 < l.length
        · obtain ⟨c0, hc0⟩ : ∃ c0, l[p]'(by omega) = c0 := ⟨_, rfl⟩
          by_cases d0 : c0 = 85
          · subst d0
            obtain ⟨c1, hc1⟩ : ∃ c1, l[p + 1] = c1 := ⟨_, rfl⟩
            have d1 : c1 ≠ 43 := fun e => by rw [pre_two c9] at HPR; have := of_decide_eq_false HPR.out; exact this ⟨hc0, hc1.trans e⟩
            have t1 : (p : Int) + 1 < (l.length : Int) := by omega
            have sz0 : p < (⟨l.toArray⟩ : ByteArray).size := by rw [HSZ.out]; omega
            have sz1 : p + 1 < (⟨l.toArray⟩ : ByteArray).size := by rw [HSZ.out]; omega
            have b0 : (⟨l.toArray⟩ : ByteArray)[p]'sz0 = 85 := hc0
            have b1 : (⟨l.toArray⟩ : ByteArray)[p + 1]'sz1 = c1 := hc1
            have t2 : ((c1.toNat : Int) == 43) = false := beq_eq_false_iff_ne.2 (fun e => d1 (UInt8.toNat_inj.1 (by show c1.toNat = 43; omega)))
            clear hc0 hc1 d1
            go_enter Tryz.func104, Tryz.ntmps104
            go_wp2_with fail
            refine HQ.out.mono ?_
            rintro e w1 ⟨rfl, hb⟩
            have HB := hid hb
            clear hb HQ
            go_wp2
            (try simp only [Exit.inBlock, Exit.then])
            refine bodyPost_ret (results_tmp4 rfl _ _ _) rfl ?_
            exact ⟨by rw [HC.out]; rfl, HB.out⟩
          · have t1 : (p : Int) + 1 < (l.length : Int) := by omega
            have sz0 : p < (⟨l.toArray⟩ : ByteArray).size := by rw [HSZ.out]; omega
            have b0 : (⟨l.toArray⟩ : ByteArray)[p]'sz0 = c0 := hc0
            have t2 : ((c0.toNat : Int) == 85) = false := beq_eq_false_iff_ne.2 (fun e => d0 (UInt8.toNat_inj.1 (by show c0.toNat = 85; omega)))
            clear hc0 d0
            go_enter Tryz.func104, Tryz.ntmps104
            go_wp2_with fail
            refine HQ.out.mono ?_
            rintro e w1 ⟨rfl, hb⟩
            have HB := hid hb
            clear hb HQ
            go_wp2
            (try simp only [Exit.inBlock, Exit.then])
            refine bodyPost_ret (results_tmp4 rfl _ _ _) rfl ?_
            exact ⟨by rw [HC.out]; rfl, HB.out⟩
        · have t1 : ¬ (p : Int) + 1 < (l.length : Int) := by omega
          go_enter Tryz.func104, Tryz.ntmps104
          go_wp2_with fail
          refine HQ.out.mono ?_
          rintro e w1 ⟨rfl, hb⟩
          have HB := hid hb
          clear hb HQ
          go_wp2
          (try simp only [Exit.inBlock, Exit.then])
          refine bodyPost_ret (results_tmp4 rfl _ _ _) rfl ?_
          exact ⟨by rw [HC.out]; rfl, HB.out⟩
      · have HC := hid (show rspo l p = (r, p + n + 2, 0, 0) by rw [HR.out, if_neg (by decide), if_neg (fun h => e2 h.2)])
        have e2' : ((n : Int) == 1) = false := beq_eq_false_iff_ne.2 (by omega)
        have HE := hid e1
        subst e1
        clear HR
        by_cases c9 : p + 1 < l.length
        · obtain ⟨c0, hc0⟩ : ∃ c0, l[p]'(by omega) = c0 := ⟨_, rfl⟩
          by_cases d0 : c0 = 85
          · subst d0
            obtain ⟨c1, hc1⟩ : ∃ c1, l[p + 1] = c1 := ⟨_, rfl⟩
            have d1 : c1 ≠ 43 := fun e => by rw [pre_two c9] at HPR; have := of_decide_eq_false HPR.out; exact this ⟨hc0, hc1.trans e⟩
            have t1 : (p : Int) + 1 < (l.length : Int) := by omega
            have sz0 : p < (⟨l.toArray⟩ : ByteArray).size := by rw [HSZ.out]; omega
            have sz1 : p + 1 < (⟨l.toArray⟩ : ByteArray).size := by rw [HSZ.out]; omega
            have b0 : (⟨l.toArray⟩ : ByteArray)[p]'sz0 = 85 := hc0
            have b1 : (⟨l.toArray⟩ : ByteArray)[p + 1]'sz1 = c1 := hc1
            have t2 : ((c1.toNat : Int) == 43) = false := beq_eq_false_iff_ne.2 (fun e => d1 (UInt8.toNat_inj.1 (by show c1.toNat = 43; omega)))
            clear hc0 hc1 d1
            go_enter Tryz.func104, Tryz.ntmps104
            go_wp2_with fail
            refine HQ.out.mono ?_
            rintro e w1 ⟨rfl, hb⟩
            have HB := hid hb
            clear hb HQ
            go_wp2
            (try simp only [Exit.inBlock, Exit.then])
            refine bodyPost_ret (results_tmp4 rfl _ _ _) rfl ?_
            exact ⟨by rw [HC.out]; rfl, HB.out⟩
          · have t1 : (p : Int) + 1 < (l.length : Int) := by omega
            have sz0 : p < (⟨l.toArray⟩ : ByteArray).size := by rw [HSZ.out]; omega
            have b0 : (⟨l.toArray⟩ : ByteArray)[p]'sz0 = c0 := hc0
            have t2 : ((c0.toNat : Int) == 85) = false := beq_eq_false_iff_ne.2 (fun e => d0 (UInt8.toNat_inj.1 (by show c0.toNat = 85; omega)))
            clear hc0 d0
            go_enter Tryz.func104, Tryz.ntmps104
            go_wp2_with fail
            refine HQ.out.mono ?_
            rintro e w1 ⟨rfl, hb⟩
            have HB := hid hb
            clear hb HQ
            go_wp2
            (try simp only [Exit.inBlock, Exit.then])
            refine bodyPost_ret (results_tmp4 rfl _ _ _) rfl ?_
            exact ⟨by rw [HC.out]; rfl, HB.out⟩
        · have t1 : ¬ (p : Int) + 1 < (l.length : Int) := by omega
          go_enter Tryz.func104, Tryz.ntmps104
          go_wp2_with fail
          refine HQ.out.mono ?_
          rintro e w1 ⟨rfl, hb⟩
          have HB := hid hb
          clear hb HQ
          go_wp2
          (try simp only [Exit.inBlock, Exit.then])
          refine bodyPost_ret (results_tmp4 rfl _ _ _) rfl ?_
          exact ⟨by rw [HC.out]; rfl, HB.out⟩
    · have HC := hid (show rspo l p = (r, p + n + 2, 0, 0) by rw [HR.out, if_neg (by decide), if_neg (fun h => e1 h.1)])
      have e1' : (r == 65533) = false := beq_eq_false_iff_ne.2 e1
      clear HR
      by_cases c9 : p + 1 < l.length
      · obtain ⟨c0, hc0⟩ : ∃ c0, l[p]'(by omega) = c0 := ⟨_, rfl⟩
        by_cases d0 : c0 = 85
        · subst d0
          obtain ⟨c1, hc1⟩ : ∃ c1, l[p + 1] = c1 := ⟨_, rfl⟩
          have d1 : c1 ≠ 43 := fun e => by rw [pre_two c9] at HPR; have := of_decide_eq_false HPR.out; exact this ⟨hc0, hc1.trans e⟩
          have t1 : (p : Int) + 1 < (l.length : Int) := by omega
          have sz0 : p < (⟨l.toArray⟩ : ByteArray).size := by rw [HSZ.out]; omega
          have sz1 : p + 1 < (⟨l.toArray⟩ : ByteArray).size := by rw [HSZ.out]; omega
          have b0 : (⟨l.toArray⟩ : ByteArray)[p]'sz0 = 85 := hc0
          have b1 : (⟨l.toArray⟩ : ByteArray)[p + 1]'sz1 = c1 := hc1
          have t2 : ((c1.toNat : Int) == 43) = false := beq_eq_false_iff_ne.2 (fun e => d1 (UInt8.toNat_inj.1 (by show c1.toNat = 43; omega)))
          clear hc0 hc1 d1
          go_enter Tryz.func104, Tryz.ntmps104
          go_wp2_with fail
          refine HQ.out.mono ?_
          rintro e w1 ⟨rfl, hb⟩
          have HB := hid hb
          clear hb HQ
          go_wp2
          (try simp only [Exit.inBlock, Exit.then])
          refine bodyPost_ret (results_tmp4 rfl _ _ _) rfl ?_
          exact ⟨by rw [HC.out]; rfl, HB.out⟩
        · have t1 : (p : Int) + 1 < (l.length : Int) := by omega
          have sz0 : p < (⟨l.toArray⟩ : ByteArray).size := by rw [HSZ.out]; omega
          have b0 : (⟨l.toArray⟩ : ByteArray)[p]'sz0 = c0 := hc0
          have t2 : ((c0.toNat : Int) == 85) = false := beq_eq_false_iff_ne.2 (fun e => d0 (UInt8.toNat_inj.1 (by show c0.toNat = 85; omega)))
          clear hc0 d0
          go_enter Tryz.func104, Tryz.ntmps104
          go_wp2_with fail
          refine HQ.out.mono ?_
          rintro e w1 ⟨rfl, hb⟩
          have HB := hid hb
          clear hb HQ
          go_wp2
          (try simp only [Exit.inBlock, Exit.then])
          refine bodyPost_ret (results_tmp4 rfl _ _ _) rfl ?_
          exact ⟨by rw [HC.out]; rfl, HB.out⟩
      · have t1 : ¬ (p : Int) + 1 < (l.length : Int) := by omega
        go_enter Tryz.func104, Tryz.ntmps104
        go_wp2_with fail
        refine HQ.out.mono ?_
        rintro e w1 ⟨rfl, hb⟩
        have HB := hid hb
        clear hb HQ
        go_wp2
        (try simp only [Exit.inBlock, Exit.then])
        refine bodyPost_ret (results_tmp4 rfl _ _ _) rfl ?_
        exact ⟨by rw [HC.out]; rfl, HB.out⟩

theorem rspelling_any (l : List UInt8) (p : Nat) (w : World) (hp : p ≤ l.length) (hl : l.length ≤ 100000) :
    Calls Tryz.prog 104 #[.string ⟨l.toArray⟩, .int .i64 p] w fun e w' => e = .returned (rsv (rspo l p)) ∧ Below w.heap.size w w' := by
  cases h : pre (l.drop p) [85, 43] with
  | true =>
    have hlen := pre_len h
    rw [List.length_drop] at hlen
    simp only [List.length_cons, List.length_nil] at hlen
    exact rspell_code l p w (by omega) hl h
  | false => exact rspell_quot l p w hp hl h
end Go.Proofs.YtohhokjlgihbgaaGreatDoor
/- The contract of the document's Parse. -/
namespace Go.Proofs.YtohhokjlgihbgaaGreatDoor
open Go.RowKit

theorem rspell_ok (l : List UInt8) (p : Nat) (w : World) (hp : p ≤ l.length) (hl : l.length ≤ 100000) (a : Int) (n : Nat) (h : spl l p = (a, n, 0)) :
    Calls Tryz.prog 104 #[.string ⟨l.toArray⟩, .int .i64 p] w fun e w' => e = .returned (.tuple #[.int .i32 a, .int .i64 (n : Nat), .int .i64 0, .int .i64 0]) ∧ Below w.heap.size w w' := by
  have := rspelling_any l p w hp hl
  unfold rspo at this
  rw [h, if_pos rfl] at this
  exact this
theorem rspell_no (l : List UInt8) (p : Nat) (w : World) (hp : p ≤ l.length) (hl : l.length ≤ 100000) (a : Int) (n : Nat) (er : Int) (h : spl l p = (a, n, er)) (he : er ≠ 0) :
    Calls Tryz.prog 104 #[.string ⟨l.toArray⟩, .int .i64 p] w fun e w' => e = .returned (.tuple #[.int .i32 0, .int .i64 0, .int .i64 er, .int .i64 (n : Nat)]) ∧ Below w.heap.size w w' := by
  have := rspelling_any l p w hp hl
  unfold rspo at this
  rw [h, if_neg he] at this
  exact this
theorem rspell_at (l : List UInt8) (p : Nat) (z : Int) (hz : z = (p : Int)) (w : World) (Q : Ending → World → Prop) (h : Calls Tryz.prog 104 #[.string ⟨l.toArray⟩, .int .i64 p] w Q) : Calls Tryz.prog 104 #[.string ⟨l.toArray⟩, .int .i64 z] w Q := by
  subst hz; exact h

set_option maxHeartbeats 4000000 in
set_option maxRecDepth 100000 in
theorem rparse_any (l : List UInt8) (w : World) (hl : l.length ≤ 100000) :
    Calls Tryz.prog 73 #[.string ⟨l.toArray⟩] w fun e w' => ∃ v, e = .returned (.tuple #[v, .int .i64 (par l).2.1, .int .i64 ((par l).2.2 : Nat)]) ∧ w'.ownsRow w.heap.size 84 2 v (par l).1.length (rgcs (par l).1) ∧ Below w.heap.size w w' := by
  obtain ⟨i0, hi, hz0, hz1, hz2⟩ := info_parts Tryz.info84
  have HSZ := hid (show (⟨l.toArray⟩ : ByteArray).size = l.length by show l.toArray.size = _; simp)
  go_enter Tryz.func73, Tryz.ntmps73
  go_wp2
  go_loopw [5, 6, 7, 8, 9, 10, 11, 12] (fun v x _ _ _ _ _ _ wq => ∃ (p : Nat) (acc : List Rg), p ≤ l.length ∧ x = .int .i64 p ∧ Hid (wq.ownsRow w.heap.size 84 2 v acc.length (rgcs acc)) ∧ Hid (Prs l p acc) ∧ acc.length ≤ p ∧ Hid (Below w.heap.size w wq)) (fun _ x _ _ _ _ _ _ _ => l.length + 1 - (intOf x).toNat)
  case atStart => exact ⟨0, [], by omega, rfl, World.ownsRow_nil _ _ _ _, Prs.start l, by simp, Below.refl _ _⟩
  case round =>
    obtain ⟨p, acc, hp, rfl, HO, HP, hac, HB⟩ := hrel
    obtain ⟨wo, hwo⟩ : ∃ wo, wo = wr := ⟨_, rfl⟩
    rw [← hwo] at HO HB ⊢
    clear hwo
    have hbs := HB.out.size
    go_wp2
    go_loopw [6] (fun x wq => ∃ q : Nat, p ≤ q ∧ q ≤ l.length ∧ x = .int .i64 q ∧ Hid (Prs l q acc) ∧ wq = wo) (fun x _ => l.length + 1 - (intOf x).toNat)
    case atStart => exact ⟨p, by omega, hp, rfl, HP, rfl⟩
    case round =>
      obtain ⟨q, hpq, hq, rfl, HQ, hw⟩ := hrel
      obtain rfl := hw.symm
      by_cases c1 : q = l.length
      · have HD := hid (HQ.out.done c1)
        obtain ⟨so, sc, hv, hrd⟩ := rdr_row HO.out
        subst hv
        have HN := hid (rnorm_any so sc acc wo hrd (by omega))
        subst c1
        clear hrd
        go_wp2_with fail
        refine HN.out.mono ?_
        rintro e w1 ⟨v1, rfl, o1, hb1⟩
        have HO1 := hid o1
        have HB1 := hid (HB.out.trans (hb1.mono HB.out.size))
        clear o1 hb1 HN
        go_wp2
        try rw [Exit.noGoto_ret]
        go_ret3
        refine ⟨v1, ?_, ?_, HB1.out⟩
        · rw [HD.out]; rfl
        · rw [HD.out]; exact ownsRow_base2 HO1.out HB.out.size
      · have hlt : q < l.length := by omega
        have c1' : ((q : Int) == (l.length : Int)) = false := beq_eq_false_iff_ne.2 (by omega)
        have c1'' : (q : Int) < (l.length : Int) := by omega
        have hszq : q < (⟨l.toArray⟩ : ByteArray).size := by rw [HSZ.out]; exact hlt
        have hbq : (⟨l.toArray⟩ : ByteArray)[q]'hszq = l[q] := rfl
        have hgd : l.getD q 0 = l[q] := by simp [List.getD, List.getElem?_eq_getElem hlt]
        by_cases c2 : l[q] = 32
        · have HQ2 := hid (HQ.out.blank hlt (hgd.trans c2))
          rw [c2] at hbq
          clear hgd c2
          go_wp2
          go_roundw
          case rel => exact ⟨q + 1, by omega, by omega, by go_num, HQ2, trivial⟩
          case measure => simp [intOf]; omega
        · have hg2 : l.getD q 0 ≠ 32 := by rw [hgd]; exact c2
          have hI := itm_le l q hq
          have hS := spl_le l q hq
          obtain ⟨c, hc⟩ : ∃ c, c = l[q] := ⟨_, rfl⟩
          rw [← hc] at hbq c2
          have c2' : ((c.toNat : Int) == 32) = false := beq_eq_false_iff_ne.2 (fun e => c2 (UInt8.toNat_inj.1 (by show c.toNat = 32; omega)))
          obtain ⟨lo, nx, er, hsp⟩ : ∃ a b d, spl l q = (a, b, d) := ⟨_, _, _, rfl⟩
          rw [hsp] at hS
          obtain ⟨s1, s2, s3, s4, s5, s6⟩ := hS
          dsimp only at s1 s2 s3 s4 s5 s6
          clear hc hgd c2 HP
          by_cases c3 : er = 0
          · subst c3
            have s4' := s4 rfl
            have HSP := hid (fun W => rspell_ok l q W hq hl lo nx hsp)
            clear s4
            go_wp2_with fail
            refine (HSP.out _).mono ?_
            rintro e w1 ⟨rfl, hb1⟩
            have HB1 := hid (HB.out.trans (hb1.mono hbs))
            have hbs1 := hb1.size
            have HO1 := hid (ownsRow_below HO.out hb1)
            clear hb1 HSP
            by_cases k1 : nx = l.length ∨ l.getD nx 0 ≠ 45
            · have HIT := hid (show itm l q = ((lo, lo), nx, 0) by unfold itm itmF; rw [hsp]; simp only [ne_eq, not_true, if_false]; rw [if_pos k1])
              have m1 : nx ≤ l.length := s1
              by_cases k2 : nx < l.length
              · have hszx : nx < (⟨l.toArray⟩ : ByteArray).size := by rw [HSZ.out]; exact k2
                have hbx : (⟨l.toArray⟩ : ByteArray)[nx]'hszx = l[nx] := rfl
                have hgx : l.getD nx 0 = l[nx] := by simp [List.getD, List.getElem?_eq_getElem k2]
                obtain ⟨y, hy⟩ : ∃ y, y = l[nx] := ⟨_, rfl⟩
                have k3 : y ≠ 45 := fun e => by rcases k1 with h | h; omega; exact h (hgx.trans (hy.symm.trans e))
                have k3' : ((y.toNat : Int) == 45) = false := beq_eq_false_iff_ne.2 (fun e => k3 (UInt8.toNat_inj.1 (by show y.toNat = 45; omega)))
                have k2' : (nx : Int) < (l.length : Int) := by omega
                have k9 : ¬ lo < lo := by omega
                clear k1 hgx k3 hsp hI
                rw [← hy] at hbx
                have HM := hid (HQ.out.more hlt hg2 (by rw [HIT.out]))
                have HS := hid (HQ.out.stuck hlt hg2 (by rw [HIT.out]))
                rw [HIT.out] at HM HS
                dsimp only at HM HS

                have c4' : (nx : Int) < (l.length : Int) := by omega
                have hgn : l.getD nx 0 = y := by rw [hy]; simp [List.getD, List.getElem?_eq_getElem k2]
                by_cases c5 : y = 32
                · have HM2 := hid (HM.out (fun h => h.2 (hgn.trans c5)))
                  clear HS HM hgn HIT HQ hy
                  subst c5
                  go_wp2_with (at_builtin; refine wpList_append_own _ rfl _ _ 47 rfl w.heap.size 84 i0 (.agg #[.int .i32 0, .int .i32 0]) 2 8 Tryz.underlying47 hi hz0 hz1 hz2 rfl (by decide) _ acc.length (rgcs acc) rfl (HO1.out.alloc _) ⟨w1.heap.size, 0, none⟩ 1 1 (rgc (lo, lo)) rfl rfl ?c1 ?c2 ?c3 ?c4 ?c5 ?_)
                  case c1 => exact app_news w1 (lo, lo) _ rfl
                  case c2 => exact rgc_one _
                  case c3 => unfold maxLen; omega
                  case c4 => omega
                  case c5 => simp; omega
                  intro v2 w2 o2 gr2 _
                  have HO2 := hid (show w2.ownsRow w.heap.size 84 2 v2 (acc ++ [(lo, lo)]).length (rgcs (acc ++ [(lo, lo)])) by rw [rgcs_snoc, len_snoc]; exact o2)
                  have HB2 := hid ((HB1.out.alloc (by omega) (.cells #[.int .i32 lo, .int .i32 lo] 84)).grown gr2 (by simp; omega) (fun j hj => (HO1.out.lt j hj).1))
                  clear o2 gr2
                  go_wp2
                  go_roundw
                  case rel => exact ⟨nx, acc ++ [(lo, lo)], m1, rfl, HO2, HM2, by rw [len_snoc]; omega, HB2⟩
                  case measure => simp [intOf]; omega
                · have HS2 := hid (HS.out ⟨k2, by rw [hgn]; exact c5⟩)
                  have c5' : ((y.toNat : Int) != 32) = true := bne_iff_ne.2 (fun e => c5 (UInt8.toNat_inj.1 (by show y.toNat = 32; omega)))
                  clear HS HM hgn c5 hy HIT HQ
                  go_wp2
                  try rw [Exit.noGoto_ret]
                  go_ret3
                  refine ⟨.slice none 0 0, ?_, ?_, HB1.out⟩
                  · rw [HS2.out]; rfl
                  · rw [HS2.out]; exact World.ownsRow_nil _ _ _ _
              · have k2' : ¬ (nx : Int) < (l.length : Int) := by omega
                have k9 : ¬ lo < lo := by omega
                clear k1 hsp hI
                have HM := hid (HQ.out.more hlt hg2 (by rw [HIT.out]))
                rw [HIT.out] at HM
                dsimp only at HM
                have HM2 := hid (HM.out (fun h => k2 h.1))
                clear HM HIT HQ
                go_wp2_with (at_builtin; refine wpList_append_own _ rfl _ _ 47 rfl w.heap.size 84 i0 (.agg #[.int .i32 0, .int .i32 0]) 2 8 Tryz.underlying47 hi hz0 hz1 hz2 rfl (by decide) _ acc.length (rgcs acc) rfl (HO1.out.alloc _) ⟨w1.heap.size, 0, none⟩ 1 1 (rgc (lo, lo)) rfl rfl ?c1 ?c2 ?c3 ?c4 ?c5 ?_)
                case c1 => exact app_news w1 (lo, lo) _ rfl
                case c2 => exact rgc_one _
                case c3 => unfold maxLen; omega
                case c4 => omega
                case c5 => simp; omega
                intro v2 w2 o2 gr2 _
                have HO2 := hid (show w2.ownsRow w.heap.size 84 2 v2 (acc ++ [(lo, lo)]).length (rgcs (acc ++ [(lo, lo)])) by rw [rgcs_snoc, len_snoc]; exact o2)
                have HB2 := hid ((HB1.out.alloc (by omega) (.cells #[.int .i32 lo, .int .i32 lo] 84)).grown gr2 (by simp; omega) (fun j hj => (HO1.out.lt j hj).1))
                clear o2 gr2
                go_wp2
                go_roundw
                case rel => exact ⟨nx, acc ++ [(lo, lo)], m1, rfl, HO2, HM2, by rw [len_snoc]; omega, HB2⟩
                case measure => simp [intOf]; omega
            · have hne : ¬ nx = l.length := fun e => k1 (.inl e)
              have k2 : nx < l.length := by omega
              have hszx : nx < (⟨l.toArray⟩ : ByteArray).size := by rw [HSZ.out]; exact k2
              have hgx : l.getD nx 0 = l[nx] := by simp [List.getD, List.getElem?_eq_getElem k2]
              have hbx : (⟨l.toArray⟩ : ByteArray)[nx]'hszx = 45 := hgx.symm.trans (Classical.not_not.1 fun e => k1 (.inr e))
              have k2' : (nx : Int) < (l.length : Int) := by omega
              obtain ⟨hi2, ny, e2, hsp2⟩ : ∃ a b d, spl l (nx + 1) = (a, b, d) := ⟨_, _, _, rfl⟩
              have hS2 := spl_le l (nx + 1) (by omega)
              rw [hsp2] at hS2
              obtain ⟨u1, u2, u3, u4, u5, u6⟩ := hS2
              dsimp only at u1 u2 u3 u4 u5 u6
              by_cases k4 : e2 = 0
              · subst k4
                have u4' := u4 rfl
                have HSP2 := hid (fun W => rspell_at l (nx + 1) ((nx : Int) + 1) (by omega) W _ (rspell_ok l (nx + 1) W (by omega) hl hi2 ny hsp2))
                have m1 : ny ≤ l.length := u1
                by_cases k5 : hi2 < lo
                · have HIT := hid (show itm l q = ((0, 0), q, 20) by unfold itm itmF; rw [hsp]; simp only [ne_eq, not_true, if_false]; rw [if_neg k1, hsp2, if_neg (by exact fun h => h rfl), if_pos k5])
                  have HW := hid (HQ.out.wrong hlt hg2 (by rw [HIT.out]; exact (by decide : (20 : Int) ≠ 0)))
                  rw [HIT.out] at HW
                  clear k1 hgx hsp hsp2 hI u4 HIT HQ
                  go_wp2_with fail
                  refine (HSP2.out _).mono ?_
                  rintro e w2 ⟨rfl, hb2⟩
                  have HB2 := hid (HB1.out.trans (hb2.mono (by omega)))
                  clear hb2 HSP2
                  go_wp2
                  try rw [Exit.noGoto_ret]
                  go_ret3
                  refine ⟨.slice none 0 0, ?_, ?_, HB2.out⟩
                  · rw [HW.out]; rfl
                  · rw [HW.out]; exact World.ownsRow_nil _ _ _ _
                · have HIT := hid (show itm l q = ((lo, hi2), ny, 0) by unfold itm itmF; rw [hsp]; simp only [ne_eq, not_true, if_false]; rw [if_neg k1, hsp2, if_neg (by exact fun h => h rfl), if_neg k5])
                  have s4 : q < ny := by omega
                  clear k1 hgx hsp hsp2 hI u4
                  obtain ⟨w0, hw0⟩ : ∃ w0, w0 = w1 := ⟨_, rfl⟩
                  rw [← hw0]
                  rw [← hw0] at HB1 HO1 hbs1
                  clear hw0 w1
                  have HB0 := hid HB1.out
                  have HO0 := hid HO1.out
                  have hbs0 := hbs1
                  clear HB1 HO1 hbs1
                  go_wp2_with fail
                  refine (HSP2.out _).mono ?_
                  rintro e w1 ⟨rfl, hb2⟩
                  have HB1 := hid (HB0.out.trans (hb2.mono (by omega)))
                  have hbs1 : wo.heap.size ≤ w1.heap.size := by have := hb2.size; omega
                  have HO1 := hid (ownsRow_below HO0.out hb2)
                  clear hb2 HSP2 HB0 HO0 hbs0
                  have HM := hid (HQ.out.more hlt hg2 (by rw [HIT.out]))
                  have HS := hid (HQ.out.stuck hlt hg2 (by rw [HIT.out]))
                  rw [HIT.out] at HM HS
                  dsimp only at HM HS
                  by_cases c4 : ny < l.length
                  · have hszn : ny < (⟨l.toArray⟩ : ByteArray).size := by rw [HSZ.out]; exact c4
                    have hbn : (⟨l.toArray⟩ : ByteArray)[ny]'hszn = l[ny] := rfl
                    have hgn : l.getD ny 0 = l[ny] := by simp [List.getD, List.getElem?_eq_getElem c4]
                    have c4' : (ny : Int) < (l.length : Int) := by omega
                    by_cases c5 : l[ny] = 32
                    · have HM2 := hid (HM.out (fun h => h.2 (hgn.trans c5)))
                      rw [c5] at hbn
                      clear HS HM hgn c5 HIT HQ
                      go_wp2_with (at_builtin; refine wpList_append_own _ rfl _ _ 47 rfl w.heap.size 84 i0 (.agg #[.int .i32 0, .int .i32 0]) 2 8 Tryz.underlying47 hi hz0 hz1 hz2 rfl (by decide) _ acc.length (rgcs acc) rfl (HO1.out.alloc _) ⟨w1.heap.size, 0, none⟩ 1 1 (rgc (lo, hi2)) rfl rfl ?c1 ?c2 ?c3 ?c4 ?c5 ?_)
                      case c1 => exact app_news w1 (lo, hi2) _ rfl
                      case c2 => exact rgc_one _
                      case c3 => unfold maxLen; omega
                      case c4 => omega
                      case c5 => simp; omega
                      intro v2 w2 o2 gr2 _
                      have HO2 := hid (show w2.ownsRow w.heap.size 84 2 v2 (acc ++ [(lo, hi2)]).length (rgcs (acc ++ [(lo, hi2)])) by rw [rgcs_snoc, len_snoc]; exact o2)
                      have HB2 := hid ((HB1.out.alloc (by omega) (.cells #[.int .i32 lo, .int .i32 hi2] 84)).grown gr2 (by simp; omega) (fun j hj => (HO1.out.lt j hj).1))
                      clear o2 gr2
                      go_wp2
                      go_roundw
                      case rel => exact ⟨ny, acc ++ [(lo, hi2)], m1, rfl, HO2, HM2, by rw [len_snoc]; omega, HB2⟩
                      case measure => simp [intOf]; omega
                    · have HS2 := hid (HS.out ⟨c4, by rw [hgn]; exact c5⟩)
                      obtain ⟨d, hd⟩ : ∃ d, d = l[ny] := ⟨_, rfl⟩
                      rw [← hd] at hbn c5
                      have c5' : ((d.toNat : Int) != 32) = true := bne_iff_ne.2 (fun e => c5 (UInt8.toNat_inj.1 (by show d.toNat = 32; omega)))
                      clear HS HM hgn c5 hd HIT HQ
                      go_wp2
                      try rw [Exit.noGoto_ret]
                      go_ret3
                      refine ⟨.slice none 0 0, ?_, ?_, HB1.out⟩
                      · rw [HS2.out]; rfl
                      · rw [HS2.out]; exact World.ownsRow_nil _ _ _ _
                  · have HM2 := hid (HM.out (fun h => c4 h.1))
                    have c4' : ¬ (ny : Int) < (l.length : Int) := by omega
                    clear HS HM HIT HQ
                    go_wp2_with (at_builtin; refine wpList_append_own _ rfl _ _ 47 rfl w.heap.size 84 i0 (.agg #[.int .i32 0, .int .i32 0]) 2 8 Tryz.underlying47 hi hz0 hz1 hz2 rfl (by decide) _ acc.length (rgcs acc) rfl (HO1.out.alloc _) ⟨w1.heap.size, 0, none⟩ 1 1 (rgc (lo, hi2)) rfl rfl ?c1 ?c2 ?c3 ?c4 ?c5 ?_)
                    case c1 => exact app_news w1 (lo, hi2) _ rfl
                    case c2 => exact rgc_one _
                    case c3 => unfold maxLen; omega
                    case c4 => omega
                    case c5 => simp; omega
                    intro v2 w2 o2 gr2 _
                    have HO2 := hid (show w2.ownsRow w.heap.size 84 2 v2 (acc ++ [(lo, hi2)]).length (rgcs (acc ++ [(lo, hi2)])) by rw [rgcs_snoc, len_snoc]; exact o2)
                    have HB2 := hid ((HB1.out.alloc (by omega) (.cells #[.int .i32 lo, .int .i32 hi2] 84)).grown gr2 (by simp; omega) (fun j hj => (HO1.out.lt j hj).1))
                    clear o2 gr2
                    go_wp2
                    go_roundw
                    case rel => exact ⟨ny, acc ++ [(lo, hi2)], m1, rfl, HO2, HM2, by rw [len_snoc]; omega, HB2⟩
                    case measure => simp [intOf]; omega
              · have HSP2 := hid (fun W => rspell_at l (nx + 1) ((nx : Int) + 1) (by omega) W _ (rspell_no l (nx + 1) W (by omega) hl hi2 ny e2 hsp2 k4))
                have HIT := hid (show itm l q = ((0, 0), ny, e2) by unfold itm itmF; rw [hsp]; simp only [ne_eq, not_true, if_false]; rw [if_neg k1, hsp2]; rw [if_pos k4])
                have HW := hid (HQ.out.wrong hlt hg2 (by rw [HIT.out]; exact k4))
                rw [HIT.out] at HW
                have k4' : (e2 != 0) = true := bne_iff_ne.2 k4
                clear k1 hgx hsp hsp2 hI u4 HIT HQ
                go_wp2_with fail
                refine (HSP2.out _).mono ?_
                rintro e w2 ⟨rfl, hb2⟩
                have HB2 := hid (HB1.out.trans (hb2.mono (by omega)))
                clear hb2 HSP2
                go_wp2
                try rw [Exit.noGoto_ret]
                go_ret3
                refine ⟨.slice none 0 0, ?_, ?_, HB2.out⟩
                · rw [HW.out]; rfl
                · rw [HW.out]; exact World.ownsRow_nil _ _ _ _
          · have HSP := hid (fun W => rspell_no l q W hq hl lo nx er hsp c3)
            have HIT := hid (show itm l q = ((0, 0), nx, er) by unfold itm itmF; rw [hsp]; rw [if_pos c3])
            have HW := hid (HQ.out.wrong hlt hg2 (by rw [HIT.out]; exact c3))
            rw [HIT.out] at HW
            have c3' : (er != 0) = true := bne_iff_ne.2 c3
            clear hsp hI s4 HIT HQ
            go_wp2_with fail
            refine (HSP.out _).mono ?_
            rintro e w1 ⟨rfl, hb1⟩
            have HB1 := hid (HB.out.trans (hb1.mono hbs))
            clear hb1 HSP
            go_wp2
            try rw [Exit.noGoto_ret]
            go_ret3
            refine ⟨.slice none 0 0, ?_, ?_, HB1.out⟩
            · rw [HW.out]; rfl
            · rw [HW.out]; exact World.ownsRow_nil _ _ _ _
end Go.Proofs.YtohhokjlgihbgaaGreatDoor
