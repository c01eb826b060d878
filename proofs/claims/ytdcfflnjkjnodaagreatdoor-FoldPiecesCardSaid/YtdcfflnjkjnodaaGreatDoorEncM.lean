/- Encoding, in plain functions: what is decoded and encoded again is what stood there; what is encoded is decoded again. -/
import Derived.Test.YtdcfflnjkjnodaaGreatDoorRMath
import Derived.Lib.ValidU
namespace Go.Proofs.YtdcfflnjkjnodaaGreatDoor

/-- A number is a rune. -/
def isR (r : Int) : Bool := decide (0 ≤ r) && (decide (r ≤ 1114111) && (decide (r < 55296) || decide (57343 < r)))
theorem isR_iff (r : Int) : isR r = true ↔ 0 ≤ r ∧ r ≤ 1114111 ∧ (r < 55296 ∨ 57343 < r) := by simp [isR]
/-- The places where a text is no UTF-8. -/
def flt (l : List UInt8) : List Int := ((mks 0 l).filter (·.bad)).map (·.pl)
/-- The bytes of a rune. -/
def enc (r : Int) : List UInt8 := (Utf8.encode r).data.toList
/-- The bytes of a number that is a rune. -/
def encN (c : Nat) : List UInt8 :=
  if c < 128 then [UInt8.ofNat c]
  else if c < 2048 then [UInt8.ofNat (192 + c / 64), UInt8.ofNat (128 + c % 64)]
  else if c < 65536 then [UInt8.ofNat (224 + c / 4096), UInt8.ofNat (128 + c / 64 % 64), UInt8.ofNat (128 + c % 64)]
  else [UInt8.ofNat (240 + c / 262144), UInt8.ofNat (128 + c / 4096 % 64), UInt8.ofNat (128 + c / 64 % 64), UInt8.ofNat (128 + c % 64)]

theorem valid_isR (r : Int) : Utf8.valid r = isR r := by
  unfold Utf8.valid isR
  apply Bool.eq_iff_iff.2
  simp
  omega
theorem enc_if (r : Int) (c : Nat) (hc : (if Utf8.valid r = true then r.toNat else Utf8.runeError) = c) : enc r = encN c := by
  unfold enc Utf8.encode encN
  simp only [hc]
  by_cases h1 : c < 128
  · rw [if_pos h1, if_pos h1]
  · rw [if_neg h1, if_neg h1]
    by_cases h2 : c < 2048
    · rw [if_pos h2, if_pos h2]
    · rw [if_neg h2, if_neg h2]
      by_cases h3 : c < 65536
      · rw [if_pos h3, if_pos h3]
      · rw [if_neg h3, if_neg h3]
theorem enc_rune (c : Nat) (h : isR c = true) : enc c = encN c :=
  enc_if c c (by rw [valid_isR, h, if_pos rfl]; exact Int.toNat_natCast c)
theorem enc_other (r : Int) (h : isR r = false) : enc r = encN 65533 :=
  enc_if r 65533 (by rw [valid_isR, h]; rfl)

theorem list_take2 (l : List UInt8) (h : 2 ≤ l.length) : l.take 2 = [l.getD 0 0, l.getD 1 0] := by
  match l, h with
  | a :: b :: r, _ => simp
theorem list_take3 (l : List UInt8) (h : 3 ≤ l.length) : l.take 3 = [l.getD 0 0, l.getD 1 0, l.getD 2 0] := by
  match l, h with
  | a :: b :: c :: r, _ => simp
theorem list_take4 (l : List UInt8) (h : 4 ≤ l.length) : l.take 4 = [l.getD 0 0, l.getD 1 0, l.getD 2 0, l.getD 3 0] := by
  match l, h with
  | a :: b :: c :: d :: r, _ => simp
theorem list_take1 (l : List UInt8) (h : 1 ≤ l.length) : l.take 1 = [l.getD 0 0] := by
  match l, h with
  | a :: r, _ => simp
theorem of_nat (b : UInt8) (n : Nat) (h : n = b.toNat) : UInt8.ofNat n = b := by subst h; simp

theorem dec_isR (l : List UInt8) (h : l ≠ []) : isR (dec l).1 = true := by
  rw [isR_iff, dec_numbers l h]
  generalize (l.getD 0 0).toNat = b0
  generalize (l.getD 1 0).toNat = b1
  generalize (l.getD 2 0).toNat = b2
  generalize (l.getD 3 0).toNat = b3
  unfold Lib.decodeN
  repeat' split
  all_goals (simp only []; omega)

/-- What was decoded, encoded again. -/
theorem enc_dec (l : List UInt8) (h : l ≠ []) (hb : ¬ ((dec l).1 = 65533 ∧ (dec l).2 = 1)) : enc (dec l).1 = l.take (dec l).2 := by
  rw [enc_rune _ (dec_isR l h)]
  have hp : 0 < l.length := List.length_pos_iff.2 h
  have t1 := list_take1 l
  have t2 := list_take2 l
  have t3 := list_take3 l
  have t4 := list_take4 l
  have g0 := (l.getD 0 0).toNat_lt
  have g1 := (l.getD 1 0).toNat_lt
  have g2 := (l.getD 2 0).toNat_lt
  have g3 := (l.getD 3 0).toNat_lt
  have q0 := of_nat (l.getD 0 0)
  have q1 := of_nat (l.getD 1 0)
  have q2 := of_nat (l.getD 2 0)
  have q3 := of_nat (l.getD 3 0)
  rw [dec_numbers l h] at hb ⊢
  generalize l.getD 0 0 = c0 at *
  generalize l.getD 1 0 = c1 at *
  generalize l.getD 2 0 = c2 at *
  generalize l.getD 3 0 = c3 at *
  unfold Lib.decodeN at hb ⊢
  by_cases h0 : c0.toNat < 128
  · rw [if_pos h0]
    dsimp only
    rw [t1 (by omega)]
    unfold encN
    rw [if_pos h0, q0 _ rfl]
  · rw [if_neg h0] at hb ⊢
    by_cases h1 : c0.toNat / 32 = 6 ∧ 1 < l.length ∧ c1.toNat / 64 = 2
    · rw [if_pos h1] at hb ⊢
      by_cases h2 : c0.toNat % 32 * 64 + c1.toNat % 64 ≥ 128
      · rw [if_pos h2]
        dsimp only
        rw [t2 (by omega)]
        unfold encN
        rw [if_neg (by omega), if_pos (by omega), q0 _ (by omega), q1 _ (by omega)]
      · rw [if_neg h2] at hb
        exact absurd ⟨rfl, rfl⟩ hb
    · rw [if_neg h1] at hb ⊢
      split at hb
      · rename_i h2
        rw [if_pos h2]
        split at hb
        · rename_i h3
          rw [if_pos h3]
          dsimp only
          rw [t3 (by omega)]
          unfold encN
          rw [if_neg (by omega), if_neg (by omega), if_pos (by omega), q0 _ (by omega), q1 _ (by omega), q2 _ (by omega)]
        · exact absurd ⟨rfl, rfl⟩ hb
      · rename_i h2
        rw [if_neg h2]
        split at hb
        · rename_i h3
          rw [if_pos h3]
          split at hb
          · rename_i h4
            rw [if_pos h4]
            dsimp only
            rw [t4 (by omega)]
            unfold encN
            rw [if_neg (by omega), if_neg (by omega), if_neg (by omega), q0 _ (by omega), q1 _ (by omega), q2 _ (by omega), q3 _ (by omega)]
          · exact absurd ⟨rfl, rfl⟩ hb
        · exact absurd ⟨rfl, rfl⟩ hb

/-- The text of runes. -/
def txt (xs : List Int) : List UInt8 := xs.flatMap enc
def cln (l : List UInt8) : List UInt8 := txt (rns l)

theorem cln_from (l : List UInt8) : ∀ (n t : Nat), l.length - t ≤ n → (∀ m ∈ mks t (l.drop t), m.bad = false) → txt ((mks t (l.drop t)).map (·.ru)) = l.drop t
  | 0, t, h, _ => by rw [mks_end l t (by omega), List.drop_of_length_le (by omega)]; rfl
  | n + 1, t, h, hb => by
    by_cases ht : t < l.length
    · have h1 := wid_ge l t ht
      rw [mks_at l t ht] at hb ⊢
      have hb0 := hb _ (List.mem_cons_self ..)
      have ih := cln_from l n (t + wid l t) (by omega) (fun m hm => hb m (List.mem_cons_of_mem _ hm))
      rw [List.map_cons]
      show enc (mk1 t (l.drop t)).ru ++ txt _ = _
      rw [ih]
      have : enc (mk1 t (l.drop t)).ru = (l.drop t).take (wid l t) := by
        refine enc_dec (l.drop t) (drop_ne l t ht) ?_
        unfold mk1 at hb0
        simp at hb0
        intro hh
        exact hb0 hh.2 hh.1
      rw [this, ← List.drop_drop, List.take_append_drop]
    · rw [mks_end l t ht, List.drop_of_length_le (by omega)]; rfl
theorem cln_valid (l : List UInt8) (h : flt l = []) : cln l = l := by
  have hb : ∀ m ∈ mks 0 (l.drop 0), m.bad = false := fun m hm => by
    unfold flt at h
    have h1 : (mks 0 l).filter (·.bad) = [] := List.map_eq_nil_iff.1 h
    have := List.filter_eq_nil_iff.1 h1 m (by simpa using hm)
    simpa using this
  have := cln_from l l.length 0 (by omega) hb
  unfold cln rns
  simpa using this

theorem valid_from (l : List UInt8) : ∀ (n t : Nat), l.length - t ≤ n → Lib.validGoD n (l.drop t) = decide ((mks t (l.drop t)).filter (·.bad) = [])
  | 0, t, h => by rw [mks_end l t (by omega)]; rfl
  | n + 1, t, h => by
    by_cases ht : t < l.length
    · have h1 := wid_ge l t ht
      have ih := valid_from l n (t + wid l t) (by omega)
      unfold Lib.validGoD
      rw [if_neg (drop_ne l t ht), mks_at l t ht, List.filter_cons, ← dec_eqL _ (drop_ne l t ht)]
      by_cases hb : (dec (l.drop t)).1 = 65533 ∧ (dec (l.drop t)).2 = 1
      · rw [if_pos hb]
        have : (mk1 t (l.drop t)).bad = true := by unfold mk1; simp [hb]
        rw [this]; simp
      · rw [if_neg hb]
        have : (mk1 t (l.drop t)).bad = false := by
          unfold mk1; simp
          intro h2 h3; exact hb ⟨h3, h2⟩
        rw [this, List.drop_drop]
        simpa [wid] using ih
    · rw [mks_end l t ht, List.drop_of_length_le (by omega)]
      simp [Lib.validGoD]
theorem valid_flt (l : List UInt8) : Lib.validD l = decide (flt l = []) := by
  unfold Lib.validD flt
  have := valid_from l l.length 0 (by omega)
  rw [List.drop_zero] at this
  rw [this]
  simp
end Go.Proofs.YtdcfflnjkjnodaaGreatDoor
