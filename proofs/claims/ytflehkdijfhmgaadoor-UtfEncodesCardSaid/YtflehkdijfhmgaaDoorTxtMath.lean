/- The text of runes, in plain functions: its runes are those that it was made of, and it has no fault. -/
import Derived.Test.YtflehkdijfhmgaaDoorRenc
namespace Go.Proofs.YtflehkdijfhmgaaDoor

/-- What stands for a number in a text. -/
def fix (r : Int) : Int := if isR r then r else 65533

theorem nat_byte (n : Nat) (h : n < 256) : (UInt8.ofNat n).toNat = n := by simp [UInt8.toNat_ofNat']; omega

theorem dec_encN (c : Nat) (h : isR c = true) (rest : List UInt8) : dec (encN c ++ rest) = (c, (encN c).length) := by
  have hh := (isR_iff c).1 h
  by_cases h1 : c < 128
  · have e : encN c = [UInt8.ofNat c] := by unfold encN; rw [if_pos h1]
    rw [e, dec_numbers _ (by simp)]
    simp only [List.cons_append, List.nil_append, List.getD_cons_zero, List.length_cons, List.length_nil]
    rw [nat_byte c (by omega)]
    unfold Lib.decodeN
    rw [if_pos h1]
  · by_cases h2 : c < 2048
    · have e : encN c = [UInt8.ofNat (192 + c / 64), UInt8.ofNat (128 + c % 64)] := by unfold encN; rw [if_neg h1, if_pos h2]
      rw [e, dec_numbers _ (by simp)]
      simp only [List.cons_append, List.nil_append, List.getD_cons_zero, List.getD_cons_succ, List.length_cons, List.length_nil]
      rw [nat_byte (192 + c / 64) (by omega), nat_byte (128 + c % 64) (by omega)]
      unfold Lib.decodeN
      rw [if_neg (by omega), if_pos (by omega), if_pos (by omega)]
      congr 1
      omega
    · by_cases h3 : c < 65536
      · have e : encN c = [UInt8.ofNat (224 + c / 4096), UInt8.ofNat (128 + c / 64 % 64), UInt8.ofNat (128 + c % 64)] := by unfold encN; rw [if_neg h1, if_neg h2, if_pos h3]
        rw [e, dec_numbers _ (by simp)]
        simp only [List.cons_append, List.nil_append, List.getD_cons_zero, List.getD_cons_succ, List.length_cons, List.length_nil]
        rw [nat_byte (224 + c / 4096) (by omega), nat_byte (128 + c / 64 % 64) (by omega), nat_byte (128 + c % 64) (by omega)]
        have q : (224 + c / 4096) % 16 * 4096 + (128 + c / 64 % 64) % 64 * 64 + (128 + c % 64) % 64 = c := by omega
        unfold Lib.decodeN
        rw [q, if_neg (by omega), if_neg (by omega), if_pos (by omega), if_pos (by omega)]
      · have e : encN c = [UInt8.ofNat (240 + c / 262144), UInt8.ofNat (128 + c / 4096 % 64), UInt8.ofNat (128 + c / 64 % 64), UInt8.ofNat (128 + c % 64)] := by unfold encN; rw [if_neg h1, if_neg h2, if_neg h3]
        rw [e, dec_numbers _ (by simp)]
        simp only [List.cons_append, List.nil_append, List.getD_cons_zero, List.getD_cons_succ, List.length_cons, List.length_nil]
        rw [nat_byte (240 + c / 262144) (by omega), nat_byte (128 + c / 4096 % 64) (by omega), nat_byte (128 + c / 64 % 64) (by omega), nat_byte (128 + c % 64) (by omega)]
        have q : (240 + c / 262144) % 8 * 262144 + (128 + c / 4096 % 64) % 64 * 4096 + (128 + c / 64 % 64) % 64 * 64 + (128 + c % 64) % 64 = c := by omega
        unfold Lib.decodeN
        rw [q, if_neg (by omega), if_neg (by omega), if_neg (by omega), if_pos (by omega), if_pos (by omega)]

theorem encN_one (c : Nat) (h : (encN c).length = 1) : c < 128 := by
  unfold encN at h
  split at h
  · assumption
  · split at h
    · simp at h
    · split at h <;> simp at h
theorem encN_ne (c : Nat) : encN c ≠ [] := by
  unfold encN
  repeat' split
  all_goals simp

/-- A number's bytes, by the rune that stands for it. -/
theorem enc_fix (r : Int) : ∃ c : Nat, fix r = c ∧ isR c = true ∧ enc r = encN c := by
  unfold fix
  cases h : isR r with
  | false => exact ⟨65533, rfl, by decide, enc_other r h⟩
  | true =>
    have hh := (isR_iff r).1 h
    obtain ⟨c, rfl⟩ : ∃ c : Nat, r = c := ⟨r.toNat, by omega⟩
    exact ⟨c, rfl, h, enc_rune c h⟩

theorem mks_txt : ∀ (xs : List Int) (t : Nat), (mks t (txt xs)).map (·.ru) = xs.map fix ∧ ∀ m ∈ mks t (txt xs), m.bad = false
  | [], t => ⟨rfl, fun m hm => by cases hm⟩
  | r :: xs, t => by
    obtain ⟨c, hf, hc, he⟩ := enc_fix r
    have ht : txt (r :: xs) = encN c ++ txt xs := by unfold txt; rw [List.flatMap_cons, he]
    have hd := dec_encN c hc (txt xs)
    have hne : encN c ++ txt xs ≠ [] := fun e => encN_ne c (List.append_eq_nil_iff.1 e).1
    obtain ⟨ih1, ih2⟩ := mks_txt xs (t + (encN c).length)
    have hm : mks t (txt (r :: xs)) = mk1 t (encN c ++ txt xs) :: mks (t + (encN c).length) (txt xs) := by
      rw [ht, mks_cons t _ hne, hd]
      simp
    have hru : (mk1 t (encN c ++ txt xs)).ru = fix r := by unfold mk1; rw [hd]; exact hf.symm
    have hbd : (mk1 t (encN c ++ txt xs)).bad = false := by
      unfold mk1
      rw [hd]
      simp only [Bool.and_eq_false_iff, decide_eq_false_iff_not]
      by_cases h1 : (encN c).length = 1
      · right
        have := encN_one c h1
        omega
      · exact .inl h1
    rw [hm]
    refine ⟨by rw [List.map_cons, List.map_cons, hru, ih1], fun m hm => ?_⟩
    rcases List.mem_cons.1 hm with rfl | hm
    · exact hbd
    · exact ih2 m hm
theorem rns_txt (xs : List Int) : rns (txt xs) = xs.map fix := (mks_txt xs 0).1
theorem flt_txt (xs : List Int) : flt (txt xs) = [] := by
  unfold flt
  rw [List.filter_eq_nil_iff.2 fun m hm => by rw [(mks_txt xs 0).2 m hm]; simp]
  rfl
end Go.Proofs.YtflehkdijfhmgaaDoor
