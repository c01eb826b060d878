/- The contract of number (a reader of bytes, package table). -/
import Derived.Test.YtljlhlcoaajggaaReader
import Derived.Laws.BitsAllLaws
namespace Go.Proofs.Ytljlhlcoaajggaa
open Go.RowKit

/-- A number read, and what is left. -/
def rdn : List Nat → Nat × List Nat
  | c0 :: r0 => if c0 < 128 then (c0, r0) else match r0 with
    | c1 :: r1 => if c1 < 128 then (c0 % 128 + c1 * 128, r1) else match r1 with
      | c2 :: r2 => if c2 < 128 then (c0 % 128 + c1 % 128 * 128 + c2 * 16384, r2) else (0, [])
      | [] => (0, [])
    | [] => (0, [])
  | [] => (0, [])
set_option maxRecDepth 100000 in
theorem and_more (c : Nat) (h : c < 256) : bits .andNot .u8 (c : Int) 128 = ((c % 128 : Nat) : Int) := by
  have H : ∀ c : Fin 256, bits .andNot .u8 ((c : Nat) : Int) 128 = (((c : Nat) % 128 : Nat) : Int) := by decide
  exact H ⟨c, h⟩
theorem i64_or_nat (a b : Nat) (ha : a < 9223372036854775808) (hb : b < 9223372036854775808) : bits .or .i64 (a : Int) (b : Int) = ((a ||| b : Nat) : Int) := by
  have h1 : a ||| b < 2 ^ 63 := Nat.or_lt_two_pow ha hb
  have e : bits .or .i64 (a : Int) (b : Int) = IntKind.i64.wrap (((BitVec.ofInt 64 (a : Int) ||| BitVec.ofInt 64 (b : Int)).toNat : Nat) : Int) := rfl
  rw [e, BitVec.toNat_or, BitVec.toNat_ofInt, BitVec.toNat_ofInt]
  rw [show ((a : Int) % ((2 ^ 64 : Nat) : Int)).toNat = a by omega, show ((b : Int) % ((2 ^ 64 : Nat) : Int)).toNat = b by omega, IntKind.wrap_i64]
  have h2 : a ||| b < 9223372036854775808 := h1
  omega
theorem or_add (a b k : Nat) (h : a < 2 ^ k) (hb : b * 2 ^ k < 9223372036854775808) (ha : a < 9223372036854775808) : bits .or .i64 (a : Int) ((b * 2 ^ k : Nat) : Int) = ((a + b * 2 ^ k : Nat) : Int) := by
  have e : a ||| b * 2 ^ k = a + b * 2 ^ k := by
    have := Nat.shiftLeft_add_eq_or_of_lt h b
    rw [Nat.shiftLeft_eq] at this
    rw [Nat.or_comm, ← this, Nat.add_comm]
  rw [i64_or_nat a _ ha hb, e]

theorem add_add (a : Addr) (k j : Nat) : (a.add k).add j = a.add (k + j) := by
  unfold Addr.add
  split <;> split <;> simp_all <;> omega
theorem RdU.drop {w : World} {a : Addr} {l : List Nat} (h : RdU w (some a) l) (k : Nat) : RdU w (some (a.add k)) (l.drop k) := fun j d hj => by
  rw [List.getElem?_drop] at hj
  obtain ⟨b, hb, h1, h2⟩ := h (k + j) d hj
  cases hb
  exact ⟨_, rfl, by rw [add_blk]; exact h1, by rw [add_add]; exact h2⟩
/-- The number so far. -/
def acn : List Nat → Nat → Nat
  | _, 0 => 0
  | b, 1 => b.getD 0 0 % 128
  | b, 2 => b.getD 0 0 % 128 + b.getD 1 0 % 128 * 128
  | b, _ => b.getD 0 0 % 128 + b.getD 1 0 % 128 * 128 + b.getD 2 0 % 128 * 16384
/-- The numbers ahead have more. -/
def mor (b : List Nat) (i : Nat) : Prop := ∀ j, j < i → 128 ≤ b.getD j 0

theorem rdn_at0 {b : List Nat} {c : Nat} (hb : 0 < b.length) (h : b.getD 0 0 = c) (hc : c < 128) : rdn b = (c % 128, b.drop 1) := by
  cases b with
  | nil => simp at hb
  | cons c0 r0 =>
    have : c0 = c := by simpa using h
    subst this
    unfold rdn
    dsimp only
    rw [if_pos hc, Nat.mod_eq_of_lt hc]; rfl
theorem rdn_at1 {b : List Nat} {c : Nat} (hb : 1 < b.length) (hm : mor b 1) (h : b.getD 1 0 = c) (hc : c < 128) : rdn b = (b.getD 0 0 % 128 + c % 128 * 128, b.drop 2) := by
  cases b with
  | nil => simp at hb
  | cons c0 r0 =>
    cases r0 with
    | nil => simp at hb
    | cons c1 r1 =>
      have : c1 = c := by simpa using h
      subst this
      have h0 : 128 ≤ c0 := by simpa using hm 0 (by omega)
      unfold rdn
      dsimp only
      rw [if_neg (by omega)]
      rw [if_pos hc, Nat.mod_eq_of_lt hc]; rfl
theorem rdn_at2 {b : List Nat} {c : Nat} (hb : 2 < b.length) (hm : mor b 2) (h : b.getD 2 0 = c) (hc : c < 128) : rdn b = (b.getD 0 0 % 128 + b.getD 1 0 % 128 * 128 + c % 128 * 16384, b.drop 3) := by
  cases b with
  | nil => simp at hb
  | cons c0 r0 =>
    cases r0 with
    | nil => simp at hb
    | cons c1 r1 =>
      cases r1 with
      | nil => simp at hb
      | cons c2 r2 =>
        have : c2 = c := by simpa using h
        subst this
        have h0 : 128 ≤ c0 := by simpa using hm 0 (by omega)
        have h1 : 128 ≤ c1 := by simpa using hm 1 (by omega)
        unfold rdn
        dsimp only
        rw [if_neg (by omega)]
        rw [if_neg (by omega), if_pos hc, Nat.mod_eq_of_lt hc]; rfl
theorem rdn_end {b : List Nat} (hm : mor b (min 3 b.length)) : rdn b = (0, []) := by
  cases b with
  | nil => rfl
  | cons c0 r0 =>
    have h0 : 128 ≤ c0 := by simpa using hm 0 (by simp; omega)
    unfold rdn
    dsimp only
    rw [if_neg (by omega)]
    cases r0 with
    | nil => rfl
    | cons c1 r1 =>
      have h1 : 128 ≤ c1 := by simpa using hm 1 (by simp; omega)
      dsimp only
      rw [if_neg (by omega)]
      cases r1 with
      | nil => rfl
      | cons c2 r2 =>
        have h2 : 128 ≤ c2 := by simpa using hm 2 (by simp)
        dsimp only
        rw [if_neg (by omega)]
theorem mor_next {b : List Nat} {i : Nat} (h : mor b i) (hc : 128 ≤ b.getD i 0) : mor b (i + 1) := fun j hj => by
  rcases Nat.lt_or_ge j i with h5 | h5
  · exact h j h5
  · rw [show j = i by omega]; exact hc
/-- What is left of a slice. -/
theorem left_rd {w : World} {a : Addr} {b : List Nat} {k ac : Nat} (h : RdU w (some a) b) (hk : k ≤ b.length) (hac : b.length ≤ ac) : RdU w (if ac = k then some a else some (a.add k)) (b.drop k) ∧ (b.drop k).length ≤ ac - k := by
  refine ⟨?_, by rw [List.length_drop]; omega⟩
  split
  · rename_i e
    have : b.drop k = [] := List.drop_of_length_le (by omega)
    rw [this]
    exact fun j d hj => by simp at hj
  · exact h.drop k
set_option maxHeartbeats 2000000 in
set_option maxRecDepth 100000 in
theorem readN_any (X : Nat) (ao : Option Addr) (ac : Nat) (b : List Nat) (w : World) (hb : RdU w ao b) (h8 : ∀ c ∈ b, c < 256) (hl : b.length ≤ 1000000000) (hac : b.length ≤ ac) (hx : w.cell? ⟨X, 0, none⟩ = some (.slice ao b.length ac)) (hf : w.frozen? ⟨X, 0, none⟩ = false) :
    Calls Try.prog 57 #[.pointer (some ⟨X, 0, none⟩)] w fun e w' => e = .returned (.int .i64 (((rdn b).1 : Nat) : Int)) ∧ ∃ ao' ac' k, w' = (w.drewN k).setCell ⟨X, 0, none⟩ (.slice ao' (rdn b).2.length ac') ∧ (∀ W, RdU W ao b → RdU W ao' (rdn b).2) ∧ (rdn b).2.length ≤ ac' := by
  have HR := hid hb
  have H8 := hid h8
  obtain ⟨n, hn⟩ : ∃ n, n = b.length := ⟨_, rfl⟩
  rw [← hn] at hx hac hl
  have HN := hid hn
  obtain ⟨m, hm⟩ : ∃ m, m = min 3 n := ⟨_, rfl⟩
  have hm1 : m ≤ 3 := by omega
  have hm2 : m ≤ n := by omega
  have HE1 := hid (show (if (n : Int) < 3 then (n : Int) else 3) = (m : Int) by split <;> omega)
  have i1 : (m : Int) ≤ (ac : Int) := by omega
  have i2 : (0 : Int) ≤ (m : Int) := by omega
  have HM := hid hm
  clear hn hm hb h8
  go_enter Try.func57, Try.ntmps57
  go_wp2
  go_quiet (fail)
  rw [HE1.out, show ((m : Int)).toNat = m by omega, show max (m : Int) 0 = (m : Int) by omega]
  have hxW : (w.drewN nq).cell? ⟨X, 0, none⟩ = some (.slice ao n ac) := hx
  have hfW : (w.drewN nq).frozen? ⟨X, 0, none⟩ = false := hf
  have HRW := hid (show RdU (w.drewN nq) ao b from HR.out)
  have HWQ := hid (show ∃ k, w.drewN nq = w.drewN k from ⟨nq, rfl⟩)
  obtain ⟨W, hW⟩ : ∃ W, W = w.drewN nq := ⟨_, rfl⟩
  rw [← hW] at hxW hfW HRW HWQ ⊢
  clear hW hx hf
  have HM0 := hid (show mor b 0 from fun j hj => absurd hj (Nat.not_lt_zero _))
  go_wp2
  go_loopw [16, 3] (fun x y wr => ∃ (i : Nat), x = .int .i64 (i : Int) ∧ y = .int .i64 ((acn b i : Nat) : Int) ∧ i ≤ m ∧ Hid (mor b i) ∧ Hid (wr = W)) (fun x _ _ => m - (intOf x).toNat)
  case atStart => exact ⟨0, rfl, rfl, by omega, HM0, rfl⟩
  case round =>
    obtain ⟨i, rfl, rfl, hi, HMI, HWW⟩ := hrel
    obtain rfl := HWW.out.symm
    by_cases hlt : i < m
    · have hib : i < b.length := by have h5 := HN.out; omega
      obtain ⟨a, rfl, ha, a0⟩ := HRW.out i b[i] (List.getElem?_eq_getElem hib)
      have h256 := H8.out b[i] (List.getElem_mem hib)
      have HBI := hid (show b.getD i 0 = b[i] by rw [List.getD, List.getElem?_eq_getElem hib]; rfl)
      obtain ⟨c, hc⟩ : ∃ c, c = b[i] := ⟨_, rfl⟩
      rw [← hc] at a0 h256 HBI
      have e2 := and_more c h256
      obtain ⟨d, hd⟩ : ∃ d, d = c % 128 := ⟨_, rfl⟩
      rw [← hd] at e2
      have e3 : IntKind.i64.wrap (d : Int) = (d : Int) := by rw [IntKind.wrap_i64]; omega
      have i3 : (i : Int) < (m : Int) := by omega
      have i0 : (0 : Int) ≤ (i : Int) := by omega
      have HDC := hid hd
      have hdl : d < 128 := by omega
      clear hc hd
      have hi3 : i = 0 ∨ i = 1 ∨ i = 2 := by omega
      rcases hi3 with rfl | rfl | rfl
      · rw [add_nil] at a0
        have i4 : (0 : Int) < (m : Int) := by omega
        clear i3 i0
        have eo : bits .or .i64 ((acn b 0 : Nat) : Int) (d : Int) = (d : Int) := by
          have := i64_or_nat (acn b 0) d (by show 0 < 9223372036854775808; decide) (by omega)
          rw [this]; simp [acn]
        have HAN := hid (show ((acn b 1 : Nat) : Int) = (d : Int) by show ((b.getD 0 0 % 128 : Nat) : Int) = _; rw [HBI.out, ← HDC.out])
        by_cases hc : c < 128
        · have hc' : (c : Int) < 128 := by omega
          have HRD := hid (rdn_at0 (by omega) HBI.out hc)
          have HR2 := hid (show rdn b = (d, b.drop 1) from HRD.out.trans (by rw [← HDC.out]))
          have HLF := hid (show ∀ W, RdU W (some a) b → _ from fun W (h : RdU W (some a) b) => (left_rd (k := 1) h (by omega) (show b.length ≤ ac by rw [← HN.out]; exact hac)).1)
          have HLN := hid (show (b.drop 1).length = n - 1 by rw [List.length_drop, ← HN.out])
          clear hc
          go_wp2
          · rename_i hce
            go_ret
            obtain ⟨k, hk⟩ := HWQ.out
            have l1 := HLF.out
            simp only [if_pos (show ac = 1 by omega)] at l1
            rw [HR2.out]
            exact ⟨rfl, some a, 0, ⟨k, by rw [hk, HLN.out]⟩, l1, by rw [HLN.out]; omega⟩
          · rename_i hce
            go_ret
            obtain ⟨k, hk⟩ := HWQ.out
            have l1 := HLF.out
            simp only [if_neg (show ¬ ac = 1 by omega)] at l1
            rw [show a.add 1 = ⟨a.block, a.off + 1, none⟩ by rw [add_more, add_nil]] at l1
            rw [HR2.out]
            exact ⟨rfl, _, _, ⟨k, by rw [hk, HLN.out]⟩, l1, by rw [HLN.out]; omega⟩
        · have hc' : ¬ (c : Int) < 128 := by omega
          have HM2 := hid (mor_next HMI.out (by rw [HBI.out]; omega))
          clear hc
          go_wp2
          go_roundw
          case rel => exact ⟨1, by go_num, by rw [HAN.out], by omega, HM2, by first | exact (trivial : True) | rfl⟩
          case measure => simp [intOf]; omega
      · rw [show a.add 1 = ⟨a.block, a.off + 1, none⟩ by rw [add_more, add_nil]] at a0
        have i4 : (1 : Int) < (m : Int) := by omega
        clear i3 i0
        have ew : wrap64 ((d : Int) * 128) = (d : Int) * 128 := by unfold wrap64; omega
        have hA : acn b 1 < 128 := Nat.mod_lt _ (by decide)
        have HA1 := hid (show acn b 1 = b.getD 0 0 % 128 from rfl)
        obtain ⟨q, hq⟩ : ∃ q, q = acn b 1 := ⟨_, rfl⟩
        rw [← hq] at hA HA1 ⊢
        have eo : bits .or .i64 (q : Int) ((d : Int) * 128) = ((q + d * 128 : Nat) : Int) := by
          have h5 := or_add q d 7 hA (by omega) (by omega)
          rw [show ((d * 2 ^ 7 : Nat) : Int) = (d : Int) * 128 by omega] at h5
          exact h5
        have HAN := hid (show ((acn b 2 : Nat) : Int) = ((q + d * 128 : Nat) : Int) by show ((b.getD 0 0 % 128 + b.getD 1 0 % 128 * 128 : Nat) : Int) = _; rw [HBI.out, ← HDC.out, HA1.out])
        obtain ⟨s, hs⟩ : ∃ s, s = q + d * 128 := ⟨_, rfl⟩
        rw [← hs] at eo HAN
        have HSV := hid hs
        clear hs hq
        by_cases hc : c < 128
        · have hc' : (c : Int) < 128 := by omega
          have HRD := hid (rdn_at1 (by omega) HMI.out HBI.out hc)
          have HR2 := hid (show rdn b = (s, b.drop 2) from HRD.out.trans (by rw [HSV.out, HA1.out, ← HDC.out]))
          have HLF := hid (show ∀ W, RdU W (some a) b → _ from fun W (h : RdU W (some a) b) => (left_rd (k := 2) h (by omega) (show b.length ≤ ac by rw [← HN.out]; exact hac)).1)
          have HLN := hid (show (b.drop 2).length = n - 2 by rw [List.length_drop, ← HN.out])
          clear hc
          go_wp2
          · rename_i hce
            go_ret
            obtain ⟨k, hk⟩ := HWQ.out
            have l1 := HLF.out
            simp only [if_pos (show ac = 2 by omega)] at l1
            rw [HR2.out]
            exact ⟨rfl, some a, 0, ⟨k, by rw [hk, HLN.out]⟩, l1, by rw [HLN.out]; omega⟩
          · rename_i hce
            go_ret
            obtain ⟨k, hk⟩ := HWQ.out
            have l1 := HLF.out
            simp only [if_neg (show ¬ ac = 2 by omega)] at l1
            rw [show a.add 2 = ⟨a.block, a.off + 2, none⟩ by rw [add_more, add_more, add_nil]] at l1
            rw [HR2.out]
            exact ⟨rfl, _, _, ⟨k, by rw [hk, HLN.out]⟩, l1, by rw [HLN.out]; omega⟩
        · have hc' : ¬ (c : Int) < 128 := by omega
          have HM2 := hid (mor_next HMI.out (by rw [HBI.out]; omega))
          clear hc
          go_wp2
          go_roundw
          case rel => exact ⟨2, by go_num, by rw [HAN.out], by omega, HM2, by first | exact (trivial : True) | rfl⟩
          case measure => simp [intOf]; omega
      · rw [show a.add 2 = ⟨a.block, a.off + 2, none⟩ by rw [add_more, add_more, add_nil]] at a0
        have i4 : (2 : Int) < (m : Int) := by omega
        clear i3 i0
        have ew : wrap64 ((d : Int) * 16384) = (d : Int) * 16384 := by unfold wrap64; omega
        have hA : acn b 2 < 16384 := by
          show b.getD 0 0 % 128 + b.getD 1 0 % 128 * 128 < 16384
          have h5 := Nat.mod_lt (b.getD 0 0) (show 0 < 128 by decide)
          have h6 := Nat.mod_lt (b.getD 1 0) (show 0 < 128 by decide)
          omega
        have HA1 := hid (show acn b 2 = b.getD 0 0 % 128 + b.getD 1 0 % 128 * 128 from rfl)
        obtain ⟨q, hq⟩ : ∃ q, q = acn b 2 := ⟨_, rfl⟩
        rw [← hq] at hA HA1 ⊢
        have eo : bits .or .i64 (q : Int) ((d : Int) * 16384) = ((q + d * 16384 : Nat) : Int) := by
          have h5 := or_add q d 14 hA (by omega) (by omega)
          rw [show ((d * 2 ^ 14 : Nat) : Int) = (d : Int) * 16384 by omega] at h5
          exact h5
        obtain ⟨s, hs⟩ : ∃ s, s = q + d * 16384 := ⟨_, rfl⟩
        have HAN := hid (show ((acn b 3 : Nat) : Int) = ((q + d * 16384 : Nat) : Int) by show ((b.getD 0 0 % 128 + b.getD 1 0 % 128 * 128 + b.getD 2 0 % 128 * 16384 : Nat) : Int) = _; rw [HBI.out, ← HDC.out, HA1.out])
        rw [← hs] at eo HAN
        have HSV := hid hs
        clear hs hq
        by_cases hc : c < 128
        · have hc' : (c : Int) < 128 := by omega
          have HRD := hid (rdn_at2 (by omega) HMI.out HBI.out hc)
          have HR2 := hid (show rdn b = (s, b.drop 3) from HRD.out.trans (by rw [HSV.out, HA1.out, ← HDC.out]))
          have HLF := hid (show ∀ W, RdU W (some a) b → _ from fun W (h : RdU W (some a) b) => (left_rd (k := 3) h (by omega) (show b.length ≤ ac by rw [← HN.out]; exact hac)).1)
          have HLN := hid (show (b.drop 3).length = n - 3 by rw [List.length_drop, ← HN.out])
          clear hc
          go_wp2
          · rename_i hce
            go_ret
            obtain ⟨k, hk⟩ := HWQ.out
            have l1 := HLF.out
            simp only [if_pos (show ac = 3 by omega)] at l1
            rw [HR2.out]
            exact ⟨rfl, some a, 0, ⟨k, by rw [hk, HLN.out]⟩, l1, by rw [HLN.out]; omega⟩
          · rename_i hce
            go_ret
            obtain ⟨k, hk⟩ := HWQ.out
            have l1 := HLF.out
            simp only [if_neg (show ¬ ac = 3 by omega)] at l1
            rw [show a.add 3 = ⟨a.block, a.off + 3, none⟩ by rw [add_more, add_more, add_more, add_nil]] at l1
            rw [HR2.out]
            exact ⟨rfl, _, _, ⟨k, by rw [hk, HLN.out]⟩, l1, by rw [HLN.out]; omega⟩
        · have hc' : ¬ (c : Int) < 128 := by omega
          have HM2 := hid (mor_next HMI.out (by rw [HBI.out]; omega))
          clear hc
          go_wp2
          go_roundw
          case rel => exact ⟨3, by go_num, by rw [HAN.out], by omega, HM2, by first | exact (trivial : True) | rfl⟩
          case measure => simp [intOf]; omega
    · have i3 : ¬ (i : Int) < (m : Int) := by omega
      have hie : i = m := by omega
      have HRE := hid (show rdn b = (0, []) from rdn_end (by rw [← HN.out, ← HM.out, ← hie]; exact HMI.out))
      have HNL := hid (show ∀ W, RdU W ao b → RdU W none ([] : List Nat) from fun W _ j d hj => by simp at hj)
      clear hie
      go_wp2
      go_ret
      obtain ⟨k, hk⟩ := HWQ.out
      rw [HRE.out]
      exact ⟨rfl, none, 0, ⟨k, by rw [hk]; rfl⟩, HNL.out, Nat.le_refl _⟩
end Go.Proofs.Ytljlhlcoaajggaa
