/- The contracts of step and find (package props): the first place of a byte that stands in no spelling. -/
import Derived.Test.YtohhokjlgihbgaaGreatDoorGf
import Derived.Test.YtohhokjlgihbgaaGreatDoorGd
namespace Go.Proofs.YtohhokjlgihbgaaGreatDoor
open Go.RowKit

/-- How many bytes at the beginning are one thing. -/
def stp (l : List UInt8) : Nat := if l.getD 0 0 = 39 ∧ 0 < (dec (l.drop 1)).2 ∧ 1 + (dec (l.drop 1)).2 < l.length ∧ l.getD (1 + (dec (l.drop 1)).2) 0 = 39 then (dec (l.drop 1)).2 + 2 else 1
theorem stp_pos (l : List UInt8) : 1 ≤ stp l := by unfold stp; split <;> omega
theorem stp_le (l : List UInt8) (h : l ≠ []) : stp l ≤ l.length := by
  have h1 : 1 ≤ l.length := by cases l with | nil => exact absurd rfl h | cons => simp
  unfold stp
  split
  · rename_i h5; omega
  · exact h1
set_option maxHeartbeats 1000000 in
set_option maxRecDepth 100000 in
theorem step_any (l : List UInt8) (w : World) (hne : l ≠ []) (hl : l.length ≤ 1000000000) (hT : Lib.Utf8Tabs 0 1 w) :
    Calls Tryz.prog 96 #[.string ⟨l.toArray⟩] w fun e w' => e = .returned (.int .i64 (stp l : Nat)) ∧ Below w.heap.size w w' := by
  have hsz : (⟨l.toArray⟩ : ByteArray).size = l.length := by show l.toArray.size = _; simp
  have hlen : 0 < l.length := by cases l with | nil => exact absurd rfl hne | cons => simp
  have HSZ := hid hsz
  have hin := dec_in (l.drop 1)
  rw [List.length_drop] at hin
  obtain ⟨n, hn⟩ : ∃ n, n = (dec (l.drop 1)).2 := ⟨_, rfl⟩
  obtain ⟨r, hr⟩ : ∃ r : Int, r = ((dec (l.drop 1)).1 : Int) := ⟨_, rfl⟩
  have HD := hid (decode_eq ((⟨l.toArray⟩ : ByteArray).extract 1 l.length) (l.drop 1) r n w (ext_drop l 1) hr hn hT)
  have HQ := hid (show stp l = if l.getD 0 0 = 39 ∧ 0 < n ∧ 1 + n < l.length ∧ l.getD (1 + n) 0 = 39 then n + 2 else 1 by unfold stp; rw [← hn])
  rw [← hn] at hin
  have hsz0 : 0 < (⟨l.toArray⟩ : ByteArray).size := by rw [hsz]; exact hlen
  have hq0 : (⟨l.toArray⟩ : ByteArray)[0]'hsz0 = l[0] := rfl
  have hg0 : l.getD 0 0 = l[0] := by simp [List.getD, hlen]
  rw [hg0] at HQ
  have t0 : (0 : Int) < (l.length : Int) := by omega
  have t1 : (1 : Int) ≤ (l.length : Int) := by omega
  generalize l[0] = c at *
  clear hn hr hT hsz hg0
  by_cases c0 : c = 39
  · have c0' : (c.toNat : Int) = 39 := by rw [c0]; rfl
    have c0'' : ((c.toNat : Int) != 39) = false := by rw [c0']; rfl
    subst c0
    go_enter Tryz.func96, Tryz.ntmps96
    go_wp2_with fail
    refine HD.out.mono ?_
    rintro e w1 ⟨rfl, hb1⟩
    have HB1 := hid hb1
    clear hb1 HD
    by_cases c1 : 0 < n
    · have c1' : (0 : Int) < (n : Int) := by omega
      by_cases c2 : 1 + n < l.length
      · have c2' : (1 : Int) + n < (l.length : Int) := by omega
        have hszk : 1 + n < (⟨l.toArray⟩ : ByteArray).size := by rw [HSZ.out]; exact c2
        have hq : (⟨l.toArray⟩ : ByteArray)[1 + n]'hszk = l[1 + n] := rfl
        have hgd : l.getD (1 + n) 0 = l[1 + n] := by simp [List.getD, List.getElem?_eq_getElem c2]
        rw [hgd] at HQ
        generalize l[1 + n] = d at *
        by_cases c3 : d = 39
        · have HC := hid (show stp l = n + 2 by rw [HQ.out, if_pos ⟨by first | rfl | trivial, c1, c2, c3⟩])
          subst c3
          go_wp2
          go_ret
          exact ⟨by rw [HC.out]; go_num, HB1.out⟩
        · have c3' : ((d.toNat : Int) == 39) = false := beq_eq_false_iff_ne.2 (fun e => c3 (by
            have h5 : d.toNat = 39 := by omega
            exact UInt8.toNat_inj.1 h5))
          have HC := hid (show stp l = 1 by rw [HQ.out, if_neg (fun h => c3 h.2.2.2)])
          go_wp2
          go_ret
          exact ⟨by rw [HC.out]; rfl, HB1.out⟩
      · have c2' : ¬ (1 : Int) + n < (l.length : Int) := by omega
        have HC := hid (show stp l = 1 by rw [HQ.out, if_neg (fun h => c2 h.2.2.1)])
        go_wp2
        go_ret
        exact ⟨by rw [HC.out]; rfl, HB1.out⟩
    · have c1' : ¬ (0 : Int) < (n : Int) := by omega
      have HC := hid (show stp l = 1 by rw [HQ.out, if_neg (fun h => c1 h.2.1)])
      go_wp2
      go_ret
      exact ⟨by rw [HC.out]; rfl, HB1.out⟩
  · have c0' : ((c.toNat : Int) != 39) = true := bne_iff_ne.2 (fun e => c0 (by
      have h5 : c.toNat = 39 := by omega
      exact UInt8.toNat_inj.1 h5))
    have HC := hid (show stp l = 1 by rw [HQ.out, if_neg (fun h => c0 h.1)])
    go_enter Tryz.func96, Tryz.ntmps96
    go_wp2
    go_ret
    exact ⟨by rw [HC.out]; rfl, Below.refl _ _⟩
/-- The first place of c that stands in no spelling. -/
def fdF (c : UInt8) (l : List UInt8) : Nat → Nat → Nat
  | 0, t => t
  | f + 1, t => if t < l.length ∧ l.getD t 0 ≠ c then fdF c l f (t + stp (l.drop t)) else t
def fdp (c : UInt8) (l : List UInt8) : Nat := fdF c l (l.length + 1) 0
theorem fdF_more (c : UInt8) (l : List UInt8) : ∀ (f g t : Nat), l.length < f + t → l.length < g + t → fdF c l f t = fdF c l g t
  | 0, 0, _, _, _ => rfl
  | 0, g + 1, t, h, _ => by show t = (if _ then _ else t); rw [if_neg (by omega)]
  | f + 1, 0, t, _, h => by show (if _ then _ else t) = t; rw [if_neg (by omega)]
  | f + 1, g + 1, t, h1, h2 => by
    show (if _ then fdF c l f (t + stp (l.drop t)) else t) = (if _ then fdF c l g (t + stp (l.drop t)) else t)
    have h5 := stp_pos (l.drop t)
    rw [fdF_more c l f g (t + stp (l.drop t)) (by omega) (by omega)]
theorem fdF_le (c : UInt8) (l : List UInt8) : ∀ (f t : Nat), t ≤ l.length → fdF c l f t ≤ l.length
  | 0, _, h => h
  | f + 1, t, h => by
    show (if _ then fdF c l f (t + stp (l.drop t)) else t) ≤ _
    split
    · rename_i h5
      refine fdF_le c l f _ ?_
      have h6 := stp_le (l.drop t) (fun e => by have h7 := congrArg List.length e; simp at h7; omega)
      simp only [List.length_drop] at h6
      omega
    · exact h
theorem fdp_le (c : UInt8) (l : List UInt8) : fdp c l ≤ l.length := fdF_le c l _ 0 (Nat.zero_le _)
theorem step_eq (s : ByteArray) (l : List UInt8) (k : Nat) (w : World) (hs : s = ⟨l.toArray⟩) (hk : k = stp l) (hne : l ≠ []) (hl : l.length ≤ 1000000000) (hT : Lib.Utf8Tabs 0 1 w) :
    Calls Tryz.prog 96 #[.string s] w fun e w' => e = .returned (.int .i64 (k : Nat)) ∧ Below w.heap.size w w' := by
  subst hs hk
  exact step_any l w hne hl hT
set_option maxHeartbeats 1000000 in
set_option maxRecDepth 100000 in
theorem find_any (l : List UInt8) (c : UInt8) (w : World) (hl : l.length ≤ 1000000000) (hT : Lib.Utf8Tabs 0 1 w) (h2 : 2 ≤ w.heap.size) :
    Calls Tryz.prog 66 #[.string ⟨l.toArray⟩, .int .u8 (c.toNat : Int)] w fun e w' => e = .returned (.int .i64 (fdp c l : Nat)) ∧ Below w.heap.size w w' := by
  have HSZ := hid (show (⟨l.toArray⟩ : ByteArray).size = l.length by show l.toArray.size = _; simp)
  have HT := hid (show ∀ W, Below w.heap.size w W → Lib.Utf8Tabs 0 1 W from fun W hW => tabs_below hT h2 hW)
  clear hT
  go_enter Tryz.func66, Tryz.ntmps66
  go_wp2
  go_loopw [5] (fun x wr => ∃ (t f : Nat), x = .int .i64 (t : Int) ∧ t ≤ l.length ∧ Hid (l.length < f + t ∧ fdF c l f t = fdp c l) ∧ Hid (Below w.heap.size w wr)) (fun x _ => l.length - (intOf x).toNat)
  case atStart => exact ⟨0, l.length + 1, rfl, by omega, ⟨by omega, rfl⟩, Below.refl _ _⟩
  case round =>
    obtain ⟨t, f, rfl, ht, HF, HB⟩ := hrel
    by_cases hlt : t < l.length
    · have hszk : t < (⟨l.toArray⟩ : ByteArray).size := by rw [HSZ.out]; exact hlt
      have tl : (t : Int) < (l.length : Int) := by omega
      have tl2 : (t : Int) ≤ (l.length : Int) := by omega
      have t0 : (0 : Int) ≤ (t : Int) := by omega
      have hq : (⟨l.toArray⟩ : ByteArray)[t]'hszk = l[t] := rfl
      have hgd : l.getD t 0 = l[t] := by simp [List.getD, hlt]
      have HE := hid (show fdp c l = if l[t] ≠ c then fdF c l l.length (t + stp (l.drop t)) else t by
        rw [← HF.out.2, fdF_more c l f (l.length + 1) t HF.out.1 (by omega)]
        show (if t < l.length ∧ l.getD t 0 ≠ c then _ else t) = _
        rw [hgd]
        by_cases h5 : l[t] ≠ c
        · rw [if_pos ⟨hlt, h5⟩, if_pos h5]
        · rw [if_neg (fun h => h5 h.2), if_neg h5])
      have hdn : l.drop t ≠ [] := fun e => by have h7 := congrArg List.length e; simp at h7; omega
      have hsp := stp_pos (l.drop t)
      have hsl := stp_le (l.drop t) hdn
      simp only [List.length_drop] at hsl
      obtain ⟨k, hk⟩ : ∃ k, k = stp (l.drop t) := ⟨_, rfl⟩
      have HS := hid (step_eq ((⟨l.toArray⟩ : ByteArray).extract t l.length) (l.drop t) k wr (ext_drop l t) hk hdn (by simp; omega) (HT.out wr HB.out))
      rw [← hk] at hsp hsl HE
      generalize l[t] = d at *
      clear hgd hdn hk
      by_cases c1 : d = c
      · have c1' : ((d.toNat : Int) != (c.toNat : Int)) = false := by rw [c1]; simp
        have HV := hid (show fdp c l = t by rw [HE.out, if_neg (fun h => h c1)])
        go_wp2
        go_ret
        exact ⟨by rw [HV.out]; rfl, HB.out⟩
      · have c1' : ((d.toNat : Int) != (c.toNat : Int)) = true := bne_iff_ne.2 (fun e => c1 (by
          have h5 : d.toNat = c.toNat := by omega
          exact UInt8.toNat_inj.1 h5))
        have HV := hid (show fdF c l l.length (t + k) = fdp c l by rw [HE.out, if_pos c1])
        go_wp2_with fail
        refine HS.out.mono ?_
        rintro e w1 ⟨rfl, b1⟩
        have HB1 := hid (HB.out.trans (b1.mono HB.out.size))
        clear b1 HS
        go_wp2
        go_roundw
        case rel => exact ⟨t + k, l.length, by go_num, by omega, ⟨by omega, HV.out⟩, HB1⟩
        case measure => simp [intOf]; omega
    · have tl : ¬ (t : Int) < (l.length : Int) := by omega
      have HV := hid (show fdp c l = t by
        rw [← HF.out.2, fdF_more c l f (l.length + 1) t HF.out.1 (by omega)]
        show (if t < l.length ∧ l.getD t 0 ≠ c then _ else t) = _
        rw [if_neg (fun h => hlt h.1)])
      go_wp2
      go_ret
      exact ⟨by rw [HV.out]; rfl, HB.out⟩
end Go.Proofs.YtohhokjlgihbgaaGreatDoor
/- The library's sort at nil: nothing is done. -/
namespace Go.Proofs.YtohhokjlgihbgaaGreatDoor
open Go.RowKit
set_option maxRecDepth 100000
set_option maxHeartbeats 1000000
theorem len64_zero (w : World) : Calls Tryz.prog 175 #[.int .u64 0] w fun e w' => e = .returned (.int .i64 0) ∧ w' = w := by
  go_enter Tryz.func175, Tryz.ntmps175
  go_wp2
  go_ret
  exact ⟨by kernel_rfl, rfl⟩
theorem len_zero (w : World) : Calls Tryz.prog 146 #[.int .u64 0] w fun e w' => e = .returned (.int .i64 0) ∧ w' = w := by
  go_enter Tryz.func146, Tryz.ntmps146
  go_wp2_with fail
  refine (len64_zero w).mono ?_
  rintro e w2 ⟨rfl, h⟩
  obtain rfl := h.symm
  go_wp2
  go_ret
  exact ⟨rfl, rfl⟩
theorem insertion_nil (f : Value) (w : World) : Calls Tryz.prog 166 #[.slice none 0 0, .int .i64 0, .int .i64 0, f] w fun e w' => e = .returned (.tuple #[]) ∧ w' = w := by
  go_enter Tryz.func166, Tryz.ntmps166
  go_wp2
  go_loopw [8] (fun i wr => i = .int .i64 1 ∧ wr = w) (fun _ _ => 0)
  case atStart => exact ⟨rfl, rfl⟩
  case round =>
    obtain ⟨rfl, h⟩ := hrel
    obtain rfl := h.symm
    go_wp2
    exact bodyPost_end (results_none rfl _ _ _) rfl ⟨rfl, rfl⟩
theorem pdq_nil (n : Int) (f : Value) (w : World) : Calls Tryz.prog 145 #[.slice none 0 0, .int .i64 0, .int .i64 0, .int .i64 n, f] w fun e w' => e = .returned (.tuple #[]) ∧ w' = w := by
  go_enter Tryz.func145, Tryz.ntmps145
  go_wp2
  go_loopw [1, 2] (fun a b wr => a = .int .i64 0 ∧ b = .int .i64 0 ∧ wr = w) (fun _ _ _ => 0)
  case atStart => exact ⟨rfl, rfl, rfl⟩
  case round =>
    obtain ⟨rfl, rfl, h⟩ := hrel
    obtain rfl := h.symm
    go_wp2_with fail
    refine (insertion_nil f w).mono ?_
    rintro e w2 ⟨rfl, h⟩
    obtain rfl := h.symm
    go_wp2
    exact bodyPost_ret (results_none rfl _ _ _) rfl ⟨rfl, rfl⟩
theorem sort_nil (f : Value) (w : World) : Calls Tryz.prog 126 #[.slice none 0 0, f] w fun e w' => e = .returned (.tuple #[]) ∧ w' = w := by
  go_enter Tryz.func126, Tryz.ntmps126
  go_wp2_with fail
  refine (len_zero w).mono ?_
  rintro e w2 ⟨rfl, h⟩
  obtain rfl := h.symm
  go_wp2_with fail
  refine (pdq_nil 0 f w).mono ?_
  rintro e w2 ⟨rfl, h⟩
  obtain rfl := h.symm
  go_wp2
  exact bodyPost_end (results_none rfl _ _ _) rfl ⟨rfl, rfl⟩
end Go.Proofs.YtohhokjlgihbgaaGreatDoor
/- The contract of sorted (package runes), by what the library's sort does. -/
namespace Go.Proofs.YtohhokjlgihbgaaGreatDoor
open Go.RowKit

/-- What the library's sort does with a row of the call's own. -/
def SortSays : Prop := ∀ (B g cap : Nat) (l : List Rg) (w : World), w.ownsRow B 84 2 (.slice (some ⟨g, 0, none⟩) l.length cap) l.length (rgcs l) → B ≤ w.heap.size → B ≤ g → g < w.heap.size → l.length ≤ 1000000 → (∀ x, x ∈ l → 0 ≤ x.1 ∧ x.1 ≤ x.2 ∧ x.2 ≤ top) →
    Calls Tryz.prog 126 #[.slice (some ⟨g, 0, none⟩) l.length cap, .func (.func 127) #[] #[]] w fun e w' => e = .returned (.tuple #[]) ∧ ∃ s : List Rg, s.length = l.length ∧ srt 0 s ∧ (∀ r, isin r s ↔ isin r l) ∧ RdR w' (some ⟨g, 0, none⟩) s ∧ Below B w w'

theorem step_snoc {l s : List Rg} {k : Nat} {c0 c1 : Int} (hk : k < l.length) (h : ∀ r, isin r s ↔ means r (l.take k)) (hc : ∀ r, (c0 ≤ r ∧ r ≤ c1) ↔ (0 ≤ r ∧ r ≤ top ∧ l[k].1 ≤ r ∧ r ≤ l[k].2)) :
    ∀ r, isin r (s ++ [(c0, c1)]) ↔ means r (l.take (k + 1)) := fun r => by
  rw [isin_app, means_take l k hk, h r]
  show _ ∨ ((c0 ≤ r ∧ r ≤ c1) ∨ False) ↔ _
  rw [or_false, hc r]
def vld (s : List Rg) : Prop := ∀ x, x ∈ s → 0 ≤ x.1 ∧ x.1 ≤ x.2 ∧ x.2 ≤ top
theorem vld_snoc {s : List Rg} {c0 c1 : Int} (h : vld s) (h0 : 0 ≤ c0) (h1 : c0 ≤ c1) (h2 : c1 ≤ top) : vld (s ++ [(c0, c1)]) := fun x hx => by
  rcases List.mem_append.1 hx with h' | h'
  · exact h x h'
  · simp at h'; subst h'; exact ⟨h0, h1, h2⟩

set_option maxRecDepth 100000 in
set_option maxHeartbeats 3000000 in
theorem sorted_of (hsort : SortSays) (ao : Option Addr) (ac : Nat) (l : List Rg) (w : World) (ha : RdR w ao l) (hl : l.length ≤ 100000) :
    Calls Tryz.prog 107 #[.slice ao l.length ac] w fun e w' => ∃ (so : Option Addr) (sc : Nat) (s : List Rg), e = .returned (.slice so s.length sc) ∧ srt 0 s ∧ (∀ r, isin r s ↔ means r l) ∧ s.length ≤ l.length ∧ RdR w' so s ∧ Below w.heap.size w w' := by
  obtain ⟨i0, hi, hz0, hz1, hz2⟩ := info_parts Tryz.info84
  have HA := hid ha
  have HSO := hid hsort
  clear ha hsort
  go_enter Tryz.func107, Tryz.ntmps107
  go_wp2
  go_loopw [3, 8] (fun v i wr => ∃ (k : Nat) (s : List Rg), k ≤ l.length ∧ i = .int .i64 k ∧ Hid (wr.ownsRow w.heap.size 84 2 v s.length (rgcs s)) ∧ Hid (vld s) ∧ Hid (∀ r, isin r s ↔ means r (l.take k)) ∧ s.length ≤ k ∧ Below w.heap.size w wr) (fun _ i _ => l.length - (intOf i).toNat)
  case atStart => exact ⟨0, [], by omega, rfl, World.ownsRow_nil _ _ _ _, fun x hx => (by cases hx), fun r => by simp [isin, means], by simp, Below.refl _ _⟩
  case round =>
    obtain ⟨k, s, hk, rfl, HO, HV, HM, hsk, hB⟩ := hrel
    have hws := hB.size
    by_cases hlt : k < l.length
    · obtain ⟨a, rfl, ha, a0, a1⟩ := HA.out.below hB k l[k] (List.getElem?_eq_getElem hlt)
      have HY := hid (fun (c0 c1 : Int) => step_snoc (c0 := c0) (c1 := c1) hlt HM.out)
      have HN := hid (step_no hlt HM.out)
      generalize l[k].1 = z0 at *
      generalize l[k].2 = z1 at *
      obtain ⟨c0, q0⟩ : ∃ c0 : Int, (if z0 < 0 then 0 else z0) = c0 := ⟨_, rfl⟩
      obtain ⟨c1, q1⟩ : ∃ c1 : Int, (if 1114111 < z1 then 1114111 else z1) = c1 := ⟨_, rfl⟩
      have HC0 := hid (show c0 = max z0 0 by rw [← q0]; split <;> omega)
      have HC1 := hid (show c1 = min z1 1114111 by rw [← q1]; split <;> omega)
      by_cases hc : c0 ≤ c1
      · have HY2 := hid (HY.out c0 c1 (fun r => by have := HC0.out; have := HC1.out; unfold top; omega))
        have HV2 := hid (vld_snoc HV.out (by have := HC0.out; omega) hc (by have := HC1.out; unfold top; omega))
        go_wp2_with (at_builtin; refine wpList_append_own _ rfl _ _ 47 rfl w.heap.size 84 i0 (.agg #[.int .i32 0, .int .i32 0]) 2 8 Tryz.underlying47 hi hz0 hz1 hz2 rfl (by decide) _ s.length (rgcs s) rfl ((HO.out.alloc _).alloc _) ⟨wr.heap.size + 1, 0, none⟩ 1 1 (rgc (c0, c1)) rfl rfl ?c1 ?c2 ?c3 ?c4 ?c5 ?_)
        case c1 =>
          have hn := news_r (wr.alloc (.cells #[.int .i32 c0, .int .i32 c1] 84)) (c0, c1) 84
          rw [World.size_alloc] at hn
          exact hn
        case c2 => exact rgc_one _
        case c3 => unfold maxLen; omega
        case c4 => omega
        case c5 => simp; omega
        intro v2 w2 o2 gr2 _
        have HO2 := hid (show w2.ownsRow w.heap.size 84 2 v2 (s ++ [(c0, c1)]).length (rgcs (s ++ [(c0, c1)])) by rw [rgcs_snoc, len_snoc]; exact o2)
        have HB2 := hid (((hB.alloc hB.size (.cells #[.int .i32 c0, .int .i32 c1] 84)).alloc (by simp; omega) (.cells #[.int .i32 c0, .int .i32 c1] 84)).grown gr2 (by simp; omega) (fun j hj => (HO.out.lt j hj).1))
        clear o2 gr2
        go_wp2
        go_roundw
        case rel => exact ⟨k + 1, s ++ [(c0, c1)], by omega, by go_num, HO2, HV2, HY2, by rw [len_snoc]; omega, HB2⟩
        case measure => simp [intOf]; omega
      · have HN2 := hid (HN.out (fun r => by have := HC0.out; have := HC1.out; unfold top; omega))
        go_wp2
        go_roundw
        case rel => exact ⟨k + 1, s, by omega, by go_num, HO.out.alloc _, HV, HN2, by omega, hB.alloc hB.size _⟩
        case measure => simp [intOf]; omega
    · have HM2 := hid (show ∀ r, isin r s ↔ means r l by have h := HM.out; rw [List.take_of_length_le (by omega)] at h; exact h)
      rcases HO.out.2 with ⟨h1, h2⟩ | ⟨g, cap, cur, h1, h2, h3, h4⟩
      · subst h1
        have h0 : s = [] := List.length_eq_zero_iff.1 h2
        go_wp2_with fail
        refine (sort_nil _ wr).mono ?_
        rintro e w2 ⟨rfl, hw⟩
        obtain rfl := hw.symm
        go_wp2
        go_ret
        exact ⟨none, 0, [], rfl, trivial, fun r => by rw [← HM2.out r, h0], by simp, fun k g hk => (by cases hk), hB⟩
      · subst h1
        have hg := (Array.getElem?_eq_some_iff.1 h3).1
        have HS1 := hid (HSO.out w.heap.size g cap s wr HO.out hws h2 hg (by omega) HV.out)
        clear h3 h4
        go_wp2_with fail
        refine HS1.out.mono ?_
        rintro e w2 ⟨rfl, s2, e2, h2s, h2i, h2r, h2b⟩
        have HB2 := hid (hB.trans h2b)
        have HR2 := hid h2r
        have HI2 := hid (show ∀ r, isin r s2 ↔ means r l from fun r => (h2i r).trans (HM2.out r))
        have HS2 := hid h2s
        have HL2 := hid e2
        clear h2s h2i h2r h2b e2
        go_wp2
        go_ret
        exact ⟨some ⟨g, 0, none⟩, cap, s2, by rw [HL2.out]; rfl, HS2.out, HI2.out, by have := HL2.out; omega, HR2.out, HB2.out⟩
end Go.Proofs.YtohhokjlgihbgaaGreatDoor
/- The contract of Norm (package runes): the normal form of what a list means. -/
namespace Go.Proofs.YtohhokjlgihbgaaGreatDoor
open Go.RowKit

set_option maxRecDepth 100000 in
set_option maxHeartbeats 3000000 in
theorem norm_of (hsort : SortSays) (ao : Option Addr) (ac : Nat) (l : List Rg) (w : World) (ha : RdR w ao l) (hl : l.length ≤ 100000) :
    Calls Tryz.prog 83 #[.slice ao l.length ac] w fun e w' => ∃ v, e = .returned v ∧ w'.ownsRow w.heap.size 84 2 v (nrm l).length (rgcs (nrm l)) ∧ Below w.heap.size w w' := by
  obtain ⟨i0, hi, hz0, hz1, hz2⟩ := info_parts Tryz.info84
  have HSO := hid (sorted_of hsort ao ac l w ha hl)
  clear ha hsort
  go_enter Tryz.func83, Tryz.ntmps83
  go_wp2_with fail
  refine HSO.out.mono ?_
  rintro e Wr ⟨so, sc, s, rfl, hS, hM, hsl, hrd, hB⟩
  have HS := hid hS
  have HNR := hid (mrg_nrm hS hM)
  have HRD := hid hrd
  have HB0 := hid hB
  have hws := hB.size
  have hs5 : s.length ≤ 100000 := by omega
  clear hS hM hrd hB HSO hsl
  go_wp2
  go_loopw [3, 10] (fun v i wq => ∃ (k : Nat) (O : List Rg), k ≤ s.length ∧ i = .int .i64 k ∧ Hid (wq.ownsRow Wr.heap.size 84 2 v O.length (rgcs O)) ∧ Hid (Mid s O k) ∧ O.length ≤ k ∧ Hid (∀ g, g ∈ O → 0 ≤ g.2 ∧ g.2 ≤ 1114111) ∧ Hid (Below Wr.heap.size Wr wq)) (fun _ i _ => s.length - (intOf i).toNat)
  case atStart => exact ⟨0, [], by omega, rfl, World.ownsRow_nil _ _ _ _, Mid.start s, by simp, fun g hg => (by cases hg), Below.refl _ _⟩
  case round =>
    obtain ⟨k, O, hk, rfl, HO, HMi, hok, HBD, HB⟩ := hrel
    have hbs := HB.out.size
    by_cases hlt : k < s.length
    · obtain ⟨gs, rfl, hgs, y0, y1⟩ := HRD.out k s[k] (List.getElem?_eq_getElem hlt)
      obtain ⟨b1, b2, b3⟩ := srt_at HS.out (List.getElem?_eq_getElem hlt)
      unfold top at b3
      replace y0 := (HB.out.cell (p := gs.add (k * 2)) (by rw [add_blk]; exact hgs)).trans y0
      replace y1 := (HB.out.cell (p := ⟨(gs.add (k * 2)).block, (gs.add (k * 2)).off + 1, none⟩) (show (gs.add (k * 2)).block < _ by rw [add_blk]; exact hgs)).trans y1
      have i3 : (k : Int) < (s.length : Int) := by omega
      have hgw : gs.block < wr.heap.size := by omega
      rcases HMi.out with ⟨hk0, hO⟩ | ⟨Q, lo, hi', hO, hQ⟩
      · subst hO
        have HFI := hid (show Mid s [s[k]] (k + 1) by subst hk0; exact Mid.first hlt)
        obtain ⟨oo, oc, hu6, _, _⟩ := row_reads HO.out
        subst hu6
        obtain ⟨f0, hf0⟩ : ∃ f0, f0 = s[k].1 := ⟨_, rfl⟩
        obtain ⟨f1, hf1⟩ : ∃ f1, f1 = s[k].2 := ⟨_, rfl⟩
        have HF1 := hid (show Mid s [(f0, f1)] (k + 1) by have e : s[k] = (f0, f1) := Prod.ext hf0.symm hf1.symm; have h := HFI.out; rw [e] at h; exact h)
        rw [← hf0] at y0 b1 b2
        rw [← hf1] at y1 b2 b3
        clear hf0 hf1 HFI hk0 HMi hok HBD
        go_wp2_with fail
        go_quiet (fail)
        go_wp2_with (at_builtin; refine wpList_append_own _ rfl _ _ 47 rfl Wr.heap.size 84 i0 (.agg #[.int .i32 0, .int .i32 0]) 2 8 Tryz.underlying47 hi hz0 hz1 hz2 rfl (by decide) (.slice oo 0 oc) 0 [] rfl (((show wr.ownsRow Wr.heap.size 84 2 (.slice oo 0 oc) 0 [] from HO.out).alloc _).alloc _) ⟨wr.heap.size + 1, 0, none⟩ 1 1 (rgc (f0, f1)) rfl rfl ?c1 ?c2 ?c3 ?c4 ?c5 ?_)
        case c1 =>
          have hn := news_r ((wr.alloc (.cells #[.int .i32 f0, .int .i32 f1] 84)).drewN nq) (f0, f1) 84
          rw [show ((wr.alloc (.cells #[.int .i32 f0, .int .i32 f1] 84)).drewN nq).heap.size = wr.heap.size + 1 by simp] at hn
          exact hn
        case c2 => exact rgc_one _
        case c3 => unfold maxLen; omega
        case c4 => omega
        case c5 => simp; omega
        intro v2 w2 o2 gr2 _
        have HO2 := hid (show w2.ownsRow Wr.heap.size 84 2 v2 [(f0, f1)].length (rgcs [(f0, f1)]) from o2)
        have HB2 := hid (((below_drewN (HB.out.alloc hbs (.cells #[.int .i32 f0, .int .i32 f1] 84)) nq).alloc (by simp; omega) (.cells #[.int .i32 f0, .int .i32 f1] 84)).grown gr2 (by simp; omega) (fun j hj => (HO.out.lt j hj).1))
        clear o2 gr2
        go_wp2
        go_roundw
        case rel => exact ⟨k + 1, [(f0, f1)], by omega, by go_num, HO2, HF1, by simp, fun g hg => (by simp at hg; subst hg; exact ⟨by dsimp only; omega, b3⟩), HB2⟩
        case measure => simp [intOf]; omega
      · subst hO
        obtain ⟨oo, oc, hu6, hog, _⟩ := row_reads HO.out
        obtain ⟨g, hoo, hgB, hgl⟩ := hog (by simp)
        subst hoo
        subst hu6
        obtain ⟨p0, p1⟩ := row_cell HO.out Q.length (lo, hi') (by simp)
        have q1 := row_frozen HO.out (Q.length * 2 + 1)
        have hbd := HBD.out (lo, hi') (by simp)
        obtain ⟨n, hn⟩ : ∃ n, n = Q.length := ⟨_, rfl⟩
        have hOl : (Q ++ [(lo, hi')]).length = n + 1 := by rw [hn]; simp
        have HJ := hid (fun hc => Mid.join hlt hQ hc)
        have HMo := hid (fun hc => Mid.more hlt hQ hc)
        obtain ⟨f0, hf0⟩ : ∃ f0, f0 = s[k].1 := ⟨_, rfl⟩
        obtain ⟨f1, hf1⟩ : ∃ f1, f1 = s[k].2 := ⟨_, rfl⟩
        rw [← hf0] at y0 b1 b2
        rw [← hf1] at y1 b2 b3
        rw [← hn] at p0 p1 q1
        dsimp only at hbd p0 p1
        have es : s[k] = (f0, f1) := Prod.ext hf0.symm hf1.symm
        rw [← hf0, ← hf1] at HJ
        rw [← hf0, es] at HMo
        have HQL := hid hn
        have HOL := hid hOl
        clear hf0 hf1 es hn HMi hQ
        have HO1 := hid (show wr.ownsRow Wr.heap.size 84 2 (.slice (some ⟨g, 0, none⟩) (n + 1) oc) (Q ++ [(lo, hi')]).length (rgcs (Q ++ [(lo, hi')])) by have h := HO.out; rw [hOl] at h ⊢; exact h)
        rw [hOl] at hok ⊢
        clear hOl HO
        have t0 : decide ((n : Int) < 0) = false := decide_eq_false (by omega)
        have esub : ((n : Int) + 1) - 1 = (n : Int) := by omega
        have ewr : IntKind.i64.wrap (n : Int) = (n : Int) := by rw [IntKind.wrap_i64]; omega
        have ew32 : IntKind.i32.wrap (hi' + 1) = hi' + 1 := by rw [IntKind.wrap_i32]; omega
        have i1 : (0 : Int) ≤ (n : Int) := by omega
        have i2 : (n : Int) < (n : Int) + 1 := by omega
        by_cases hc : hi' + 1 < f0
        · have HF2 := hid (HMo.out hc)
          clear HJ HMo
          go_wp2_with fail
          go_quiet (fail)
          go_wp2_with (at_builtin; refine wpList_append_own _ rfl _ _ 47 rfl Wr.heap.size 84 i0 (.agg #[.int .i32 0, .int .i32 0]) 2 8 Tryz.underlying47 hi hz0 hz1 hz2 rfl (by decide) (.slice (some ⟨g, 0, none⟩) (n + 1) oc) (Q ++ [(lo, hi')]).length (rgcs (Q ++ [(lo, hi')])) rfl (((show wr.ownsRow Wr.heap.size 84 2 (.slice (some ⟨g, 0, none⟩) (n + 1) oc) (Q ++ [(lo, hi')]).length (rgcs (Q ++ [(lo, hi')])) from HO1.out).alloc _).alloc _) ⟨wr.heap.size + 1, 0, none⟩ 1 1 (rgc (f0, f1)) rfl rfl ?c1 ?c2 ?c3 ?c4 ?c5 ?_)
          case c1 =>
            have hn := news_r ((wr.alloc (.cells #[.int .i32 f0, .int .i32 f1] 84)).drewN nq) (f0, f1) 84
            rw [show ((wr.alloc (.cells #[.int .i32 f0, .int .i32 f1] 84)).drewN nq).heap.size = wr.heap.size + 1 by simp] at hn
            exact hn
          case c2 => exact rgc_one _
          case c3 => rw [HOL.out]; unfold maxLen; omega
          case c4 => rw [HOL.out]; omega
          case c5 => simp; omega
          intro v2 w2 o2 gr2 _
          have HO2 := hid (show w2.ownsRow Wr.heap.size 84 2 v2 (Q ++ [(lo, hi')] ++ [(f0, f1)]).length (rgcs (Q ++ [(lo, hi')] ++ [(f0, f1)])) by rw [rgcs_snoc, len_snoc, len_snoc]; exact o2)
          have HB2 := hid (((below_drewN (HB.out.alloc hbs (.cells #[.int .i32 f0, .int .i32 f1] 84)) nq).alloc (by simp; omega) (.cells #[.int .i32 f0, .int .i32 f1] 84)).grown gr2 (by simp; omega) (fun j hj => (HO1.out.lt j hj).1))
          have hl2 : (Q ++ [(lo, hi')] ++ [(f0, f1)]).length ≤ k + 1 := by rw [len_snoc (Q ++ [(lo, hi')]), HOL.out]; omega
          have HBD2 := hid (show ∀ x, x ∈ Q ++ [(lo, hi')] ++ [(f0, f1)] → 0 ≤ x.2 ∧ x.2 ≤ 1114111 from fun x hx => by
            rcases List.mem_append.1 hx with h | h
            · exact HBD.out x h
            · simp at h; subst h; exact ⟨by dsimp only; omega, b3⟩)
          clear o2 gr2
          go_wp2
          go_roundw
          case rel => exact ⟨k + 1, Q ++ [(lo, hi')] ++ [(f0, f1)], by omega, by go_num, HO2, HF2, hl2, HBD2, HB2⟩
          case measure => simp [intOf]; omega
        · have HF2 := hid (HJ.out hc)
          clear HJ HMo
          obtain ⟨mx, hmx⟩ : ∃ mx : Int, (if hi' < f1 then f1 else hi') = mx := ⟨_, rfl⟩
          have emx : max hi' f1 = mx := by rw [← hmx]; split <;> omega
          have HST := hid (show ((wr.alloc (.cells #[.int .i32 f0, .int .i32 f1] 84)).setCell ⟨g, n * 2 + 1, none⟩ (.int .i32 mx)).ownsRow Wr.heap.size 84 2 (.slice (some ⟨g, 0, none⟩) (n + 1) oc) (Q ++ [(lo, mx)]).length (rgcs (Q ++ [(lo, mx)])) by
            have h := row_set2 (HO1.out.alloc (.cells #[.int .i32 f0, .int .i32 f1] 84)) n lo mx hi' (by rw [HQL.out]; simp)
            rw [HQL.out, set_last, ← HQL.out] at h
            exact h)
          have HF3 := hid (show Mid s (Q ++ [(lo, mx)]) (k + 1) by have h := HF2.out; rw [emx] at h; exact h)
          have hl2 : (Q ++ [(lo, mx)]).length ≤ k + 1 := by have := HQL.out; simp; omega
          have HBD2 := hid (show ∀ x, x ∈ Q ++ [(lo, mx)] → 0 ≤ x.2 ∧ x.2 ≤ 1114111 from fun x hx => by
            rcases List.mem_append.1 hx with h | h
            · exact HBD.out x (List.mem_append.2 (Or.inl h))
            · simp at h; subst h; exact ⟨by dsimp only; omega, by dsimp only; omega⟩)
          clear emx HF2
          go_wp2_with fail
          go_quiet (fail)
          go_wp2_with fail
          go_region
          go_wp2
          go_roundw
          case rel => exact ⟨k + 1, Q ++ [(lo, mx)], by omega, by go_num, HST.out, HF3, hl2, HBD2, (below_drewN (HB.out.alloc hbs _) _).setCell (p := ⟨g, n * 2 + 1, none⟩) hgB _⟩
          case measure => simp [intOf]; omega
    · have HD := hid (HMi.out.done hlt)
      go_wp2
      go_ret
      exact ⟨_, rfl, by rw [← HNR.out, ← HD.out]; exact ownsRow_base2 HO.out HB0.out.size, HB0.out.trans (HB.out.mono HB0.out.size)⟩
end Go.Proofs.YtohhokjlgihbgaaGreatDoor
/- What the library's sort leaves of valid ranges: a sorted list that holds the same ranges. -/
namespace Go.Proofs.YtohhokjlgihbgaaGreatDoor
open Go.RowKit Go.Shelf Go.Lib Go.Sort

theorem srt_of : ∀ (l : List Rg) (b : Int), (∀ g, g ∈ l → b ≤ g.1 ∧ g.1 ≤ g.2 ∧ g.2 ≤ top) → l.Pairwise (fun x y => x.1 ≤ y.1) → srt b l
  | [], _, _, _ => trivial
  | g :: l, b, hv, hp => by
    have hg := hv g List.mem_cons_self
    rw [List.pairwise_cons] at hp
    exact ⟨hg.1, hg.2.1, hg.2.2, srt_of l g.1 (fun x hx => ⟨hp.1 x hx, (hv x (List.mem_cons_of_mem _ hx)).2⟩) hp.2⟩
theorem sorted_list (d d' : Array Rg) (hp : PermIn 0 d.size d d') (hs : SortedIn (ltOf fun x y : Rg => Lib.compareInt x.1 y.1) 0 d.size d') (hv : ∀ g, g ∈ d.toList → 0 ≤ g.1 ∧ g.1 ≤ g.2 ∧ g.2 ≤ top) :
    srt 0 d'.toList ∧ d'.toList.length = d.toList.length ∧ ∀ r, isin r d'.toList ↔ isin r d.toList := by
  obtain ⟨h1, _, h3⟩ := hp
  have e1 : d'.extract 0 d.size = d' := by rw [← h1]; exact Array.extract_size
  have e2 : d.extract 0 d.size = d := Array.extract_size
  rw [e1, e2] at h3
  refine ⟨srt_of _ 0 (fun g hg => hv g (h3.mem_iff.1 hg)) ?_, by simp [h1], fun r => isin_perm h3 r⟩
  rw [List.pairwise_iff_getElem]
  intro i j hi hj hij
  have hi' : i < d'.size := by simpa using hi
  have hj' : j < d'.size := by simpa using hj
  have h := hs i j (Nat.zero_le _) hij (by omega)
  rw [lt_lo] at h
  have g1 : d'[i]! = d'.toList[i] := by simp [hi']
  have g2 : d'[j]! = d'.toList[j] := by simp [hj']
  rw [g1, g2] at h
  have := of_decide_eq_false h
  omega
end Go.Proofs.YtohhokjlgihbgaaGreatDoor
/- The world behind the library's sort: what lies below stays, the row reads as the sorted list. -/
namespace Go.Proofs.YtohhokjlgihbgaaGreatDoor
open Go.RowKit Go.Shelf Go.Lib Go.Sort

theorem sort_below (B : Nat) (w : World) (blk off n : Nat) (d : Array Rg) (os : Array Obj) (h1 : B ≤ blk) (h2 : B ≤ w.heap.size) : RowKit.Below B w (sortWorldK rgc 2 w blk off n d os) := by
  refine ⟨rfl, rfl, rfl, ?_, fun k hk => ?_⟩
  · show w.heap.size ≤ ((w.heap.modify blk (onCells (putCells id off (flatK rgc 2 d)))) ++ os).size
    simp
  · show ((w.heap.modify blk (onCells (putCells id off (flatK rgc 2 d)))) ++ os)[k]? = w.heap[k]?
    rw [Array.getElem?_append_left (by simp; omega), Array.getElem?_modify, if_neg (by omega)]
theorem flat_at (d : Array Rg) (k : Nat) (hk : k < d.size) : (flatK rgc 2 d)[k * 2]! = .int .i32 d[k]!.1 ∧ (flatK rgc 2 d)[k * 2 + 1]! = .int .i32 d[k]!.2 := by
  constructor
  · rw [get_flatK rgc 2 d (k * 2) (by omega), show k * 2 / 2 = k by omega, show k * 2 % 2 = 0 by omega]; rfl
  · rw [get_flatK rgc 2 d (k * 2 + 1) (by omega), show (k * 2 + 1) / 2 = k by omega, show (k * 2 + 1) % 2 = 1 by omega]; rfl
theorem holds_reads {w : World} {blk : Nat} {d : Array Rg} (h : HoldsK rgc 2 w blk 0 d) (hb : blk < w.heap.size) : RdR w (some ⟨blk, 0, none⟩) d.toList := fun k g hk => by
  have hk' : k < d.size := by simpa using (List.getElem?_eq_some_iff.1 hk).1
  have hg : d[k]! = g := by
    have e := (List.getElem?_eq_some_iff.1 hk).2
    simpa [hk'] using e
  obtain ⟨f0, f1⟩ := flat_at d k hk'
  rw [hg] at f0 f1
  have c0 := (h (k * 2) (by rw [size_flatK]; omega)).1
  have c1 := (h (k * 2 + 1) (by rw [size_flatK]; omega)).1
  rw [f0, Nat.zero_add] at c0
  rw [f1, Nat.zero_add] at c1
  have ea : (⟨blk, 0, none⟩ : Addr).add (k * 2) = ⟨blk, k * 2, none⟩ := by unfold Addr.add; split <;> simp_all
  exact ⟨_, rfl, hb, by rw [ea]; exact c0, by rw [ea]; exact c1⟩
theorem row_holds {w : World} {B g n cap : Nat} {l : List Rg} (h : w.ownsRow B 84 2 (.slice (some ⟨g, 0, none⟩) n cap) l.length (rgcs l)) : HoldsK rgc 2 w g 0 l.toArray := fun j hj => by
  rw [size_flatK] at hj
  have hk : j / 2 < l.length := by simp at hj; omega
  have hl : l[j / 2]? = some l[j / 2] := List.getElem?_eq_getElem hk
  obtain ⟨c0, c1⟩ := row_cell h (j / 2) l[j / 2] hl
  obtain ⟨f0, f1⟩ := flat_at l.toArray (j / 2) (by simpa using hk)
  have hd : l.toArray[j / 2]! = l[j / 2] := by simp [hk]
  rw [hd] at f0 f1
  refine ⟨?_, row_frozen h _⟩
  rw [Nat.zero_add]
  show _ = some ((flatK rgc 2 l.toArray)[j]!)
  rcases Nat.mod_two_eq_zero_or_one j with e | e
  · have ej : j = j / 2 * 2 := by omega
    rw [← ej] at c0 f0
    rw [f0]; exact c0
  · have ej : j = j / 2 * 2 + 1 := by omega
    rw [← ej] at c1 f1
    rw [f1]; exact c1
/-- The library's sort at a row of the call's own. -/
theorem sort_row (B g cap : Nat) (l : List Rg) (w : World) (h : w.ownsRow B 84 2 (.slice (some ⟨g, 0, none⟩) l.length cap) l.length (rgcs l)) (hB : B ≤ w.heap.size) (hgB : B ≤ g) (hg : g < w.heap.size) (hl : l.length ≤ 1000000) (hv : ∀ x, x ∈ l → 0 ≤ x.1 ∧ x.1 ≤ x.2 ∧ x.2 ≤ top) :
    Calls Tryz.prog 126 #[.slice (some ⟨g, 0, none⟩) l.length cap, .func (.func 127) #[] #[]] w fun e w' => e = .returned (.tuple #[]) ∧ ∃ s : List Rg, s.length = l.length ∧ srt 0 s ∧ (∀ r, isin r s ↔ isin r l) ∧ RdR w' (some ⟨g, 0, none⟩) s ∧ RowKit.Below B w w' := by
  have hH := row_holds h
  have hs := sort_any g 0 cap l.toArray w hH hg (by simp; omega)
  rw [List.size_toArray] at hs
  refine hs.mono ?_
  rintro e w' ⟨he, d', n, os, hp, hso, rfl⟩
  rw [← List.size_toArray] at hp hso
  obtain ⟨h1, h2, h3⟩ := sorted_list l.toArray d' hp hso (by simpa using hv)
  refine ⟨he, d'.toList, by simpa using h2, h1, by simpa using h3, holds_reads (holdsK_sortWorldK_c rgc 2 w g 0 l.toArray d' n os hH hg (by simpa using h2)) (Nat.lt_of_lt_of_le hg (size_sortWorldK_c rgc 2 w g 0 n d' os)), sort_below B w g 0 n d' os hgB hB⟩
end Go.Proofs.YtohhokjlgihbgaaGreatDoor
/- Norm at this program; the contract of Not (package runes). -/
namespace Go.Proofs.YtohhokjlgihbgaaGreatDoor
open Go.RowKit

theorem sort_says : SortSays := fun B g cap l w h hB hgB hg hl hv => sort_row B g cap l w h hB hgB hg hl hv
theorem norm_any (ao : Option Addr) (ac : Nat) (l : List Rg) (w : World) (ha : RdR w ao l) (hl : l.length ≤ 100000) :
    Calls Tryz.prog 83 #[.slice ao l.length ac] w fun e w' => ∃ v, e = .returned v ∧ w'.ownsRow w.heap.size 84 2 v (nrm l).length (rgcs (nrm l)) ∧ Below w.heap.size w w' := norm_of sort_says ao ac l w ha hl
theorem mrgF_len : ∀ (l : List Rg) (lo hi : Int), (mrgF lo hi l).length ≤ l.length + 1
  | [], _, _ => by simp [mrgF]
  | g :: t, lo, hi => by
    unfold mrgF
    split
    · have := mrgF_len t g.1 g.2; simp; omega
    · have := mrgF_len t lo (max hi g.2); simp; omega
theorem ins_len : ∀ (l : List Rg) (x : Rg), (ins x l).length = l.length + 1
  | [], _ => rfl
  | y :: t, x => by
    unfold ins
    split
    · simp [ins_len t x]
    · simp
theorem isort_len : ∀ (l s : List Rg), (l.foldl (fun s x => ins x s) s).length = l.length + s.length
  | [], s => by simp
  | x :: l, s => by rw [List.foldl_cons, isort_len l, ins_len]; simp; omega
theorem nrm_len (l : List Rg) : (nrm l).length ≤ l.length := by
  have h1 : (cut l).length ≤ l.length := by unfold cut; exact Nat.le_trans (List.length_filter_le _ _) (by simp)
  have h2 : (isort (cut l)).length = (cut l).length := by unfold isort; rw [isort_len]; simp
  unfold nrm
  generalize isort (cut l) = s at *
  cases s with
  | nil => simp [mrg]
  | cons g t => have := mrgF_len t g.1 g.2; simp at h2; show (mrgF g.1 g.2 t).length ≤ _; omega
theorem nf_at : ∀ {l : List Rg} {b : Int} {j : Nat} {g : Rg}, nfF b l → l[j]? = some g → b ≤ g.1 ∧ g.1 ≤ g.2 ∧ g.2 ≤ top
  | [], _, _, _, _, h => by cases h
  | x :: l, b, 0, g, hs, h => by cases h; exact ⟨hs.1, hs.2.1, hs.2.2.1⟩
  | x :: l, b, j + 1, g, hs, h => by
    have h1 := nf_at hs.2.2.2 (show l[j]? = some g from h)
    have := hs.1
    have := hs.2.1
    exact ⟨by omega, h1.2⟩
/-- The other side of what a list means. -/
def nt (l : List Rg) : List Rg := ntF 0 (nrm l)
theorem nt_nf (l : List Rg) : nf (nt l) := ntF_nf (nrm_nf l) (by omega) (Int.le_refl _) (Int.le_refl _)
theorem nt_in (l : List Rg) (r : Int) : isin r (nt l) ↔ 0 ≤ r ∧ r ≤ top ∧ ¬ means r l := by
  unfold nt
  rw [ntF_in r (nrm_nf l) (Int.le_refl _), nrm_in]
/-- Turning over so far. -/
def Ntm (n O : List Rg) (k : Nat) (lo : Int) : Prop := O ++ ntF lo (n.drop k) = ntF 0 n
theorem Ntm.yes {n O : List Rg} {k : Nat} {lo : Int} (hk : k < n.length) (h : Ntm n O k lo) (hc : lo < n[k].1) : Ntm n (O ++ [(lo, n[k].1 - 1)]) (k + 1) (n[k].2 + 1) := by
  unfold Ntm at *
  rw [← h, List.drop_eq_getElem_cons hk]
  conv => rhs; rw [ntF]
  rw [if_pos hc]
  simp
theorem Ntm.no {n O : List Rg} {k : Nat} {lo : Int} (hk : k < n.length) (h : Ntm n O k lo) (hc : ¬ lo < n[k].1) : Ntm n O (k + 1) (n[k].2 + 1) := by
  unfold Ntm at *
  rw [← h, List.drop_eq_getElem_cons hk]
  conv => rhs; rw [ntF]
  rw [if_neg hc]
theorem Ntm.done {n O : List Rg} {k : Nat} {lo : Int} (hk : ¬ k < n.length) (h : Ntm n O k lo) : (lo ≤ top → O ++ [(lo, top)] = ntF 0 n) ∧ (¬ lo ≤ top → O = ntF 0 n) := by
  unfold Ntm at h
  rw [List.drop_of_length_le (by omega)] at h
  rw [show ntF lo [] = if lo ≤ top then [(lo, top)] else [] from rfl] at h
  constructor
  · intro hl; rw [if_pos hl] at h; exact h
  · intro hl; rw [if_neg hl] at h; simpa using h
/-- Appending one range: what the walks hand on. -/
theorem app_news (w : World) (g : Rg) (m : Nat) (hm : w.heap.size = m) : ∀ j u, (rgc g)[j]? = some u → (w.alloc (.cells #[.int .i32 g.1, .int .i32 g.2] 84)).cell? ((⟨m, 0, none⟩ : Addr).add j) = some u := by
  subst hm; exact news_r w g 84

end Go.Proofs.YtohhokjlgihbgaaGreatDoor
/- The contracts of size and At (package runes). -/
namespace Go.Proofs.YtohhokjlgihbgaaGreatDoor
open Go.RowKit

/-- The rune of a number, in a normal form. -/
def atF : List Rg → Int → Option Int
  | [], _ => none
  | g :: t, i => if i < g.2 - g.1 + 1 then some (g.1 + i) else atF t (i - (g.2 - g.1 + 1))
def atN (l : List Rg) (i : Int) : Option Int := if i < 0 then none else atF (nrm l) i
def two (o : Option Int) : Value := .tuple #[.int .i32 (o.getD 0), .bool o.isSome]
theorem atF_yes {s : List Rg} {k : Nat} {j : Int} (hk : k < s.length) (hc : j < s[k].2 - s[k].1 + 1) : atF (s.drop k) j = some (s[k].1 + j) := by
  rw [List.drop_eq_getElem_cons hk, atF, if_pos hc]
theorem atF_no {s : List Rg} {k : Nat} {j : Int} (hk : k < s.length) (hc : ¬ j < s[k].2 - s[k].1 + 1) : atF (s.drop k) j = atF (s.drop (k + 1)) (j - (s[k].2 - s[k].1 + 1)) := by
  rw [List.drop_eq_getElem_cons hk, atF, if_neg hc]

end Go.Proofs.YtohhokjlgihbgaaGreatDoor
/- The contract of find (package runes): the range of a normal form in which a number lies, by halves. -/
namespace Go.Proofs.YtohhokjlgihbgaaGreatDoor
open Go.RowKit

def cmpR (a b r : Int) : Int := if b < r then -1 else if r < a then 1 else 0
theorem nf_rise : ∀ {l : List Rg} {b : Int} {i j : Nat} {g h : Rg}, nfF b l → i < j → l[i]? = some g → l[j]? = some h → g.2 < h.1
  | [], _, _, _, _, _, _, _, h, _ => by cases h
  | x :: l, b, 0, j + 1, g, h, hs, _, e1, e2 => by
    cases e1
    have := (nf_at hs.2.2.2 (show l[j]? = some h from e2)).1
    omega
  | x :: l, b, i + 1, j + 1, g, h, hs, hij, e1, e2 => nf_rise hs.2.2.2 (by omega) (show l[i]? = some g from e1) (show l[j]? = some h from e2)
  | x :: l, b, i, 0, g, h, hs, hij, e1, e2 => by omega

end Go.Proofs.YtohhokjlgihbgaaGreatDoor
