/- The contracts of those (package dfa) and of numbers (the document's). -/
import Derived.Test.YtmgoedcaeemilaaDoorKit7
namespace Go.Proofs.YtmgoedcaeemilaaDoor
open Go.RowKit

/-- The places at which a list of bools is so. -/
def isB (so : Bool) (bs : List Bool) (x : Int) : Prop := 0 ≤ x ∧ bs[x.toNat]? = some so
theorem isB_nat {so : Bool} {bs : List Bool} {k : Nat} : isB so bs (k : Int) ↔ bs[k]? = some so := by unfold isB; simp
theorem isB_lt {so : Bool} {bs : List Bool} {x : Int} (h : isB so bs x) : 0 ≤ x ∧ x < (bs.length : Int) := by
  have := (List.getElem?_eq_some_iff.1 h.2).1
  have := h.1
  omega
set_option maxHeartbeats 4000000 in
theorem those_any (ao : Option Addr) (ac n : Nat) (bs : List Bool) (so : Bool) (w : World) (hn : bs.length = n) (ha : RdB w ao bs) (hl : n ≤ 4096) :
    Calls Tryd.prog 61 #[.slice ao n ac, .bool so] w fun e w' => SetQ w n (isB so bs) e w' := by
  obtain ⟨i0, hi3, hz0, hz1, hz2⟩ := info_parts Tryd.info3
  have HA := hid ha
  have HN := hid hn
  clear ha hn
  go_enter Tryd.func61, Tryd.ntmps61
  go_wp2
  go_loopw [5, 10] (fun x y wr => ∃ (i m : Nat) (T : List Int) (vo : Option Addr) (vc : Nat), x = .slice vo m vc ∧ y = .int .i64 i ∧ i ≤ n ∧ m ≤ i ∧ Hid (T.length = m) ∧ Hid (wr.ownsRow w.heap.size 3 1 (.slice vo m vc) m (i64s T)) ∧ Hid (T.Pairwise (· < ·)) ∧ Hid (∀ x, x ∈ T ↔ isB so bs x ∧ x < (i : Int)) ∧ Hid (Below w.heap.size w wr)) (fun _ y _ => n - (intOf y).toNat)
  case atStart => exact ⟨0, 0, [], none, 0, rfl, rfl, Nat.zero_le _, Nat.zero_le _, rfl, World.ownsRow_nil _ _ _ _, List.Pairwise.nil, fun x => ⟨fun h => (by cases h), fun h => (by have := h.1.1; omega)⟩, Below.refl _ _⟩
  case round =>
    obtain ⟨i, m, T, vo, vc, rfl, rfl, hi, hm, HT, HO, HP, HI, HB⟩ := hrel
    by_cases hlt : i < n
    · have hib : i < bs.length := by have := HN.out; omega
      obtain ⟨a, rfl, _, a0⟩ := HA.out.below HB.out i bs[i] (List.getElem?_eq_getElem hib)
      have HBI := hid (List.getElem?_eq_getElem hib)
      obtain ⟨b, hb⟩ : ∃ b, b = bs[i] := ⟨_, rfl⟩
      rw [← hb] at a0 HBI
      clear hb hib
      have i3 : (i : Int) < (n : Int) := by omega
      have i0' : (0 : Int) ≤ (i : Int) := by omega
      have hsz := HB.out.size
      by_cases hb : b = so
      · subst hb
        have HI2 := hid (show ∀ x, x ∈ T ++ [(i : Int)] ↔ isB b bs x ∧ x < ((i + 1 : Nat) : Int) from fun x => by
          rw [List.mem_append, HI.out x, List.mem_singleton]
          constructor
          · rintro (h | h)
            · exact ⟨h.1, by omega⟩
            · subst h; exact ⟨isB_nat.2 HBI.out, by omega⟩
          · intro h
            by_cases hx : x = (i : Int)
            · exact .inr hx
            · exact .inl ⟨h.1, by have := h.2; omega⟩)
        have HP2 := hid (show (T ++ [(i : Int)]).Pairwise (· < ·) by
          rw [List.pairwise_append]
          refine ⟨HP.out, by simp, fun x hx y hy => ?_⟩
          rw [List.mem_singleton] at hy
          subst hy
          exact ((HI.out x).1 hx).2)
        have bb : (b == b) = true := beq_self_eq_true b
        go_wp2_with (at_builtin; refine wpList_append_lies _ rfl _ _ 28 rfl w.heap.size 3 i0 (.int .i64 0) 1 8 Tryd.underlying28 hi3 hz0 hz1 hz2 rfl (by decide) (.slice vo m vc) m (i64s T) rfl (HO.out.alloc _) ⟨wr.heap.size, 0, none⟩ 1 1 [.int .i64 (i : Int)] rfl rfl (news_one wr _ 3) (i64s_one [(i : Int)]) (by decide) (by unfold maxLen; omega) (by omega) (by simp; omega) (wr.heap.size + 1) (by simp) ?_; intro g5 ec5 w5 o5 gr5 hl5 hlt5; have HO5 := hid (show w5.ownsRow w.heap.size 3 1 (.slice (some ⟨g5, 0, none⟩) (m + 1) ec5) (m + 1) (i64s (T ++ [(i : Int)])) by (rw [i64s_snoc]; exact o5)); have HB5 := hid ((HB.out.alloc hsz (.cells #[.int .i64 (i : Int)] 3)).grown gr5 (by simp; omega) (fun k' hk' => (HO.out.lt k' hk').1)); clear o5 gr5 hl5 hlt5)
        go_roundw
        case rel => exact ⟨i + 1, m + 1, T ++ [(i : Int)], some ⟨g5, 0, none⟩, ec5, rfl, by go_num, by omega, by omega, by rw [List.length_append, HT.out]; rfl, HO5, HP2, HI2, HB5⟩
        case measure => simp [intOf]; omega
      · have HI2 := hid (show ∀ x, x ∈ T ↔ isB so bs x ∧ x < ((i + 1 : Nat) : Int) from fun x => by
          rw [HI.out x]
          constructor
          · exact fun h => ⟨h.1, by have := h.2; omega⟩
          · intro h
            refine ⟨h.1, ?_⟩
            by_cases hx : x = (i : Int)
            · have h1 := h.1; rw [hx, isB_nat, HBI.out] at h1; exact absurd (Option.some.inj h1) hb
            · have := h.2; omega)
        have bb : (b == so) = false := beq_eq_false_iff_ne.2 hb
        clear hb
        go_wp2
        go_roundw
        case rel => exact ⟨i + 1, m, T, vo, vc, rfl, by go_num, by omega, by omega, HT, HO, HP, HI2, HB⟩
        case measure => simp [intOf]; omega
    · have i3 : ¬ (i : Int) < (n : Int) := by omega
      go_wp2
      go_ret
      have hq := HT.out
      subst hq
      exact ⟨T, vo, vc, rfl, HO.out, HP.out, fun x hx => by have h := isB_lt ((HI.out x).1 hx).1; have := HN.out; omega, fun x => (HI.out x).trans ⟨fun h => h.1, fun h => ⟨h, by have h' := isB_lt h; have := HN.out; omega⟩⟩, HB.out⟩
set_option maxHeartbeats 4000000 in
theorem numbers_any (ao : Option Addr) (ac n : Nat) (bs : List Bool) (w : World) (hn : bs.length = n) (ha : RdB w ao bs) (hl : n ≤ 4096) :
    Calls Tryd.prog 64 #[.slice ao n ac] w fun e w' => SetQ w n (isB true bs) e w' := by
  obtain ⟨i0, hi3, hz0, hz1, hz2⟩ := info_parts Tryd.info3
  have HA := hid ha
  have HN := hid hn
  clear ha hn
  go_enter Tryd.func64, Tryd.ntmps64
  go_wp2
  go_loopw [3, 4] (fun x y wr => ∃ (i m : Nat) (T : List Int) (vo : Option Addr) (vc : Nat), x = .slice vo m vc ∧ y = .int .i64 i ∧ i ≤ n ∧ m ≤ i ∧ Hid (T.length = m) ∧ Hid (wr.ownsRow w.heap.size 3 1 (.slice vo m vc) m (i64s T)) ∧ Hid (T.Pairwise (· < ·)) ∧ Hid (∀ x, x ∈ T ↔ isB true bs x ∧ x < (i : Int)) ∧ Hid (Below w.heap.size w wr)) (fun _ y _ => n - (intOf y).toNat)
  case atStart => exact ⟨0, 0, [], none, 0, rfl, rfl, Nat.zero_le _, Nat.zero_le _, rfl, World.ownsRow_nil _ _ _ _, List.Pairwise.nil, fun x => ⟨fun h => (by cases h), fun h => (by have := h.1.1; omega)⟩, Below.refl _ _⟩
  case round =>
    obtain ⟨i, m, T, vo, vc, rfl, rfl, hi, hm, HT, HO, HP, HI, HB⟩ := hrel
    by_cases hlt : i < n
    · have hib : i < bs.length := by have := HN.out; omega
      obtain ⟨a, rfl, _, a0⟩ := HA.out.below HB.out i bs[i] (List.getElem?_eq_getElem hib)
      have HBI := hid (List.getElem?_eq_getElem hib)
      obtain ⟨b, hb⟩ : ∃ b, b = bs[i] := ⟨_, rfl⟩
      rw [← hb] at a0 HBI
      clear hb hib
      have i3 : (i : Int) < (n : Int) := by omega
      have i0' : (0 : Int) ≤ (i : Int) := by omega
      have hsz := HB.out.size
      by_cases hb : b = true
      · subst hb
        have HI2 := hid (show ∀ x, x ∈ T ++ [(i : Int)] ↔ isB true bs x ∧ x < ((i + 1 : Nat) : Int) from fun x => by
          rw [List.mem_append, HI.out x, List.mem_singleton]
          constructor
          · rintro (h | h)
            · exact ⟨h.1, by omega⟩
            · subst h; exact ⟨isB_nat.2 HBI.out, by omega⟩
          · intro h
            by_cases hx : x = (i : Int)
            · exact .inr hx
            · exact .inl ⟨h.1, by have := h.2; omega⟩)
        have HP2 := hid (show (T ++ [(i : Int)]).Pairwise (· < ·) by
          rw [List.pairwise_append]
          refine ⟨HP.out, by simp, fun x hx y hy => ?_⟩
          rw [List.mem_singleton] at hy
          subst hy
          exact ((HI.out x).1 hx).2)
        skip
        go_wp2_with (at_builtin; refine wpList_append_lies _ rfl _ _ 28 rfl w.heap.size 3 i0 (.int .i64 0) 1 8 Tryd.underlying28 hi3 hz0 hz1 hz2 rfl (by decide) (.slice vo m vc) m (i64s T) rfl (HO.out.alloc _) ⟨wr.heap.size, 0, none⟩ 1 1 [.int .i64 (i : Int)] rfl rfl (news_one wr _ 3) (i64s_one [(i : Int)]) (by decide) (by unfold maxLen; omega) (by omega) (by simp; omega) (wr.heap.size + 1) (by simp) ?_; intro g5 ec5 w5 o5 gr5 hl5 hlt5; have HO5 := hid (show w5.ownsRow w.heap.size 3 1 (.slice (some ⟨g5, 0, none⟩) (m + 1) ec5) (m + 1) (i64s (T ++ [(i : Int)])) by (rw [i64s_snoc]; exact o5)); have HB5 := hid ((HB.out.alloc hsz (.cells #[.int .i64 (i : Int)] 3)).grown gr5 (by simp; omega) (fun k' hk' => (HO.out.lt k' hk').1)); clear o5 gr5 hl5 hlt5)
        go_roundw
        case rel => exact ⟨i + 1, m + 1, T ++ [(i : Int)], some ⟨g5, 0, none⟩, ec5, rfl, by go_num, by omega, by omega, by rw [List.length_append, HT.out]; rfl, HO5, HP2, HI2, HB5⟩
        case measure => simp [intOf]; omega
      · have HI2 := hid (show ∀ x, x ∈ T ↔ isB true bs x ∧ x < ((i + 1 : Nat) : Int) from fun x => by
          rw [HI.out x]
          constructor
          · exact fun h => ⟨h.1, by have := h.2; omega⟩
          · intro h
            refine ⟨h.1, ?_⟩
            by_cases hx : x = (i : Int)
            · have h1 := h.1; rw [hx, isB_nat, HBI.out] at h1; exact absurd (Option.some.inj h1) hb
            · have := h.2; omega)
        have bb : b = false := (by cases b <;> simp_all)
        subst bb
        go_wp2
        go_roundw
        case rel => exact ⟨i + 1, m, T, vo, vc, rfl, by go_num, by omega, by omega, HT, HO, HP, HI2, HB⟩
        case measure => simp [intOf]; omega
    · have i3 : ¬ (i : Int) < (n : Int) := by omega
      go_wp2
      go_ret
      have hq := HT.out
      subst hq
      exact ⟨T, vo, vc, rfl, HO.out, HP.out, fun x hx => by have h := isB_lt ((HI.out x).1 hx).1; have := HN.out; omega, fun x => (HI.out x).trans ⟨fun h => h.1, fun h => ⟨h, by have h' := isB_lt h; have := HN.out; omega⟩⟩, HB.out⟩
end Go.Proofs.YtmgoedcaeemilaaDoor
