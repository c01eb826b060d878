/- The contracts of the document's Edges, Is, Back, On and of the program's Back, On. -/
import Derived.Test.YtflehkdijfhmgaaDoorEdgeLists
import Derived.Test.YtflehkdijfhmgaaDoorFeed
namespace Go.Proofs.YtflehkdijfhmgaaDoor
open Go.RowKit

theorem Tryd.info3 : (Tryd.prog.info? 3).map (fun i => (i.zero, i.size, i.bytes)) = some (some (.int .i64 0), 1, 8) := by kernel_rfl

/-- What a value looks like that owns a row. -/
theorem owns_form {w : World} {base e size n : Nat} {v : Value} {xs : List Value} (h : w.ownsRow base e size v n xs) : ∃ ao cap, v = .slice ao n cap ∧ (0 < n → ∃ g, ao = some ⟨g, 0, none⟩ ∧ base ≤ g ∧ g < w.heap.size) := by
  rcases h.2 with ⟨hv, h0⟩ | ⟨g, cap, cur, hv, hb, hg, _⟩
  · exact ⟨none, 0, by rw [hv, h0], fun hn => by omega⟩
  · exact ⟨_, cap, hv, fun _ => ⟨g, rfl, hb, (Array.getElem?_eq_some_iff.1 hg).1⟩⟩

theorem mkcs_get : ∀ (ms : List Mk) (k j : Nat) (m : Mk), ms[k]? = some m → j < 4 → (mkcs ms)[k * 4 + j]? = (mkc m)[j]?
  | [], k, j, m, h, _ => by simp at h
  | x :: ms, 0, j, m, h, hj => by
    simp at h; subst h
    show (mkc x ++ mkcs ms)[0 * 4 + j]? = _
    rw [Nat.zero_mul, Nat.zero_add, List.getElem?_append_left (by simpa [mkc] using hj)]
  | x :: ms, k + 1, j, m, h, hj => by
    simp at h
    show (mkc x ++ mkcs ms)[(k + 1) * 4 + j]? = _
    rw [List.getElem?_append_right (by simp [mkc]; omega)]
    rw [show (k + 1) * 4 + j - (mkc x).length = k * 4 + j by simp [mkc]; omega]
    exact mkcs_get ms k j m h hj

theorem mks_len (l : List UInt8) : ∀ (n t : Nat), l.length - t ≤ n → (mks t (l.drop t)).length ≤ l.length - t
  | 0, t, h => by rw [mks_end l t (by omega)]; simp
  | n + 1, t, h => by
    by_cases ht : t < l.length
    · rw [mks_at l t ht]
      have hw := wid_ge l t ht
      have hw2 := wid_le l t ht
      have := mks_len l n (t + wid l t) (by omega)
      simp; omega
    · rw [mks_end l t ht]; simp

/-- The places of the first marks, as values. -/
def pre64 (ms : List Mk) (k : Nat) : List Value := ((ms.take k).map (·.pl)).map (Value.int .i64)
theorem pre64_succ (ms : List Mk) (k : Nat) (h : k < ms.length) : pre64 ms (k + 1) = pre64 ms k ++ [.int .i64 ms[k].pl] := by
  unfold pre64
  rw [List.take_succ_eq_append_getElem h, List.map_append, List.map_append]; rfl
theorem pre64_all (ms : List Mk) (k : Nat) (h : ¬ k < ms.length) : pre64 ms k = (ms.map (·.pl)).map (Value.int .i64) := by
  unfold pre64
  rw [List.take_of_length_le (by omega)]

set_option maxHeartbeats 1000000 in
theorem edges_any (l : List UInt8) (w : World) (hl : l.length ≤ 1000000000000) :
    Calls Tryd.prog 56 #[.string ⟨l.toArray⟩] w fun e w' => ∃ v, e = .returned v ∧ w'.ownsRow w.heap.size 3 1 v (edg l).length ((edg l).map (Value.int .i64)) ∧ Below w.heap.size w w' := by
  obtain ⟨i0, hi, hz0, hz1, hz2⟩ := info_parts Tryd.info3
  go_enter Tryd.func56, Tryd.ntmps56
  go_wp2_with fail
  refine (marks_any l _ hl).mono ?_
  rintro e w1 ⟨v, rfl, hown1, hb1⟩
  obtain ⟨ms, hms⟩ : ∃ ms, ms = mks 0 l := ⟨_, rfl⟩
  rw [← hms] at hown1
  have hlen : ms.length ≤ l.length := by
    have := mks_len l l.length 0 (by omega)
    rw [hms]; simpa using this
  have HMS := hid hms
  obtain ⟨ao, cap, rfl, hao⟩ := owns_form hown1
  have hcell : ∀ (k : Nat) (m : Mk), ms[k]? = some m → ∃ g, ao = some ⟨g, 0, none⟩ ∧ g < w1.heap.size ∧ w1.cell? ⟨g, k * 4, none⟩ = some (.int .i64 m.pl) := fun k m hk => by
    have hkl : k < ms.length := (List.getElem?_eq_some_iff.1 hk).1
    obtain ⟨g, hg, hg0, hg1⟩ := hao (by omega)
    have hc := hown1.cells (g := g) (by rw [hg]; rfl) (k * 4 + 0) (.int .i64 m.pl) (by rw [mkcs_get ms k 0 m hk (by omega)]; rfl)
    rw [show (⟨g, 0, none⟩ : Addr).add (k * 4 + 0) = ⟨g, k * 4, none⟩ by unfold Addr.add; split <;> simp_all] at hc
    exact ⟨g, hg, hg1, hc⟩
  have HCELL := hid hcell
  clear hcell hown1 hao hms
  go_wp2
  go_loopw [4, 5] (fun o i wr => ∃ k : Nat, k ≤ ms.length ∧ i = .int .i64 k ∧ wr.ownsRow w1.heap.size 3 1 o k (pre64 ms k) ∧ Below w1.heap.size w1 wr) (fun _ i _ => ms.length - (intOf i).toNat)
  case atStart => exact ⟨0, by omega, rfl, World.ownsRow_nil _ _ _ _, Below.refl _ _⟩
  case round =>
    obtain ⟨k, hk, rfl, hown, hB⟩ := hrel
    have hs := hB.size
    by_cases hlt : k < ms.length
    · obtain ⟨g, rfl, hg1, hcg⟩ := HCELL.out k ms[k] (List.getElem?_eq_getElem hlt)
      have hcw : wr.cell? ⟨g, k * 4, none⟩ = some (.int .i64 ms[k].pl) := (hB.cell (p := ⟨g, k * 4, none⟩) hg1).trans hcg
      obtain ⟨z, hz⟩ : ∃ z, z = ms[k].pl := ⟨_, rfl⟩
      rw [← hz] at hcw
      have HZ := hid hz
      clear hz hcg
      go_wp2_with (at_builtin; refine wpList_append_own _ rfl _ _ 32 rfl w1.heap.size 3 i0 (.int .i64 0) 1 8 Tryd.underlying32 hi hz0 hz1 hz2 rfl (by decide) _ _ _ rfl (hown.alloc _) ⟨wr.heap.size, 0, none⟩ 1 1 [.int .i64 z] rfl rfl (news_one wr #[.int .i64 z] 3) (by intro u hu; simp at hu; subst hu; rfl) (by unfold maxLen; omega) (by omega) (by simp; omega) ?_)
      intro v' w2 hown' hgrow _
      have hB2 : Below w1.heap.size w1 w2 := (hB.alloc hB.size _).grown hgrow (by simp; omega) (fun k hk => (hown.lt k hk).1)
      have hown2 : w2.ownsRow w1.heap.size 3 1 v' (k + 1) (pre64 ms (k + 1)) := by rw [pre64_succ ms k hlt, ← HZ.out]; exact hown'
      clear hown' hgrow hown hB hcw
      go_wp2
      go_roundw
      case rel => exact ⟨k + 1, by omega, by go_num, hown2, hB2⟩
      case measure => simp [intOf]; omega
    · have hke : k = ms.length := by omega
      have HKE := hid hke
      have HP := hid (pre64_all ms k hlt)
      have hk1 : k ≤ l.length := by omega
      clear hke
      go_wp2_with (at_builtin; refine wpList_append_own _ rfl _ _ 32 rfl w1.heap.size 3 i0 (.int .i64 0) 1 8 Tryd.underlying32 hi hz0 hz1 hz2 rfl (by decide) _ _ _ rfl (hown.alloc _) ⟨wr.heap.size, 0, none⟩ 1 1 [.int .i64 l.length] rfl rfl (news_one wr #[.int .i64 l.length] 3) (by intro u hu; simp at hu; subst hu; rfl) (by unfold maxLen; omega) (by omega) (by simp; omega) ?_)
      intro v' w2 hown' hgrow _
      have hB2 : Below w1.heap.size w1 w2 := (hB.alloc hB.size _).grown hgrow (by simp; omega) (fun k hk => (hown.lt k hk).1)
      have hfin : w2.ownsRow w.heap.size 3 1 v' (edg l).length ((edg l).map (Value.int .i64)) := by
        rw [HP.out] at hown'
        have e1 : (edg l).length = k + 1 := by unfold edg; rw [← HMS.out]; have := HKE.out; simp; omega
        have e2 : (edg l).map (Value.int .i64) = (ms.map (·.pl)).map (Value.int .i64) ++ [.int .i64 l.length] := by unfold edg; rw [← HMS.out]; simp
        rw [e1, e2]
        exact ownsRow_base hb1.size hown'
      have HF := hid hfin
      have HB := hid (hb1.trans (hB2.mono hb1.size))
      clear hown' hgrow hown hB hB2 hfin
      go_wp2
      go_ret
      exact ⟨_, rfl, HF.out, HB.out⟩

/-- The cells of a row of numbers. -/
theorem ints_cells {w : World} {B : Nat} {v : Value} {E : List Int} (h : w.ownsRow B 3 1 v E.length (E.map (Value.int .i64))) : ∃ ao cap, v = .slice ao E.length cap ∧
    ∀ (k : Nat) (z : Int), E[k]? = some z → ∃ g, ao = some ⟨g, 0, none⟩ ∧ w.cell? ⟨g, k, none⟩ = some (.int .i64 z) := by
  obtain ⟨ao, cap, rfl, hao⟩ := owns_form h
  refine ⟨ao, cap, rfl, fun k z hk => ?_⟩
  have hkl : k < E.length := (List.getElem?_eq_some_iff.1 hk).1
  obtain ⟨g, hg, _, _⟩ := hao (by omega)
  have hc := h.cells (g := g) (by rw [hg]; rfl) k (.int .i64 z) (by rw [List.getElem?_map, hk]; rfl)
  rw [show (⟨g, 0, none⟩ : Addr).add k = ⟨g, k, none⟩ by unfold Addr.add; split <;> simp_all] at hc
  exact ⟨g, hg, hc⟩

theorem edg_len_le (l : List UInt8) : (edg l).length ≤ l.length + 1 := by
  have := mks_len l l.length 0 (by omega)
  unfold edg
  simp at this ⊢
  exact this

set_option maxHeartbeats 1000000 in
theorem ris_any (l : List UInt8) (p : Int) (w : World) (hl : l.length ≤ 1000000000000) :
    Calls Tryd.prog 36 #[.string ⟨l.toArray⟩, .int .i64 p] w fun e w' => e = .returned (.bool (isL (edg l) p)) ∧ Below w.heap.size w w' := by
  go_enter Tryd.func36, Tryd.ntmps36
  go_wp2_with fail
  refine (edges_any l _ hl).mono ?_
  rintro e w1 ⟨v, rfl, hown, hb⟩
  obtain ⟨ao, cap, rfl, hcell⟩ := ints_cells hown
  have hE := edg_len_le l
  obtain ⟨E, hEq⟩ : ∃ E, E = edg l := ⟨_, rfl⟩
  rw [← hEq] at hcell hE ⊢
  have HEQ := hid hEq
  have HC := hid hcell
  clear hcell hown hEq
  go_wp2
  go_loop [6] (fun i => ∃ k : Nat, k ≤ E.length ∧ i = .int .i64 k ∧ Hid (∀ j z, j < k → E[j]? = some z → z ≠ p)) (fun i => E.length - (intOf i).toNat)
  case atStart => exact ⟨0, by omega, rfl, fun j z h => by omega⟩
  case round =>
    obtain ⟨k, hk, rfl, HN⟩ := hrel
    by_cases hlt : k < E.length
    · obtain ⟨g, rfl, hcg⟩ := HC.out k E[k] (List.getElem?_eq_getElem hlt)
      obtain ⟨z, hz⟩ : ∃ z, z = E[k] := ⟨_, rfl⟩
      rw [← hz] at hcg
      have HZ := hid hz
      clear hz
      by_cases he : z = p
      · have ht : (z == p) = true := beq_iff_eq.2 he
        have HR := hid (show isL E p = true from by unfold isL; rw [List.any_eq_true]; exact ⟨z, by rw [HZ.out]; simp, ht⟩)
        clear he
        go_wp2
        go_ret
        exact ⟨by rw [← HEQ.out, HR.out]; rfl, hb⟩
      · have ht : (z == p) = false := beq_eq_false_iff_ne.2 he
        have HN2 := hid (show ∀ j y, j < k + 1 → E[j]? = some y → y ≠ p from fun j y h1 h2 => by
          by_cases e : j = k
          · subst e; rw [List.getElem?_eq_getElem hlt] at h2; rw [← Option.some.inj h2, ← HZ.out]; exact he
          · exact HN.out j y (by omega) h2)
        clear he
        go_wp2
        go_round
        case rel => exact ⟨k + 1, by omega, by go_num, HN2⟩
        case measure => simp [intOf]; omega
    · have HR := hid (show isL E p = false from by
        unfold isL; rw [List.any_eq_false]; intro x hx
        obtain ⟨j, hj⟩ := List.getElem?_of_mem hx
        have hjl : j < E.length := (List.getElem?_eq_some_iff.1 hj).1
        simpa using HN.out j x (by omega) hj)
      go_wp2
      go_ret
      exact ⟨by rw [← HEQ.out, HR.out]; rfl, hb⟩

theorem backL_take (E : List Int) (p : Int) (k : Nat) (h : k < E.length) : backL (E.take (k + 1)) p = if E[k] < p then E[k] else backL (E.take k) p := by
  unfold backL
  rw [List.take_succ_eq_append_getElem h, List.foldl_append]; rfl

set_option maxHeartbeats 1000000 in
theorem rback_any (l : List UInt8) (p : Int) (w : World) (hl : l.length ≤ 1000000000000) :
    Calls Tryd.prog 38 #[.string ⟨l.toArray⟩, .int .i64 p] w fun e w' => e = .returned (.int .i64 (backL (edg l) p)) ∧ Below w.heap.size w w' := by
  go_enter Tryd.func38, Tryd.ntmps38
  go_wp2_with fail
  refine (edges_any l _ hl).mono ?_
  rintro e w1 ⟨v, rfl, hown, hb⟩
  obtain ⟨ao, cap, rfl, hcell⟩ := ints_cells hown
  have hE := edg_len_le l
  obtain ⟨E, hEq⟩ : ∃ E, E = edg l := ⟨_, rfl⟩
  rw [← hEq] at hcell hE ⊢
  have HEQ := hid hEq
  have HC := hid hcell
  clear hcell hown hEq
  go_wp2
  go_loop [6, 7] (fun b i => ∃ (k : Nat) (y : Int), k ≤ E.length ∧ i = .int .i64 k ∧ b = .int .i64 y ∧ Hid (y = backL (E.take k) p)) (fun _ i => E.length - (intOf i).toNat)
  case atStart => exact ⟨0, 0, by omega, rfl, rfl, rfl⟩
  case round =>
    obtain ⟨k, y, hk, rfl, rfl, HY⟩ := hrel
    by_cases hlt : k < E.length
    · obtain ⟨g, rfl, hcg⟩ := HC.out k E[k] (List.getElem?_eq_getElem hlt)
      have hT := backL_take E p k hlt
      obtain ⟨z, hz⟩ : ∃ z, z = E[k] := ⟨_, rfl⟩
      rw [← hz] at hcg hT
      clear hz
      by_cases he : z < p
      · rw [if_pos he] at hT
        have HT := hid hT
        clear hT
        go_wp2
        go_round
        case rel => exact ⟨k + 1, z, by omega, by go_num, rfl, HT.out.symm⟩
        case measure => simp [intOf]; omega
      · rw [if_neg he] at hT
        have HT := hid hT
        clear hT
        go_wp2
        go_round
        case rel => exact ⟨k + 1, y, by omega, by go_num, rfl, HY.out.trans HT.out.symm⟩
        case measure => simp [intOf]; omega
    · have HR := hid (show y = backL E p from by have h := HY.out; rw [List.take_of_length_le (by omega)] at h; exact h)
      go_wp2
      go_ret
      exact ⟨by rw [← HEQ.out, ← HR.out]; rfl, hb⟩

set_option maxHeartbeats 1000000 in
theorem ron_any (l : List UInt8) (p : Int) (w : World) (hl : l.length ≤ 1000000000000) :
    Calls Tryd.prog 40 #[.string ⟨l.toArray⟩, .int .i64 p] w fun e w' => e = .returned (.int .i64 (onL (edg l) p l.length)) ∧ Below w.heap.size w w' := by
  go_enter Tryd.func40, Tryd.ntmps40
  go_wp2_with fail
  refine (edges_any l _ hl).mono ?_
  rintro e w1 ⟨v, rfl, hown, hb⟩
  obtain ⟨ao, cap, rfl, hcell⟩ := ints_cells hown
  have hE := edg_len_le l
  obtain ⟨E, hEq⟩ : ∃ E, E = edg l := ⟨_, rfl⟩
  rw [← hEq] at hcell hE ⊢
  have HEQ := hid hEq
  have HC := hid hcell
  clear hcell hown hEq
  go_wp2
  go_loop [6] (fun i => ∃ k : Nat, k ≤ E.length ∧ i = .int .i64 k ∧ Hid (∀ x ∈ E.take k, ¬ p < x)) (fun i => E.length - (intOf i).toNat)
  case atStart => exact ⟨0, by omega, rfl, fun x hx => by simp at hx⟩
  case round =>
    obtain ⟨k, hk, rfl, HN⟩ := hrel
    by_cases hlt : k < E.length
    · obtain ⟨g, rfl, hcg⟩ := HC.out k E[k] (List.getElem?_eq_getElem hlt)
      have hD : E = E.take k ++ E[k] :: E.drop (k + 1) := by rw [← List.drop_eq_getElem_cons hlt, List.take_append_drop]
      have hTk := List.take_succ_eq_append_getElem hlt
      obtain ⟨z, hz⟩ : ∃ z, z = E[k] := ⟨_, rfl⟩
      rw [← hz] at hcg hD hTk
      have HD := hid hD
      have HTK := hid hTk
      clear hz hD hTk
      by_cases he : p < z
      · have HR := hid (show onL E p l.length = z from by
          unfold onL; rw [HD.out, find_gt p _ _ HN.out, List.find?_cons, decide_eq_true he]; rfl)
        go_wp2
        go_ret
        exact ⟨by rw [← HEQ.out, HR.out]; rfl, hb⟩
      · have HN2 := hid (show ∀ x ∈ E.take (k + 1), ¬ p < x from fun x hx => by
          rw [HTK.out] at hx
          rcases List.mem_append.1 hx with h | h
          · exact HN.out x h
          · simp at h; rw [h]; exact he)
        go_wp2
        go_round
        case rel => exact ⟨k + 1, by omega, by go_num, HN2⟩
        case measure => simp [intOf]; omega
    · have HR := hid (show onL E p l.length = l.length from by
        unfold onL; rw [List.find?_eq_none.2 fun x hx => by have := HN.out x (by rw [List.take_of_length_le (by omega)]; exact hx); simpa using this]; rfl)
      go_wp2
      go_ret
      exact ⟨by rw [← HEQ.out, HR.out]; rfl, hb⟩
end Go.Proofs.YtflehkdijfhmgaaDoor
