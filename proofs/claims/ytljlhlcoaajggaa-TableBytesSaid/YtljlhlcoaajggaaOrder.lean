/- The contract of own (package kerflaw03); lists of any ranges in rows; two of them changed for one another; TableOrder answers true. -/
import Derived.Laws.AppendOwnNone
import Derived.Test.YtljlhlcoaajggaaOrdMath
import Derived.Test.YtljlhlcoaajggaaLiveAll
namespace Go.Proofs.Ytljlhlcoaajggaa
open Go.RowKit

/-- The cells of ranges. -/
def rkL (l : List Rk) : List Value := l.flatMap rkc
theorem rkL_app (l m : List Rk) : rkL (l ++ m) = rkL l ++ rkL m := by simp [rkL]
theorem rkL_len (l : List Rk) : (rkL l).length = l.length * 3 := by
  induction l with
  | nil => rfl
  | cons g l ih =>
    show (rkc g ++ rkL l).length = _
    rw [List.length_append, ih]
    simp [rkc]; omega
theorem rkL_one (l : List Rk) : ∀ v ∈ rkL l, v.oneCell' = true := fun v hv => by
  obtain ⟨g, _, hg⟩ := List.mem_flatMap.1 hv
  exact rkc_one _ v hg
theorem rkL_split (l : List Rk) (k : Nat) (h : k < l.length) : rkL l = rkL (l.take k) ++ (rkc l[k] ++ rkL (l.drop (k + 1))) := by
  have e : l = l.take k ++ l[k] :: l.drop (k + 1) := by rw [List.getElem_cons_drop, List.take_append_drop]
  conv => lhs; rw [e, rkL_app]
  rfl
theorem rkL_at (l : List Rk) (k c : Nat) (v : Value) (h : k < l.length) (hv : (rkc l[k])[c]? = some v) : (rkL l)[k * 3 + c]? = some v := by
  have hc : c < 3 := (List.getElem?_eq_some_iff.1 hv).1
  have hl : (rkL (l.take k)).length = k * 3 := by rw [rkL_len, List.length_take]; omega
  rw [rkL_split l k h, List.getElem?_append_right (by omega), hl, show k * 3 + c - k * 3 = c by omega, List.getElem?_append_left hc]
  exact hv
theorem rkL_set (l : List Rk) (k : Nat) (g : Rk) (h : k < l.length) : lset (rkL l) (k * 3) (rkc g) = rkL (l.set k g) := by
  have hl : (rkL (l.take k)).length = k * 3 := by rw [rkL_len, List.length_take]; omega
  have e1 := lset_mid (rkc g) (rkL (l.take k)) (rkc l[k]) (rkL (l.drop (k + 1))) rfl
  rw [hl, List.append_assoc, ← rkL_split l k h] at e1
  rw [e1]
  have e2 : l.set k g = l.take k ++ g :: l.drop (k + 1) := List.set_eq_take_append_cons_drop.trans (if_pos h)
  rw [e2, rkL_app, List.append_assoc]
  rfl
theorem rd_ownL {B n cap : Nat} {ao : Option Addr} {l : List Rk} {w : World} (h : w.ownsRow B 36 3 (.slice ao n cap) n (rkL l)) : RdK w ao l := by
  intro k g hk
  obtain ⟨hkl, rfl⟩ := List.getElem?_eq_some_iff.1 hk
  have hn : l.length = n := by have := h.1; rw [rkL_len] at this; omega
  rcases h.2 with ⟨h', h0⟩ | ⟨q, cap', cur, h', hb, hg, hnc, hcm, hcs, htk⟩
  · omega
  · simp only [Value.slice.injEq, true_and] at h'
    obtain ⟨rfl, rfl⟩ := h'
    have hc : ∀ j v, (rkc l[k])[j]? = some v → w.cell? ⟨q, k * 3 + j, none⟩ = some v := fun j v hj => by
      have hj3 : j < 3 := (List.getElem?_eq_some_iff.1 hj).1
      rw [h.cellAt _ (by omega)]
      exact rkL_at l k j v hkl hj
    have ha : (⟨q, 0, none⟩ : Addr).add (k * 3) = ⟨q, k * 3, none⟩ := by rw [Addr.add_lit, Nat.zero_add]
    refine ⟨_, rfl, (h.lt q rfl).2, ?_, ?_, ?_⟩
    · rw [ha]; exact hc 0 _ rfl
    · rw [ha]; exact hc 1 _ rfl
    · rw [ha]; exact hc 2 _ rfl
/-- Two changed for one another. -/
theorem swap_perm (M : List Rk) (k : Nat) (h0 : 0 < M.length) (hk : k < M.length) : List.Perm M ((M.set 0 M[k]).set k M[0]) := by
  cases M with
  | nil => simp at h0
  | cons a T =>
    cases k with
    | zero => exact List.Perm.refl _
    | succ j =>
      have hj : j < T.length := by simpa using hk
      show List.Perm (a :: T) (T[j] :: T.set j a)
      have e1 : T = T.take j ++ T[j] :: T.drop (j + 1) := by rw [List.getElem_cons_drop, List.take_append_drop]
      have e2 : T.set j a = T.take j ++ a :: T.drop (j + 1) := List.set_eq_take_append_cons_drop.trans (if_pos hj)
      rw [e2]
      conv => lhs; rw [e1]
      refine (List.Perm.cons a List.perm_middle).trans ?_
      refine (List.Perm.swap _ _ _).trans ?_
      exact List.Perm.cons _ List.perm_middle.symm
theorem add_one3 (a : Addr) (k : Nat) : a.add (k + 1) = ⟨(a.add k).block, (a.add k).off + 1, none⟩ := by
  unfold Addr.add
  rw [if_neg (by omega)]
  split
  · rename_i h; subst h; rfl
  · rfl
theorem row_none (w : World) : (w.alloc (.cells #[] 36)).ownsRow w.heap.size 36 3 (.slice (some ⟨w.heap.size, 0, none⟩) 0 0) 0 [] :=
  ⟨by simp, .inr ⟨w.heap.size, 0, #[], rfl, Nat.le_refl _, heap_alloc_new w _, Nat.le_refl _, by simp [maxLen], by simp, by simp⟩⟩
theorem rkL_reads {w : World} {a : Addr} {l : List Rk} (h : RdK w (some a) l) : ∀ j u, (rkL l)[j]? = some u → w.cell? (a.add j) = some u := fun j u hj => by
  have hjl := (List.getElem?_eq_some_iff.1 hj).1
  rw [rkL_len] at hjl
  obtain ⟨t, ht⟩ : ∃ t, t = j / 3 := ⟨_, rfl⟩
  obtain ⟨s, hs⟩ : ∃ s, s = j % 3 := ⟨_, rfl⟩
  have hjt : j = t * 3 + s := by omega
  have hk : t < l.length := by omega
  have hs3 : s < 3 := by omega
  clear ht hs hjl
  subst hjt
  obtain ⟨b, hb, _, h0, h1, h2⟩ := h t l[t] (List.getElem?_eq_getElem hk)
  cases hb
  have hc : (rkc l[t])[s]? = some u := by
    have h5 := rkL_at l t s ((rkc l[t])[s]'(by show s < 3; exact hs3)) hk (List.getElem?_eq_getElem _)
    rw [h5] at hj
    rw [← hj, List.getElem?_eq_getElem]
  rcases (show s = 0 ∨ s = 1 ∨ s = 2 by omega) with e | e | e
  · subst e; cases hc; exact h0
  · subst e; cases hc
    rw [add_one3]
    exact h1
  · subst e; cases hc
    rw [show t * 3 + 2 = t * 3 + 1 + 1 by omega, add_one3, add_one3]
    exact h2
theorem own_any (ao : Option Addr) (ac : Nat) (l : List Rk) (w : World) (ha : RdK w ao l) (hcap : ao = none → ac = 0) (hl : l.length ≤ 100000) :
    Calls Try.prog 11 #[.slice ao l.length ac] w fun e w' => ∃ g cap, e = .returned (.slice (some ⟨g, 0, none⟩) l.length cap) ∧ w'.ownsRow w.heap.size 36 3 (.slice (some ⟨g, 0, none⟩) l.length cap) l.length (rkL l) ∧ Below w.heap.size w w' := by
  obtain ⟨i0, hi, hz0, hz1, hz2⟩ := info_parts Try.info36
  have o0 := row_none w
  have hb0 := (Below.refl w.heap.size w).alloc (Nat.le_refl _) (.cells #[] 36)
  have HB0 := hid hb0
  have HE0 := hid (ha.below hb0)
  cases ao with
  | none =>
    have hn : l = [] := by
      cases l with
      | nil => rfl
      | cons y ys => obtain ⟨a', h', _⟩ := ha 0 y rfl; cases h'
    subst hn
    have hc := hcap rfl
    subst hc
    clear ha hcap hb0 HE0
    go_enter Try.func11, Try.ntmps11
    go_wp2_with (at_builtin; refine wpList_append_own_none rfl _ _ 25 rfl w.heap.size 36 i0 3 Try.underlying25 hi (.slice (some ⟨w.heap.size, 0, none⟩) 0 0) 0 [] rfl o0 rfl ?_)
    go_ret
    exact ⟨_, _, rfl, o0, HB0.out⟩
  | some a =>
    have HRD := hid (rkL_reads HE0.out)
    have hll := rkL_len l
    have HON := hid (rkL_one l)
    obtain ⟨n, hn⟩ : ∃ n, n = l.length := ⟨_, rfl⟩
    rw [← hn] at hl hll ⊢
    clear ha hcap hb0 HE0 hn
    cases Nat.eq_zero_or_pos n with
    | inl h0 =>
      subst h0
      have hnil : rkL l = [] := List.length_eq_zero_iff.1 (by omega)
      have HNL := hid hnil
      rw [hnil] at HRD HON
      clear hnil hll
      go_enter Try.func11, Try.ntmps11
      go_wp2_with (at_builtin; refine wpList_append_fits _ rfl _ _ 25 rfl w.heap.size 36 i0 3 Try.underlying25 hi hz1 w.heap.size 0 0 [] rfl o0 a 0 ac [] rfl rfl HRD.out HON.out (Nat.le_refl _) ?_; intro w1 o1 gr1)
      have HB1 := hid (HB0.out.grown gr1 (by simp) (fun k hk => (o0.lt k hk).1))
      have HO1 := hid o1
      clear o1 gr1
      go_ret
      exact ⟨_, _, rfl, by rw [HNL.out]; exact HO1.out, HB1.out⟩
    | inr hp =>
      go_enter Try.func11, Try.ntmps11
      go_wp2_with (at_builtin; refine wpList_append_lies _ rfl _ _ 25 rfl w.heap.size 36 i0 (.agg #[.int .i32 0, .int .i32 0, .int .i64 0]) 3 16 Try.underlying25 hi hz0 hz1 hz2 rfl (by decide) _ 0 [] rfl o0 a n ac (rkL l) rfl hll HRD.out HON.out hp (by unfold maxLen; omega) (by omega) (by simp) (w.heap.size + 1) (by simp) ?_; intro q cap' w1 o1 gr1 hlie hg1)
      have HB1 := hid (HB0.out.grown gr1 (by simp) (fun k hk => (o0.lt k hk).1))
      rw [Nat.zero_add, List.nil_append] at o1
      have HO1 := hid o1
      clear o1 gr1
      go_ret
      exact ⟨q, cap', by simp, HO1.out, HB1.out⟩

theorem step_store_mid {ops : Array Oper} {o : Oper} {a : Act} {w : World} {K : Act → World → Prop} {Q : Exit → Act → World → Prop} {E : Prop}
    (hg : o.guard = none) (ty : TypeId) (x y : Operand) (ho : o.op = .store ty x y) (b f : Nat) (cells : Array Value) (hx : a.eval x = .pointer (some ⟨b, f, none⟩)) (hy : a.eval y = .agg cells)
    (ht : w.there b f cells.size) (hi : (Try.prog.info? ty).map (·.size) = some cells.size) (h1 : cells.all (·.oneCell') = true) (hK : K (a.put o.dst undef) (w.setCells b f cells.toList)) :
    if Region.wanted o (yielded ops a.tmps) = true then Oper.wp Try.prog o a w K Q else E := by
  rw [if_pos (by simp [Region.wanted, hg])]
  exact wp_store_mid ty x y ho b f cells hx hy ht hi h1 hK
/-- A slice of numbers, nil or not, reads as a list. -/
def RdJ (w : World) (ao : Option Addr) (l : List Int) : Prop := ∀ (k : Nat) (z : Int), l[k]? = some z → ∃ a : Addr, ao = some a ∧ a.block < w.heap.size ∧ w.cell? (a.add k) = some (.int .i64 z)
theorem RdJ.below {w w' : World} {ao : Option Addr} {l : List Int} (h : RdJ w ao l) (hb : Below w.heap.size w w') : RdJ w' ao l := fun k c hk => by
  obtain ⟨a, h1, h2, h3⟩ := h k c hk
  exact ⟨a, h1, Nat.lt_of_lt_of_le h2 hb.size, (hb.cell (p := a.add k) (by rw [add_blk]; exact h2)).trans h3⟩
theorem flt_ne : ∀ (l : List Rk) (D : List Tr) (i : Nat) (c : Int) (k : Nat), flt D i l = some (c, k) → c ≠ 0
  | [], _, _, _, _, h => by cases h
  | g :: l, D, i, c, k, h => by
    unfold flt at h
    split at h
    · split at h
      · cases h; decide
      · exact flt_ne l _ _ c k h
    · cases h; decide
theorem bo_ne {l : List Rk} {r c : Int} {k : Nat} (h : bo l r = some (c, k)) : c ≠ 0 := by
  unfold bo at h
  split at h
  · split at h
    · cases h; decide
    · exact flt_ne l _ _ c k h
  · cases h; decide
theorem bo_none {l : List Rk} {r : Int} (h : bo l r = none) : icl r = true ∧ l.length ≤ 4096 ∧ flt [] 0 l = none := by
  unfold bo at h
  split at h
  · rename_i h1
    split at h
    · cases h
    · rename_i h2
      exact ⟨h1, by omega, h⟩
  · cases h
theorem bo_same {l m : List Rk} {r : Int} (h : bo l r = none) (hp : List.Perm l m) : bo m r = none ∧ srt [] m = srt [] l := by
  obtain ⟨h1, h2, h3⟩ := bo_none h
  obtain ⟨h4, h5⟩ := srt_same h3 hp
  refine ⟨?_, h5⟩
  unfold bo
  rw [if_pos h1, if_neg (by rw [← hp.length_eq]; omega), h4]
theorem bo_self {A : List Tr} {r : Int} (hr : icl r = true) (h : Ris 0 A) (hl : A.length ≤ 4096) : bo (A.map rkT) r = none ∧ srt [] (A.map rkT) = A := by
  obtain ⟨h4, h5⟩ := srt_self A h
  refine ⟨?_, h5⟩
  unfold bo
  rw [if_pos hr, if_neg (by rw [List.length_map]; omega), h4]

theorem below_drew (B : Nat) (w : World) : Below B w w.drew := ⟨rfl, rfl, rfl, Nat.le_refl _, fun _ _ => rfl⟩
theorem six_cells (w : World) (g k : Nat) (a b c d e f : Value) : ((((((w.setCell ⟨g, 0, none⟩ a).setCell ⟨g, 1, none⟩ b).setCell ⟨g, 2, none⟩ c).setCell ⟨g, k * 3, none⟩ d).setCell ⟨g, k * 3 + 1, none⟩ e).setCell ⟨g, k * 3 + 2, none⟩ f).drew = ((w.setCells g 0 [a, b, c]).setCells g (k * 3) [d, e, f]).drew := rfl
theorem six_zero (w : World) (g : Nat) (a b c d e f : Value) : ((((((w.setCell ⟨g, 0, none⟩ a).setCell ⟨g, 1, none⟩ b).setCell ⟨g, 2, none⟩ c).setCell ⟨g, 0, none⟩ d).setCell ⟨g, 1, none⟩ e).setCell ⟨g, 2, none⟩ f).drew = ((w.setCells g 0 [a, b, c]).setCells g 0 [d, e, f]).drew := rfl
set_option maxHeartbeats 8000000 in
set_option maxRecDepth 100000 in
theorem order_walk (ao to : Option Addr) (ac tc : Nat) (l : List Rk) (r : Int) (t : List Int) (w : World) (ha : RdK w ao l) (hna : ao = none → ac = 0) (hl0 : l.length ≤ 9223372036854775807) (ht : RdJ w to t) (htl0 : t.length ≤ 9223372036854775807) :
    Calls Try.prog 8 #[.slice ao l.length ac, .int .i64 r, .slice to t.length tc] w fun e w' => e = .returned (.bool true) ∧ Below w.heap.size w w' := by
  have HA := hid ha
  have HTU := hid ht
  obtain ⟨n, hn⟩ : ∃ n, n = l.length := ⟨_, rfl⟩
  obtain ⟨m, hm⟩ : ∃ m, m = t.length := ⟨_, rfl⟩
  rw [← hn, ← hm]
  have HN := hid hn
  have HM := hid hm
  clear ha ht
  by_cases c1 : 300 < n
  · have c1' : (300 : Int) < (n : Int) := by omega
    clear hn hm
    go_enter Try.func8, Try.ntmps8
    go_wp2_with fail
    refine (live_any _).mono ?_
    rintro e w1 ⟨rfl, b1⟩
    have HB1 := hid b1
    clear b1
    go_wp2
    go_ret
    exact ⟨rfl, HB1.out⟩
  by_cases c2 : 300 < m
  · have c1' : ¬ (300 : Int) < (n : Int) := by omega
    have c2' : (300 : Int) < (m : Int) := by omega
    clear hn hm
    go_enter Try.func8, Try.ntmps8
    go_wp2_with fail
    refine (live_any _).mono ?_
    rintro e w1 ⟨rfl, b1⟩
    have HB1 := hid b1
    clear b1
    go_wp2
    go_ret
    exact ⟨rfl, HB1.out⟩
  have c1' : ¬ (300 : Int) < (n : Int) := by omega
  have c2' : ¬ (300 : Int) < (m : Int) := by omega
  have HO := hid (own_any ao ac l w HA.out hna (by omega))
  rw [← hn] at HO
  have hn3 : n ≤ 300 := by omega
  have hm3 : m ≤ 300 := by omega
  clear hn hm
  go_enter Try.func8, Try.ntmps8
  go_wp2_with fail
  refine HO.out.mono ?_
  rintro e w1 ⟨g1, p1, rfl, o1, b1⟩
  have HB1 := hid b1
  have HBU := hid (build_any (some ⟨g1, 0, none⟩) p1 l r w1 (rd_ownL o1) (by have h5 := HN.out; omega))
  rw [← HN.out] at HBU
  clear o1 b1 HO
  go_wp2_with fail
  refine HBU.out.mono ?_
  rintro e w2 ⟨b2, hc⟩
  have HB2 := hid (HB1.out.trans (b2.mono HB1.out.size))
  clear b2 HBU
  rcases hc with ⟨c, k, hc, rfl⟩ | ⟨hbo, T, F, rfl, hTs, hF, hsl, hTb⟩
  · have hc0 : (c == 0) = false := by simpa using bo_ne hc
    have hc1 : ¬ (c = 0) := bo_ne hc
    clear hc
    go_wp2_with (first | (go_at_call 9; refine (num_any _ _).mono ?_; rintro e w9 ⟨rfl, h9⟩; obtain rfl := h9.symm) | fail)
    refine (live_any _).mono ?_
    rintro e w3 ⟨rfl, b3⟩
    have HB3 := hid (HB2.out.trans (b3.mono HB2.out.size))
    clear b3
    go_wp2
    go_ret
    exact ⟨rfl, HB3.out⟩
  have HBO := hid hbo
  have HF := hid hF
  have HTb := hid hTb
  have HO2 := hid (own_any ao ac l w2 (HA.out.below HB2.out) hna (by have h5 := HN.out; omega))
  rw [← HN.out] at HO2
  clear hbo hF hTb hTs
  go_wp2_with (first | (go_at_call 9; refine (num_any _ _).mono ?_; rintro e w9 ⟨rfl, h9⟩; obtain rfl := h9.symm) | fail)
  refine HO2.out.mono ?_
  rintro e w3 ⟨g3, p3, rfl, o3, b3⟩
  obtain ⟨B3, hB3⟩ : ∃ B3, B3 = w2.heap.size := ⟨_, rfl⟩
  rw [← hB3] at o3 b3
  have HBE3 := hid hB3
  have HO3 := hid o3
  have HB3 := hid b3
  clear o3 b3 HO2 hB3
  go_wp2
  have HP0 := hid (List.Perm.refl l)
  have HNL := hid (show l.length = n from HN.out.symm)
  go_loopw [11] (fun x wr => ∃ (i : Nat) (M : List Rk), x = .int .i64 (i : Int) ∧ i ≤ m ∧ Hid (M.length = n) ∧ Hid (List.Perm l M) ∧ Hid (wr.ownsRow B3 36 3 (.slice (some ⟨g3, 0, none⟩) n p3) n (rkL M)) ∧ Hid (Below B3 w2 wr)) (fun x _ => m - (intOf x).toNat)
  case atStart => exact ⟨0, l, rfl, by omega, HNL, HP0, HO3, HB3⟩
  case round =>
    obtain ⟨i, M, rfl, hi, HML, HPM, HOM, HBM⟩ := hrel
    by_cases hgo : i < m ∧ 0 < n
    · obtain ⟨him, hn0⟩ := hgo
      have hw2 := HB2.out.size
      have HBW := hid (show Below w.heap.size w wr from HB2.out.trans (HBM.out.mono (by have h5 := HBE3.out; omega)))
      have hit : i < t.length := by have h5 := HM.out; omega
      obtain ⟨a, rfl, _, at0⟩ := (HTU.out.below HBW.out) i t[i] (List.getElem?_eq_getElem hit)
      obtain ⟨z, hz⟩ : ∃ z, z = t[i] := ⟨_, rfl⟩
      rw [← hz] at at0
      obtain ⟨y, hy⟩ : ∃ y, y = z.tmod (n : Int) := ⟨_, rfl⟩
      have hy1 : y < (n : Int) := by rw [hy]; exact Int.tmod_lt_of_pos z (by omega)
      have hy2 : -(n : Int) < y := by rw [hy]; exact Int.lt_tmod_of_pos z (by omega)
      obtain ⟨s, hs⟩ : ∃ s : Nat, (s : Int) = y + (n : Int) := ⟨(y + n).toNat, by omega⟩
      obtain ⟨k, hk⟩ : ∃ k, k = s % n := ⟨_, rfl⟩
      have hkn : k < n := by rw [hk]; exact Nat.mod_lt _ hn0
      have e1 : z.tmod (n : Int) = y := hy.symm
      have e2 : IntKind.i64.wrap y = y := by rw [IntKind.wrap_i64]; omega
      have e3 : y + (n : Int) = (s : Int) := hs.symm
      have e4 : IntKind.i64.wrap (s : Int) = (s : Int) := by rw [IntKind.wrap_i64]; omega
      have e5 : (s : Int).tmod (n : Int) = (k : Int) := by rw [Int.tmod_eq_emod_of_nonneg (by omega), hk]; omega
      have e6 : IntKind.i64.wrap (k : Int) = (k : Int) := by rw [IntKind.wrap_i64]; omega
      have nz : ¬ ((n : Int) = 0) := by omega
      have nz2 : ((n : Int) == 0) = false := by simp; omega
      have i3 : (i : Int) < (m : Int) := by omega
      have i0 : (0 : Int) ≤ (i : Int) := by omega
      have n0 : (0 : Int) < (n : Int) := by omega
      have k3 : (k : Int) < (n : Int) := by omega
      have k0 : (0 : Int) ≤ (k : Int) := by omega
      have hML := HML.out
      have hkM : k < M.length := by omega
      have h0M : 0 < M.length := by omega
      have HSW := hid (HPM.out.trans (swap_perm M k h0M hkM))
      have ck : ∀ c v, (rkc M[k])[c]? = some v → wr.cell? ⟨g3, k * 3 + c, none⟩ = some v := fun c v hv => by
        have h3 : c < 3 := (List.getElem?_eq_some_iff.1 hv).1
        rw [HOM.out.cellAt _ (by omega)]
        exact rkL_at M k c v hkM hv
      have c0 : ∀ c v, (rkc M[0])[c]? = some v → wr.cell? ⟨g3, c, none⟩ = some v := fun c v hv => by
        have h3 : c < 3 := (List.getElem?_eq_some_iff.1 hv).1
        rw [HOM.out.cellAt _ (by omega)]
        have h5 := rkL_at M 0 c v h0M hv
        rw [Nat.zero_mul, Nat.zero_add] at h5
        exact h5
      have x0 : wr.cell? ⟨g3, k * 3, none⟩ = some (.int .i32 M[k].1) := ck 0 _ rfl
      have x1 : wr.cell? ⟨g3, k * 3 + 1, none⟩ = some (.int .i32 M[k].2.1) := ck 1 _ rfl
      have x2 : wr.cell? ⟨g3, k * 3 + 2, none⟩ = some (.int .i64 M[k].2.2) := ck 2 _ rfl
      have y0 : wr.cell? ⟨g3, 0, none⟩ = some (.int .i32 M[0].1) := c0 0 _ rfl
      have y1 : wr.cell? ⟨g3, 1, none⟩ = some (.int .i32 M[0].2.1) := c0 1 _ rfl
      have y2 : wr.cell? ⟨g3, 2, none⟩ = some (.int .i64 M[0].2.2) := c0 2 _ rfl
      obtain ⟨o4, b4⟩ := own_sets (rkc M[k]) (0 * 3) (rkL M) wr HOM.out
      rw [rkL_set M 0 M[k] h0M] at o4
      obtain ⟨o5, b5⟩ := own_sets (rkc M[0]) (k * 3) _ _ o4
      rw [rkL_set (M.set 0 M[k]) k M[0] (by rw [List.length_set]; exact hkM)] at o5
      rw [Nat.zero_mul] at o4 b4 o5 b5
      have HO5 := hid o5.drew
      have HB5 := hid ((HBM.out.trans (b4.trans b5)).trans (below_drew B3 _))
      have HML5 := hid (show ((M.set 0 M[k]).set k M[0]).length = n by rw [List.length_set, List.length_set]; exact hML)
      have fz : ∀ c, wr.frozen? ⟨g3, c, none⟩ = false := fun c => HOM.out.frozenAt c
      have mixed : Try.prog.follows .mixedOrders = true := by kernel_rfl
      rcases Nat.eq_zero_or_pos k with hk0 | hk0
      · subst hk0
        obtain ⟨m0, hm0⟩ : ∃ m0, m0 = M[0] := ⟨_, rfl⟩
        rw [← hm0] at y0 y1 y2 HO5 HB5 HML5 HSW
        obtain ⟨z1, z2, zc⟩ := m0
        rw [Nat.zero_mul] at HO5 HB5
        dsimp only at y0 y1 y2
        have u0 := fz 0
        have u1 := fz 1
        have u2 := fz 2
        have e5' : (s : Int).tmod (n : Int) = 0 := by simpa using e5
        have HO6' := hid (show Hid ((((wr.setCells g3 0 [.int .i32 z1, .int .i32 z2, .int .i64 zc]).setCells g3 0 [.int .i32 z1, .int .i32 z2, .int .i64 zc]).drew).ownsRow B3 36 3 (.slice (some ⟨g3, 0, none⟩) n p3) n _) from HO5)
        have HB6' := hid (show Hid (Below B3 w2 (((wr.setCells g3 0 [.int .i32 z1, .int .i32 z2, .int .i64 zc]).setCells g3 0 [.int .i32 z1, .int .i32 z2, .int .i64 zc]).drew)) from HB5)
        obtain ⟨WX, hWX⟩ : ∃ WX, WX = ((wr.setCells g3 0 [.int .i32 z1, .int .i32 z2, .int .i64 zc]).setCells g3 0 [.int .i32 z1, .int .i32 z2, .int .i64 zc]).drew := ⟨_, rfl⟩
        rw [← hWX] at HO6' HB6'
        have HO6 := HO6'.out
        have HB6 := HB6'.out
        have HWX := hid hWX
        clear hWX HO5 HB5 HO6' HB6'
        clear ck c0 o4 o5 b4 b5 hm0 hy hz hk hs hy1 hy2 hML fz e5 e6 k3 k0 x0 x1 x2
        go_wp2_with fail
        go_region_law_o (fail)
        · rw [six_zero, ← HWX.out]
          go_wp2
          go_roundw
          case rel => exact ⟨i + 1, _, by go_num, by omega, HML5, HSW, HO6, HB6⟩
          case measure => simp [intOf]; omega
        · rw [six_zero, ← HWX.out]
          go_wp2
          go_roundw
          case rel => exact ⟨i + 1, _, by go_num, by omega, HML5, HSW, HO6, HB6⟩
          case measure => simp [intOf]; omega
      · obtain ⟨mk, hmk⟩ : ∃ mk, mk = M[k] := ⟨_, rfl⟩
        obtain ⟨m0, hm0⟩ : ∃ m0, m0 = M[0] := ⟨_, rfl⟩
        rw [← hmk] at x0 x1 x2 HO5 HB5 HML5 HSW
        rw [← hm0] at y0 y1 y2 HO5 HB5 HML5 HSW
        obtain ⟨k1, k2, kc⟩ := mk
        obtain ⟨z1, z2, zc⟩ := m0
        dsimp only at x0 x1 x2 y0 y1 y2
        have q0 : ¬ (k = 0) := by omega
        have q1 : ¬ (k * 3 = 1) := by omega
        have q2 : ¬ (k * 3 = 2) := by omega
        have u0 := fz 0
        have u1 := fz 1
        have u2 := fz 2
        have u3 := fz (k * 3)
        have u4 := fz (k * 3 + 1)
        have u5 := fz (k * 3 + 2)
        have HO6' := hid (show Hid ((((wr.setCells g3 0 [.int .i32 k1, .int .i32 k2, .int .i64 kc]).setCells g3 (k * 3) [.int .i32 z1, .int .i32 z2, .int .i64 zc]).drew).ownsRow B3 36 3 (.slice (some ⟨g3, 0, none⟩) n p3) n _) from HO5)
        have HB6' := hid (show Hid (Below B3 w2 (((wr.setCells g3 0 [.int .i32 k1, .int .i32 k2, .int .i64 kc]).setCells g3 (k * 3) [.int .i32 z1, .int .i32 z2, .int .i64 zc]).drew)) from HB5)
        obtain ⟨WX, hWX⟩ : ∃ WX, WX = ((wr.setCells g3 0 [.int .i32 k1, .int .i32 k2, .int .i64 kc]).setCells g3 (k * 3) [.int .i32 z1, .int .i32 z2, .int .i64 zc]).drew := ⟨_, rfl⟩
        rw [← hWX] at HO6' HB6'
        have HO6 := HO6'.out
        have HB6 := HB6'.out
        have HWX := hid hWX
        clear hWX HO5 HB5 HO6' HB6'
        clear ck c0 o4 o5 b4 b5 hmk hm0 hy hz hk hs hy1 hy2 hML fz
        go_wp2_with fail
        go_region_law_o (fail)
        · rw [six_cells, ← HWX.out]
          go_wp2
          go_roundw
          case rel => exact ⟨i + 1, _, by go_num, by omega, HML5, HSW, HO6, HB6⟩
          case measure => simp [intOf]; omega
        · rw [six_cells, ← HWX.out]
          go_wp2
          go_roundw
          case rel => exact ⟨i + 1, _, by go_num, by omega, HML5, HSW, HO6, HB6⟩
          case measure => simp [intOf]; omega
    · obtain ⟨hb2, hs2⟩ := bo_same HBO.out HPM.out
      obtain ⟨hic, hl4, hfl⟩ := bo_none HBO.out
      have hw2 := HB2.out.size
      have HBW := hid (show Below w.heap.size w wr from HB2.out.trans (HBM.out.mono (by have h5 := HBE3.out; omega)))
      have HT3 := hid (show TbAt w1.heap.size T F r.toNat wr from HTb.out.below (by have h5 := HBE3.out; rw [← h5]; exact HBM.out))
      have HBU2 := hid (build_any (some ⟨g3, 0, none⟩) p3 M r wr (rd_ownL HOM.out) (by have h5 := HML.out; omega))
      rw [HML.out] at HBU2
      have HB2N := hid hb2
      have HS2 := hid hs2
      have HRS := hid (srt_ris l [] 0 trivial hfl)
      have HAL := hid (show (srt [] l).length ≤ 300 by
        have h5 := (srt_perm l []).length_eq
        rw [List.nil_append, List.length_map] at h5
        have h6 := HN.out
        omega)
      obtain ⟨r0, hr0⟩ : ∃ r0 : Nat, r = (r0 : Int) := ⟨r.toNat, by unfold icl at hic; have := of_decide_eq_true hic; omega⟩
      subst hr0
      have hr1 : r0 < 256 := by unfold icl at hic; have := of_decide_eq_true hic; omega
      have hrt : ((r0 : Int)).toNat = r0 := by omega
      rw [hrt] at HT3
      have HF2 := hid HF.out
      rw [hrt] at HF2
      have HIC := hid hic
      have HC8 := hid (show ∀ c ∈ F.flatten, c < 256 by rw [HF2.out]; exact clA_256 r0 _ hr1 HRS.out)
      have HCL := hid (show F.flatten.length = 1114112 by rw [HF2.out]; exact clA_len r0 _ HRS.out)
      clear hb2 hs2 hic hl4 hfl
      have hexit : ¬ i < m ∨ (i < m ∧ n = 0) := by omega
      rcases hexit with hx | ⟨hx, hx0⟩
      · have i3 : ¬ (i : Int) < (m : Int) := by omega
        clear hgo hx
        go_wp2_with fail
        refine HBU2.out.mono ?_
        rintro e w5 ⟨b5, hc⟩
        rw [HB2N.out, HS2.out] at hc
        rcases hc with ⟨c, k, hc, _⟩ | ⟨_, T2, F2, rfl, _, hF5, _, hT5⟩
        · cases hc
        rw [hrt] at hF5 hT5
        have hFF : F2 = F := by
          obtain ⟨_, _, _, _, ho5, _⟩ := hT5
          obtain ⟨_, _, _, _, ho, _⟩ := HT3.out
          exact flat_one ho5 ho (hF5.trans HF2.out.symm)
        subst hFF
        have HB5 := hid (HBW.out.trans (b5.mono HBW.out.size))
        have HT5 := hid (HT3.out.below b5)
        have HX5 := hid hT5
        have HRA := hid (ranges_any _ T r0 F2 w5 HT5.out hr1)
        have HRI := hid (rgs_ris r0 F2.flatten HCL.out HC8.out)
        have HRL := hid (show (rgs r0 F2.flatten).length ≤ 4096 by
          have h5 := rgs_len r0 (srt [] l)
          rw [← HF2.out] at h5
          have h6 := HAL.out
          omega)
        have HBK := hid (clA_rgs r0 F2.flatten HCL.out HC8.out)
        clear b5 hF5 hT5 HBU2
        go_wp2_with fail
        refine HRA.out.mono ?_
        rintro e w6 ⟨v6, rfl, o6, b6⟩
        obtain ⟨yo, yc, rfl⟩ := own_form o6
        have HB6 := hid (HB5.out.trans (b6.mono HB5.out.size))
        have HT6 := hid (HT5.out.below b6)
        have HX6 := hid (HX5.out.below b6)
        have HRE := hid (rest_any _ T r0 F2 w6 HT6.out hr1)
        have HBU3 := hid (build_any yo yc ((rgs r0 F2.flatten).map rkT) (r0 : Int) w6 (rd_own o6) (by rw [List.length_map]; have h5 := HRL.out; omega))
        rw [List.length_map] at HBU3
        obtain ⟨rl, hrl⟩ : ∃ rl, rl = (rgs r0 F2.flatten).length := ⟨_, rfl⟩
        rw [← hrl] at HBU3 ⊢
        obtain ⟨hb3, hs3⟩ := bo_self (A := rgs r0 F2.flatten) (r := (r0 : Int)) HIC.out HRI.out HRL.out
        have HB3N := hid hb3
        have HS3 := hid hs3
        clear o6 b6 HRA hrl hb3 hs3
        go_wp2_with (first | (go_at_call 33; refine HRE.out.mono ?_; rintro e w9 ⟨rfl, h9⟩; obtain rfl := h9.symm) | fail)
        refine HBU3.out.mono ?_
        rintro e w7 ⟨b7, hc⟩
        rw [HB3N.out, HS3.out] at hc
        rcases hc with ⟨c, k, hc, _⟩ | ⟨_, T3, F3, rfl, _, hF7, _, hT7⟩
        · cases hc
        rw [hrt] at hF7 hT7
        have hFF3 : F3 = F2 := by
          obtain ⟨_, _, _, _, ho7, _⟩ := hT7
          obtain ⟨_, _, _, _, ho, _⟩ := HT6.out
          exact flat_one ho7 ho (hF7.trans HBK.out)
        subst hFF3
        have HB7 := hid (HB6.out.trans (b7.mono HB6.out.size))
        have HT7 := hid (HT6.out.below b7)
        have HX7 := hid (HX6.out.below b7)
        have HY7 := hid hT7
        have HCZ := hid (cb_zero F3.flatten)
        clear b7 hF7 hT7 HBU3 HRE
        go_wp2
        go_loopw [20, 19] (fun x y wz => ∃ c : Nat, x = .int .i64 (c : Int) ∧ y = .int .i64 ((cb c F3.flatten : Nat) : Int) ∧ c ≤ 256 ∧ Hid (Below w7.heap.size w7 wz)) (fun x _ _ => 256 - (intOf x).toNat)
        case atStart => exact ⟨0, rfl, by rw [HCZ.out]; rfl, by omega, Below.refl _ _⟩
        case round =>
          obtain ⟨c, rfl, rfl, hc, HBC⟩ := hrel
          by_cases hcl : c < 256
          · have c3 : (c : Int) ≤ 255 := by omega
            have HCN := hid (count_any _ T r0 F3 (c : Int) wr (HT7.out.below HBC.out))
            have HNX := hid (cb_next c F3.flatten)
            have HLE := hid (show cb (c + 1) F3.flatten ≤ 1114112 by rw [← HCL.out]; exact List.countP_le_length)
            obtain ⟨s1, hs1⟩ : ∃ s1, s1 = cb c F3.flatten := ⟨_, rfl⟩
            obtain ⟨s2, hs2⟩ : ∃ s2, s2 = cz (c : Int) F3.flatten := ⟨_, rfl⟩
            rw [← hs1, ← hs2] at HNX
            rw [← hs2] at HCN
            rw [← hs1]
            have hsum : s1 + s2 ≤ 1114112 := by rw [← HNX.out]; exact HLE.out
            have es : IntKind.i64.wrap ((s1 : Int) + (s2 : Int)) = (s1 : Int) + (s2 : Int) := by rw [IntKind.wrap_i64]; omega
            have HSS := hid (show ((cb (c + 1) F3.flatten : Nat) : Int) = (s1 : Int) + (s2 : Int) by rw [HNX.out]; omega)
            clear hs1 hs2
            go_wp2_with fail
            refine HCN.out.mono ?_
            rintro e w8 ⟨rfl, b8⟩
            have HB8 := hid (HBC.out.trans (b8.mono HBC.out.size))
            clear b8 HCN
            go_wp2
            go_roundw
            case rel => exact ⟨c + 1, by go_num, by rw [HSS.out], by omega, HB8⟩
            case measure => simp [intOf]; omega
          · have c3 : ¬ (c : Int) ≤ 255 := by omega
            have hce : c = 256 := by omega
            have HCA := hid (show cb c F3.flatten = 1114112 by rw [hce, cb_all _ HC8.out]; exact HCL.out)
            rw [HCA.out]
            have HTz := hid (HT7.out.below HBC.out)
            have HXz := hid (HX7.out.below HBC.out)
            have HYz := hid (HY7.out.below HBC.out)
            have HBz := hid (HB7.out.trans (HBC.out.mono HB7.out.size))
            have HE1 := hid (equal_any _ _ T T2 r0 r0 F3 F3 wr HTz.out HXz.out)
            rw [decide_eq_true (show r0 = r0 ∧ F3 = F3 from ⟨rfl, rfl⟩)] at HE1
            clear hce
            go_wp2_with (first | (go_at_call 9; refine (num_any _ _).mono ?_; rintro e w9 ⟨rfl, h9⟩; obtain rfl := h9.symm) | fail)
            refine HE1.out.mono ?_
            rintro e wa ⟨rfl, ba⟩
            have HTa := hid (HTz.out.below ba)
            have HYa := hid (HYz.out.below ba)
            have HBa := hid (HBz.out.trans (ba.mono HBz.out.size))
            have HE2 := hid (equal_any _ _ T T3 r0 r0 F3 F3 wa HTa.out HYa.out)
            rw [decide_eq_true (show r0 = r0 ∧ F3 = F3 from ⟨rfl, rfl⟩)] at HE2
            clear ba HE1
            go_wp2_with fail
            refine HE2.out.mono ?_
            rintro e wb ⟨rfl, bb⟩
            have HBb := hid (HBa.out.trans (bb.mono HBa.out.size))
            clear bb HE2
            go_wp2_with fail
            refine (live_any _).mono ?_
            rintro e wc ⟨rfl, bc⟩
            have HBc := hid (HBb.out.trans (bc.mono HBb.out.size))
            clear bc
            go_wp2
            go_ret
            exact ⟨rfl, HBc.out⟩
      · have i3 : (i : Int) < (m : Int) := by omega
        have n0 : ¬ (0 : Int) < (n : Int) := by omega
        have HX0 := hid hx0
        clear hgo hx0
        go_wp2_with fail
        refine HBU2.out.mono ?_
        rintro e w5 ⟨b5, hc⟩
        rw [HB2N.out, HS2.out] at hc
        rcases hc with ⟨c, k, hc, _⟩ | ⟨_, T2, F2, rfl, _, hF5, _, hT5⟩
        · cases hc
        rw [hrt] at hF5 hT5
        have hFF : F2 = F := by
          obtain ⟨_, _, _, _, ho5, _⟩ := hT5
          obtain ⟨_, _, _, _, ho, _⟩ := HT3.out
          exact flat_one ho5 ho (hF5.trans HF2.out.symm)
        subst hFF
        have HB5 := hid (HBW.out.trans (b5.mono HBW.out.size))
        have HT5 := hid (HT3.out.below b5)
        have HX5 := hid hT5
        have HRA := hid (ranges_any _ T r0 F2 w5 HT5.out hr1)
        have HRI := hid (rgs_ris r0 F2.flatten HCL.out HC8.out)
        have HRL := hid (show (rgs r0 F2.flatten).length ≤ 4096 by
          have h5 := rgs_len r0 (srt [] l)
          rw [← HF2.out] at h5
          have h6 := HAL.out
          omega)
        have HBK := hid (clA_rgs r0 F2.flatten HCL.out HC8.out)
        clear b5 hF5 hT5 HBU2
        go_wp2_with fail
        refine HRA.out.mono ?_
        rintro e w6 ⟨v6, rfl, o6, b6⟩
        obtain ⟨yo, yc, rfl⟩ := own_form o6
        have HB6 := hid (HB5.out.trans (b6.mono HB5.out.size))
        have HT6 := hid (HT5.out.below b6)
        have HX6 := hid (HX5.out.below b6)
        have HRE := hid (rest_any _ T r0 F2 w6 HT6.out hr1)
        have HBU3 := hid (build_any yo yc ((rgs r0 F2.flatten).map rkT) (r0 : Int) w6 (rd_own o6) (by rw [List.length_map]; have h5 := HRL.out; omega))
        rw [List.length_map] at HBU3
        obtain ⟨rl, hrl⟩ : ∃ rl, rl = (rgs r0 F2.flatten).length := ⟨_, rfl⟩
        rw [← hrl] at HBU3 ⊢
        obtain ⟨hb3, hs3⟩ := bo_self (A := rgs r0 F2.flatten) (r := (r0 : Int)) HIC.out HRI.out HRL.out
        have HB3N := hid hb3
        have HS3 := hid hs3
        clear o6 b6 HRA hrl hb3 hs3
        go_wp2_with (first | (go_at_call 33; refine HRE.out.mono ?_; rintro e w9 ⟨rfl, h9⟩; obtain rfl := h9.symm) | fail)
        refine HBU3.out.mono ?_
        rintro e w7 ⟨b7, hc⟩
        rw [HB3N.out, HS3.out] at hc
        rcases hc with ⟨c, k, hc, _⟩ | ⟨_, T3, F3, rfl, _, hF7, _, hT7⟩
        · cases hc
        rw [hrt] at hF7 hT7
        have hFF3 : F3 = F2 := by
          obtain ⟨_, _, _, _, ho7, _⟩ := hT7
          obtain ⟨_, _, _, _, ho, _⟩ := HT6.out
          exact flat_one ho7 ho (hF7.trans HBK.out)
        subst hFF3
        have HB7 := hid (HB6.out.trans (b7.mono HB6.out.size))
        have HT7 := hid (HT6.out.below b7)
        have HX7 := hid (HX6.out.below b7)
        have HY7 := hid hT7
        have HCZ := hid (cb_zero F3.flatten)
        clear b7 hF7 hT7 HBU3 HRE
        go_wp2
        go_loopw [20, 19] (fun x y wz => ∃ c : Nat, x = .int .i64 (c : Int) ∧ y = .int .i64 ((cb c F3.flatten : Nat) : Int) ∧ c ≤ 256 ∧ Hid (Below w7.heap.size w7 wz)) (fun x _ _ => 256 - (intOf x).toNat)
        case atStart => exact ⟨0, rfl, by rw [HCZ.out]; rfl, by omega, Below.refl _ _⟩
        case round =>
          obtain ⟨c, rfl, rfl, hc, HBC⟩ := hrel
          by_cases hcl : c < 256
          · have c3 : (c : Int) ≤ 255 := by omega
            have HCN := hid (count_any _ T r0 F3 (c : Int) wr (HT7.out.below HBC.out))
            have HNX := hid (cb_next c F3.flatten)
            have HLE := hid (show cb (c + 1) F3.flatten ≤ 1114112 by rw [← HCL.out]; exact List.countP_le_length)
            obtain ⟨s1, hs1⟩ : ∃ s1, s1 = cb c F3.flatten := ⟨_, rfl⟩
            obtain ⟨s2, hs2⟩ : ∃ s2, s2 = cz (c : Int) F3.flatten := ⟨_, rfl⟩
            rw [← hs1, ← hs2] at HNX
            rw [← hs2] at HCN
            rw [← hs1]
            have hsum : s1 + s2 ≤ 1114112 := by rw [← HNX.out]; exact HLE.out
            have es : IntKind.i64.wrap ((s1 : Int) + (s2 : Int)) = (s1 : Int) + (s2 : Int) := by rw [IntKind.wrap_i64]; omega
            have HSS := hid (show ((cb (c + 1) F3.flatten : Nat) : Int) = (s1 : Int) + (s2 : Int) by rw [HNX.out]; omega)
            clear hs1 hs2
            go_wp2_with fail
            refine HCN.out.mono ?_
            rintro e w8 ⟨rfl, b8⟩
            have HB8 := hid (HBC.out.trans (b8.mono HBC.out.size))
            clear b8 HCN
            go_wp2
            go_roundw
            case rel => exact ⟨c + 1, by go_num, by rw [HSS.out], by omega, HB8⟩
            case measure => simp [intOf]; omega
          · have c3 : ¬ (c : Int) ≤ 255 := by omega
            have hce : c = 256 := by omega
            have HCA := hid (show cb c F3.flatten = 1114112 by rw [hce, cb_all _ HC8.out]; exact HCL.out)
            rw [HCA.out]
            have HTz := hid (HT7.out.below HBC.out)
            have HXz := hid (HX7.out.below HBC.out)
            have HYz := hid (HY7.out.below HBC.out)
            have HBz := hid (HB7.out.trans (HBC.out.mono HB7.out.size))
            have HE1 := hid (equal_any _ _ T T2 r0 r0 F3 F3 wr HTz.out HXz.out)
            rw [decide_eq_true (show r0 = r0 ∧ F3 = F3 from ⟨rfl, rfl⟩)] at HE1
            clear hce
            go_wp2_with (first | (go_at_call 9; refine (num_any _ _).mono ?_; rintro e w9 ⟨rfl, h9⟩; obtain rfl := h9.symm) | fail)
            refine HE1.out.mono ?_
            rintro e wa ⟨rfl, ba⟩
            have HTa := hid (HTz.out.below ba)
            have HYa := hid (HYz.out.below ba)
            have HBa := hid (HBz.out.trans (ba.mono HBz.out.size))
            have HE2 := hid (equal_any _ _ T T3 r0 r0 F3 F3 wa HTa.out HYa.out)
            rw [decide_eq_true (show r0 = r0 ∧ F3 = F3 from ⟨rfl, rfl⟩)] at HE2
            clear ba HE1
            go_wp2_with fail
            refine HE2.out.mono ?_
            rintro e wb ⟨rfl, bb⟩
            have HBb := hid (HBa.out.trans (bb.mono HBa.out.size))
            clear bb HE2
            go_wp2_with fail
            refine (live_any _).mono ?_
            rintro e wc ⟨rfl, bc⟩
            have HBc := hid (HBb.out.trans (bc.mono HBb.out.size))
            clear bc
            go_wp2
            go_ret
            exact ⟨rfl, HBc.out⟩
end Go.Proofs.Ytljlhlcoaajggaa
