/- The contract of own (package kerflaw03); lists of any ranges in rows; two of them changed for one another; TableOrder answers true. -/
import Derived.Laws.AppendOwnNone
import Derived.Test.YtljlhlcoaajggaaSame3Joint
import Derived.Test.YtljlhlcoaajggaaLive
import Derived.Test.YtljlhlcoaajggaaLoad
import Derived.OpenShut
import Derived.Deep.SlicePairs
namespace Go.Proofs.Ytljlhlcoaajggaa
open Go.RowKit

/-- The cells of ranges. -/
def rkL (l : List Rk) : List Value := l.flatMap rkc
theorem rkL_app (l m : List Rk) : rkL (l ++ m) = rkL l ++ rkL m := by simp [rkL]
theorem rkL_len (l : List Rk) : (rkL l).length = l.length * 3 := by
  induction l with
  | nil => rfl
  | cons g l ih =>
    show (rkc g ++ rkL l).length = _
    rw [List.length_append, ih]
    simp [rkc]; omega
theorem rkL_one (l : List Rk) : ∀ v ∈ rkL l, v.oneCell' = true := fun v hv => by
  obtain ⟨g, _, hg⟩ := List.mem_flatMap.1 hv
  exact rkc_one _ v hg
theorem rkL_split (l : List Rk) (k : Nat) (h : k < l.length) : rkL l = rkL (l.take k) ++ (rkc l[k] ++ rkL (l.drop (k + 1))) := by
  have e : l = l.take k ++ l[k] :: l.drop (k + 1) := by rw [List.getElem_cons_drop, List.take_append_drop]
  conv => lhs; rw [e, rkL_app]
  rfl
theorem rkL_at (l : List Rk) (k c : Nat) (v : Value) (h : k < l.length) (hv : (rkc l[k])[c]? = some v) : (rkL l)[k * 3 + c]? = some v := by
  have hc : c < 3 := (List.getElem?_eq_some_iff.1 hv).1
  have hl : (rkL (l.take k)).length = k * 3 := by rw [rkL_len, List.length_take]; omega
  rw [rkL_split l k h, List.getElem?_append_right (by omega), hl, show k * 3 + c - k * 3 = c by omega, List.getElem?_append_left hc]
  exact hv
theorem rkL_set (l : List Rk) (k : Nat) (g : Rk) (h : k < l.length) : lset (rkL l) (k * 3) (rkc g) = rkL (l.set k g) := by
  have hl : (rkL (l.take k)).length = k * 3 := by rw [rkL_len, List.length_take]; omega
  have e1 := lset_mid (rkc g) (rkL (l.take k)) (rkc l[k]) (rkL (l.drop (k + 1))) rfl
  rw [hl, List.append_assoc, ← rkL_split l k h] at e1
  rw [e1]
  have e2 : l.set k g = l.take k ++ g :: l.drop (k + 1) := List.set_eq_take_append_cons_drop.trans (if_pos h)
  rw [e2, rkL_app, List.append_assoc]
  rfl
theorem rd_ownL {B n cap : Nat} {ao : Option Addr} {l : List Rk} {w : World} (h : w.ownsRow B 36 3 (.slice ao n cap) n (rkL l)) : RdK w ao l := by
  intro k g hk
  obtain ⟨hkl, rfl⟩ := List.getElem?_eq_some_iff.1 hk
  have hn : l.length = n := by have := h.1; rw [rkL_len] at this; omega
  rcases h.2 with ⟨h', h0⟩ | ⟨q, cap', cur, h', hb, hg, hnc, hcm, hcs, htk⟩
  · omega
  · simp only [Value.slice.injEq, true_and] at h'
    obtain ⟨rfl, rfl⟩ := h'
    have hc : ∀ j v, (rkc l[k])[j]? = some v → w.cell? ⟨q, k * 3 + j, none⟩ = some v := fun j v hj => by
      have hj3 : j < 3 := (List.getElem?_eq_some_iff.1 hj).1
      rw [h.cellAt _ (by omega)]
      exact rkL_at l k j v hkl hj
    have ha : (⟨q, 0, none⟩ : Addr).add (k * 3) = ⟨q, k * 3, none⟩ := by rw [Addr.add_lit, Nat.zero_add]
    refine ⟨_, rfl, (h.lt q rfl).2, ?_, ?_, ?_⟩
    · rw [ha]; exact hc 0 _ rfl
    · rw [ha]; exact hc 1 _ rfl
    · rw [ha]; exact hc 2 _ rfl
/-- Two changed for one another. -/
theorem swap_perm (M : List Rk) (k : Nat) (h0 : 0 < M.length) (hk : k < M.length) : List.Perm M ((M.set 0 M[k]).set k M[0]) := by
  cases M with
  | nil => simp at h0
  | cons a T =>
    cases k with
    | zero => exact List.Perm.refl _
    | succ j =>
      have hj : j < T.length := by simpa using hk
      show List.Perm (a :: T) (T[j] :: T.set j a)
      have e1 : T = T.take j ++ T[j] :: T.drop (j + 1) := by rw [List.getElem_cons_drop, List.take_append_drop]
      have e2 : T.set j a = T.take j ++ a :: T.drop (j + 1) := List.set_eq_take_append_cons_drop.trans (if_pos hj)
      rw [e2]
      conv => lhs; rw [e1]
      refine (List.Perm.cons a List.perm_middle).trans ?_
      refine (List.Perm.swap _ _ _).trans ?_
      exact List.Perm.cons _ List.perm_middle.symm
theorem add_one3 (a : Addr) (k : Nat) : a.add (k + 1) = ⟨(a.add k).block, (a.add k).off + 1, none⟩ := by
  unfold Addr.add
  rw [if_neg (by omega)]
  split
  · rename_i h; subst h; rfl
  · rfl
theorem row_none (w : World) : (w.alloc (.cells #[] 36)).ownsRow w.heap.size 36 3 (.slice (some ⟨w.heap.size, 0, none⟩) 0 0) 0 [] :=
  ⟨by simp, .inr ⟨w.heap.size, 0, #[], rfl, Nat.le_refl _, heap_alloc_new w _, Nat.le_refl _, by simp [maxLen], by simp, by simp⟩⟩
theorem rkL_reads {w : World} {a : Addr} {l : List Rk} (h : RdK w (some a) l) : ∀ j u, (rkL l)[j]? = some u → w.cell? (a.add j) = some u := fun j u hj => by
  have hjl := (List.getElem?_eq_some_iff.1 hj).1
  rw [rkL_len] at hjl
  obtain ⟨t, ht⟩ : ∃ t, t = j / 3 := ⟨_, rfl⟩
  obtain ⟨s, hs⟩ : ∃ s, s = j % 3 := ⟨_, rfl⟩
  have hjt : j = t * 3 + s := by omega
  have hk : t < l.length := by omega
  have hs3 : s < 3 := by omega
  clear ht hs hjl
  subst hjt
  obtain ⟨b, hb, _, h0, h1, h2⟩ := h t l[t] (List.getElem?_eq_getElem hk)
  cases hb
  have hc : (rkc l[t])[s]? = some u := by
    have h5 := rkL_at l t s ((rkc l[t])[s]'(by show s < 3; exact hs3)) hk (List.getElem?_eq_getElem _)
    rw [h5] at hj
    rw [← hj, List.getElem?_eq_getElem]
  rcases (show s = 0 ∨ s = 1 ∨ s = 2 by omega) with e | e | e
  · subst e; cases hc; exact h0
  · subst e; cases hc
    rw [add_one3]
    exact h1
  · subst e; cases hc
    rw [show t * 3 + 2 = t * 3 + 1 + 1 by omega, add_one3, add_one3]
    exact h2
theorem own_any (ao : Option Addr) (ac : Nat) (l : List Rk) (w : World) (ha : RdK w ao l) (hcap : ao = none → ac = 0) (hl : l.length ≤ 100000) :
    Calls Try.prog 11 #[.slice ao l.length ac] w fun e w' => ∃ g cap, e = .returned (.slice (some ⟨g, 0, none⟩) l.length cap) ∧ w'.ownsRow w.heap.size 36 3 (.slice (some ⟨g, 0, none⟩) l.length cap) l.length (rkL l) ∧ Below w.heap.size w w' := by
  obtain ⟨i0, hi, hz0, hz1, hz2⟩ := info_parts Try.info36
  have o0 := row_none w
  have hb0 := (Below.refl w.heap.size w).alloc (Nat.le_refl _) (.cells #[] 36)
  have HB0 := hid hb0
  have HE0 := hid (ha.below hb0)
  cases ao with
  | none =>
    have hn : l = [] := by
      cases l with
      | nil => rfl
      | cons y ys => obtain ⟨a', h', _⟩ := ha 0 y rfl; cases h'
    subst hn
    have hc := hcap rfl
    subst hc
    clear ha hcap hb0 HE0
    go_enter Try.func11, Try.ntmps11
    go_wp2_with (at_builtin; refine wpList_append_own_none rfl _ _ 25 rfl w.heap.size 36 i0 3 Try.underlying25 hi (.slice (some ⟨w.heap.size, 0, none⟩) 0 0) 0 [] rfl o0 rfl ?_)
    go_ret
    exact ⟨_, _, rfl, o0, HB0.out⟩
  | some a =>
    have HRD := hid (rkL_reads HE0.out)
    have hll := rkL_len l
    have HON := hid (rkL_one l)
    obtain ⟨n, hn⟩ : ∃ n, n = l.length := ⟨_, rfl⟩
    rw [← hn] at hl hll ⊢
    clear ha hcap hb0 HE0 hn
    cases Nat.eq_zero_or_pos n with
    | inl h0 =>
      subst h0
      have hnil : rkL l = [] := List.length_eq_zero_iff.1 (by omega)
      have HNL := hid hnil
      rw [hnil] at HRD HON
      clear hnil hll
      go_enter Try.func11, Try.ntmps11
      go_wp2_with (at_builtin; refine wpList_append_fits _ rfl _ _ 25 rfl w.heap.size 36 i0 3 Try.underlying25 hi hz1 w.heap.size 0 0 [] rfl o0 a 0 ac [] rfl rfl HRD.out HON.out (Nat.le_refl _) ?_; intro w1 o1 gr1)
      have HB1 := hid (HB0.out.grown gr1 (by simp) (fun k hk => (o0.lt k hk).1))
      have HO1 := hid o1
      clear o1 gr1
      go_ret
      exact ⟨_, _, rfl, by rw [HNL.out]; exact HO1.out, HB1.out⟩
    | inr hp =>
      go_enter Try.func11, Try.ntmps11
      go_wp2_with (at_builtin; refine wpList_append_lies _ rfl _ _ 25 rfl w.heap.size 36 i0 (.agg #[.int .i32 0, .int .i32 0, .int .i64 0]) 3 16 Try.underlying25 hi hz0 hz1 hz2 rfl (by decide) _ 0 [] rfl o0 a n ac (rkL l) rfl hll HRD.out HON.out hp (by unfold maxLen; omega) (by omega) (by simp) (w.heap.size + 1) (by simp) ?_; intro q cap' w1 o1 gr1 hlie hg1)
      have HB1 := hid (HB0.out.grown gr1 (by simp) (fun k hk => (o0.lt k hk).1))
      rw [Nat.zero_add, List.nil_append] at o1
      have HO1 := hid o1
      clear o1 gr1
      go_ret
      exact ⟨q, cap', by simp, HO1.out, HB1.out⟩

theorem step_store_mid {ops : Array Oper} {o : Oper} {a : Act} {w : World} {K : Act → World → Prop} {Q : Exit → Act → World → Prop} {E : Prop}
    (hg : o.guard = none) (ty : TypeId) (x y : Operand) (ho : o.op = .store ty x y) (b f : Nat) (cells : Array Value) (hx : a.eval x = .pointer (some ⟨b, f, none⟩)) (hy : a.eval y = .agg cells)
    (ht : w.there b f cells.size) (hi : (Try.prog.info? ty).map (·.size) = some cells.size) (h1 : cells.all (·.oneCell') = true) (hK : K (a.put o.dst undef) (w.setCells b f cells.toList)) :
    if Region.wanted o (yielded ops a.tmps) = true then Oper.wp Try.prog o a w K Q else E := by
  rw [if_pos (by simp [Region.wanted, hg])]
  exact wp_store_mid ty x y ho b f cells hx hy ht hi h1 hK
/-- A slice of numbers, nil or not, reads as a list. -/
def RdJ (w : World) (ao : Option Addr) (l : List Int) : Prop := ∀ (k : Nat) (z : Int), l[k]? = some z → ∃ a : Addr, ao = some a ∧ a.block < w.heap.size ∧ w.cell? (a.add k) = some (.int .i64 z)
theorem RdJ.below {w w' : World} {ao : Option Addr} {l : List Int} (h : RdJ w ao l) (hb : Below w.heap.size w w') : RdJ w' ao l := fun k c hk => by
  obtain ⟨a, h1, h2, h3⟩ := h k c hk
  exact ⟨a, h1, Nat.lt_of_lt_of_le h2 hb.size, (hb.cell (p := a.add k) (by rw [add_blk]; exact h2)).trans h3⟩
theorem flt_ne : ∀ (l : List Rk) (D : List Tr) (i : Nat) (c : Int) (k : Nat), flt D i l = some (c, k) → c ≠ 0
  | [], _, _, _, _, h => by cases h
  | g :: l, D, i, c, k, h => by
    unfold flt at h
    split at h
    · split at h
      · cases h; decide
      · exact flt_ne l _ _ c k h
    · cases h; decide
theorem bo_ne {l : List Rk} {r c : Int} {k : Nat} (h : bo l r = some (c, k)) : c ≠ 0 := by
  unfold bo at h
  split at h
  · split at h
    · cases h; decide
    · exact flt_ne l _ _ c k h
  · cases h; decide
theorem bo_none {l : List Rk} {r : Int} (h : bo l r = none) : icl r = true ∧ l.length ≤ 4096 ∧ flt [] 0 l = none := by
  unfold bo at h
  split at h
  · rename_i h1
    split at h
    · cases h
    · rename_i h2
      exact ⟨h1, by omega, h⟩
  · cases h
theorem bo_same {l m : List Rk} {r : Int} (h : bo l r = none) (hp : List.Perm l m) : bo m r = none ∧ srt [] m = srt [] l := by
  obtain ⟨h1, h2, h3⟩ := bo_none h
  obtain ⟨h4, h5⟩ := srt_same h3 hp
  refine ⟨?_, h5⟩
  unfold bo
  rw [if_pos h1, if_neg (by rw [← hp.length_eq]; omega), h4]
theorem bo_self {A : List Tr} {r : Int} (hr : icl r = true) (h : Ris 0 A) (hl : A.length ≤ 4096) : bo (A.map rkT) r = none ∧ srt [] (A.map rkT) = A := by
  obtain ⟨h4, h5⟩ := srt_self A h
  refine ⟨?_, h5⟩
  unfold bo
  rw [if_pos hr, if_neg (by rw [List.length_map]; omega), h4]

theorem below_drew (B : Nat) (w : World) : Below B w w.drew := ⟨rfl, rfl, rfl, Nat.le_refl _, fun _ _ => rfl⟩
theorem six_cells (w : World) (g k : Nat) (a b c d e f : Value) : ((((((w.setCell ⟨g, 0, none⟩ a).setCell ⟨g, 1, none⟩ b).setCell ⟨g, 2, none⟩ c).setCell ⟨g, k * 3, none⟩ d).setCell ⟨g, k * 3 + 1, none⟩ e).setCell ⟨g, k * 3 + 2, none⟩ f).drew = ((w.setCells g 0 [a, b, c]).setCells g (k * 3) [d, e, f]).drew := rfl
theorem six_zero (w : World) (g : Nat) (a b c d e f : Value) : ((((((w.setCell ⟨g, 0, none⟩ a).setCell ⟨g, 1, none⟩ b).setCell ⟨g, 2, none⟩ c).setCell ⟨g, 0, none⟩ d).setCell ⟨g, 1, none⟩ e).setCell ⟨g, 2, none⟩ f).drew = ((w.setCells g 0 [a, b, c]).setCells g 0 [d, e, f]).drew := rfl
set_option maxHeartbeats 8000000 in
set_option maxRecDepth 100000 in
theorem order_walk (ao to : Option Addr) (ac tc : Nat) (l : List Rk) (r : Int) (t : List Int) (w : World) (ha : RdK w ao l) (hna : ao = none → ac = 0) (hl0 : l.length ≤ 9223372036854775807) (ht : RdJ w to t) (htl0 : t.length ≤ 9223372036854775807) :
    Calls Try.prog 8 #[.slice ao l.length ac, .int .i64 r, .slice to t.length tc] w fun e w' => e = .returned (.bool true) ∧ Below w.heap.size w w' := by
  have HA := hid ha
  have HTU := hid ht
  obtain ⟨n, hn⟩ : ∃ n, n = l.length := ⟨_, rfl⟩
  obtain ⟨m, hm⟩ : ∃ m, m = t.length := ⟨_, rfl⟩
  rw [← hn, ← hm]
  have HN := hid hn
  have HM := hid hm
  clear ha ht
  by_cases c1 : 300 < n
  · have c1' : (300 : Int) < (n : Int) := by omega
    clear hn hm
    go_enter Try.func8, Try.ntmps8
    go_wp2_with fail
    refine (live_any _).mono ?_
    rintro e w1 ⟨rfl, b1⟩
    have HB1 := hid b1
    clear b1
    go_wp2
    go_ret
    exact ⟨rfl, HB1.out⟩
  by_cases c2 : 300 < m
  · have c1' : ¬ (300 : Int) < (n : Int) := by omega
    have c2' : (300 : Int) < (m : Int) := by omega
    clear hn hm
    go_enter Try.func8, Try.ntmps8
    go_wp2_with fail
    refine (live_any _).mono ?_
    rintro e w1 ⟨rfl, b1⟩
    have HB1 := hid b1
    clear b1
    go_wp2
    go_ret
    exact ⟨rfl, HB1.out⟩
  have c1' : ¬ (300 : Int) < (n : Int) := by omega
  have c2' : ¬ (300 : Int) < (m : Int) := by omega
  have HO := hid (own_any ao ac l w HA.out hna (by omega))
  rw [← hn] at HO
  have hn3 : n ≤ 300 := by omega
  have hm3 : m ≤ 300 := by omega
  clear hn hm
  go_enter Try.func8, Try.ntmps8
  go_wp2_with fail
  refine HO.out.mono ?_
  rintro e w1 ⟨g1, p1, rfl, o1, b1⟩
  have HB1 := hid b1
  have HBU := hid (build_any (some ⟨g1, 0, none⟩) p1 l r w1 (rd_ownL o1) (by have h5 := HN.out; omega))
  rw [← HN.out] at HBU
  clear o1 b1 HO
  go_wp2_with fail
  refine HBU.out.mono ?_
  rintro e w2 ⟨b2, hc⟩
  have HB2 := hid (HB1.out.trans (b2.mono HB1.out.size))
  clear b2 HBU
  rcases hc with ⟨c, k, hc, rfl⟩ | ⟨hbo, T, F, rfl, hTs, hF, hsl, hTb⟩
  · have hc0 : (c == 0) = false := by simpa using bo_ne hc
    have hc1 : ¬ (c = 0) := bo_ne hc
    clear hc
    go_wp2_with (first | (go_at_call 9; refine (num_any _ _).mono ?_; rintro e w9 ⟨rfl, h9⟩; obtain rfl := h9.symm) | fail)
    refine (live_any _).mono ?_
    rintro e w3 ⟨rfl, b3⟩
    have HB3 := hid (HB2.out.trans (b3.mono HB2.out.size))
    clear b3
    go_wp2
    go_ret
    exact ⟨rfl, HB3.out⟩
  have HBO := hid hbo
  have HF := hid hF
  have HTb := hid hTb
  have HO2 := hid (own_any ao ac l w2 (HA.out.below HB2.out) hna (by have h5 := HN.out; omega))
  rw [← HN.out] at HO2
  clear hbo hF hTb hTs
  go_wp2_with (first | (go_at_call 9; refine (num_any _ _).mono ?_; rintro e w9 ⟨rfl, h9⟩; obtain rfl := h9.symm) | fail)
  refine HO2.out.mono ?_
  rintro e w3 ⟨g3, p3, rfl, o3, b3⟩
  obtain ⟨B3, hB3⟩ : ∃ B3, B3 = w2.heap.size := ⟨_, rfl⟩
  rw [← hB3] at o3 b3
  have HBE3 := hid hB3
  have HO3 := hid o3
  have HB3 := hid b3
  clear o3 b3 HO2 hB3
  go_wp2
  have HP0 := hid (List.Perm.refl l)
  have HNL := hid (show l.length = n from HN.out.symm)
  go_loopw [11] (fun x wr => ∃ (i : Nat) (M : List Rk), x = .int .i64 (i : Int) ∧ i ≤ m ∧ Hid (M.length = n) ∧ Hid (List.Perm l M) ∧ Hid (wr.ownsRow B3 36 3 (.slice (some ⟨g3, 0, none⟩) n p3) n (rkL M)) ∧ Hid (Below B3 w2 wr)) (fun x _ => m - (intOf x).toNat)
  case atStart => exact ⟨0, l, rfl, by omega, HNL, HP0, HO3, HB3⟩
  case round =>
    obtain ⟨i, M, rfl, hi, HML, HPM, HOM, HBM⟩ := hrel
    by_cases hgo : i < m ∧ 0 < n
    · obtain ⟨him, hn0⟩ := hgo
      have hw2 := HB2.out.size
      have HBW := hid (show Below w.heap.size w wr from HB2.out.trans (HBM.out.mono (by have h5 := HBE3.out; omega)))
      have hit : i < t.length := by have h5 := HM.out; omega
      obtain ⟨a, rfl, _, at0⟩ := (HTU.out.below HBW.out) i t[i] (List.getElem?_eq_getElem hit)
      obtain ⟨z, hz⟩ : ∃ z, z = t[i] := ⟨_, rfl⟩
      rw [← hz] at at0
      obtain ⟨y, hy⟩ : ∃ y, y = z.tmod (n : Int) := ⟨_, rfl⟩
      have hy1 : y < (n : Int) := by rw [hy]; exact Int.tmod_lt_of_pos z (by omega)
      have hy2 : -(n : Int) < y := by rw [hy]; exact Int.lt_tmod_of_pos z (by omega)
      obtain ⟨s, hs⟩ : ∃ s : Nat, (s : Int) = y + (n : Int) := ⟨(y + n).toNat, by omega⟩
      obtain ⟨k, hk⟩ : ∃ k, k = s % n := ⟨_, rfl⟩
      have hkn : k < n := by rw [hk]; exact Nat.mod_lt _ hn0
      have e1 : z.tmod (n : Int) = y := hy.symm
      have e2 : IntKind.i64.wrap y = y := by rw [IntKind.wrap_i64]; omega
      have e3 : y + (n : Int) = (s : Int) := hs.symm
      have e4 : IntKind.i64.wrap (s : Int) = (s : Int) := by rw [IntKind.wrap_i64]; omega
      have e5 : (s : Int).tmod (n : Int) = (k : Int) := by rw [Int.tmod_eq_emod_of_nonneg (by omega), hk]; omega
      have e6 : IntKind.i64.wrap (k : Int) = (k : Int) := by rw [IntKind.wrap_i64]; omega
      have nz : ¬ ((n : Int) = 0) := by omega
      have nz2 : ((n : Int) == 0) = false := by simp; omega
      have i3 : (i : Int) < (m : Int) := by omega
      have i0 : (0 : Int) ≤ (i : Int) := by omega
      have n0 : (0 : Int) < (n : Int) := by omega
      have k3 : (k : Int) < (n : Int) := by omega
      have k0 : (0 : Int) ≤ (k : Int) := by omega
      have hML := HML.out
      have hkM : k < M.length := by omega
      have h0M : 0 < M.length := by omega
      have HSW := hid (HPM.out.trans (swap_perm M k h0M hkM))
      have ck : ∀ c v, (rkc M[k])[c]? = some v → wr.cell? ⟨g3, k * 3 + c, none⟩ = some v := fun c v hv => by
        have h3 : c < 3 := (List.getElem?_eq_some_iff.1 hv).1
        rw [HOM.out.cellAt _ (by omega)]
        exact rkL_at M k c v hkM hv
      have c0 : ∀ c v, (rkc M[0])[c]? = some v → wr.cell? ⟨g3, c, none⟩ = some v := fun c v hv => by
        have h3 : c < 3 := (List.getElem?_eq_some_iff.1 hv).1
        rw [HOM.out.cellAt _ (by omega)]
        have h5 := rkL_at M 0 c v h0M hv
        rw [Nat.zero_mul, Nat.zero_add] at h5
        exact h5
      have x0 : wr.cell? ⟨g3, k * 3, none⟩ = some (.int .i32 M[k].1) := ck 0 _ rfl
      have x1 : wr.cell? ⟨g3, k * 3 + 1, none⟩ = some (.int .i32 M[k].2.1) := ck 1 _ rfl
      have x2 : wr.cell? ⟨g3, k * 3 + 2, none⟩ = some (.int .i64 M[k].2.2) := ck 2 _ rfl
      have y0 : wr.cell? ⟨g3, 0, none⟩ = some (.int .i32 M[0].1) := c0 0 _ rfl
      have y1 : wr.cell? ⟨g3, 1, none⟩ = some (.int .i32 M[0].2.1) := c0 1 _ rfl
      have y2 : wr.cell? ⟨g3, 2, none⟩ = some (.int .i64 M[0].2.2) := c0 2 _ rfl
      obtain ⟨o4, b4⟩ := own_sets (rkc M[k]) (0 * 3) (rkL M) wr HOM.out
      rw [rkL_set M 0 M[k] h0M] at o4
      obtain ⟨o5, b5⟩ := own_sets (rkc M[0]) (k * 3) _ _ o4
      rw [rkL_set (M.set 0 M[k]) k M[0] (by rw [List.length_set]; exact hkM)] at o5
      rw [Nat.zero_mul] at o4 b4 o5 b5
      have HO5 := hid o5.drew
      have HB5 := hid ((HBM.out.trans (b4.trans b5)).trans (below_drew B3 _))
      have HML5 := hid (show ((M.set 0 M[k]).set k M[0]).length = n by rw [List.length_set, List.length_set]; exact hML)
      have fz : ∀ c, wr.frozen? ⟨g3, c, none⟩ = false := fun c => HOM.out.frozenAt c
      have mixed : Try.prog.follows .mixedOrders = true := by kernel_rfl
      rcases Nat.eq_zero_or_pos k with hk0 | hk0
      · subst hk0
        obtain ⟨m0, hm0⟩ : ∃ m0, m0 = M[0] := ⟨_, rfl⟩
        rw [← hm0] at y0 y1 y2 HO5 HB5 HML5 HSW
        obtain ⟨z1, z2, zc⟩ := m0
        rw [Nat.zero_mul] at HO5 HB5
        dsimp only at y0 y1 y2
        have u0 := fz 0
        have u1 := fz 1
        have u2 := fz 2
        have e5' : (s : Int).tmod (n : Int) = 0 := by simpa using e5
        have HO6' := hid (show Hid ((((wr.setCells g3 0 [.int .i32 z1, .int .i32 z2, .int .i64 zc]).setCells g3 0 [.int .i32 z1, .int .i32 z2, .int .i64 zc]).drew).ownsRow B3 36 3 (.slice (some ⟨g3, 0, none⟩) n p3) n _) from HO5)
        have HB6' := hid (show Hid (Below B3 w2 (((wr.setCells g3 0 [.int .i32 z1, .int .i32 z2, .int .i64 zc]).setCells g3 0 [.int .i32 z1, .int .i32 z2, .int .i64 zc]).drew)) from HB5)
        obtain ⟨WX, hWX⟩ : ∃ WX, WX = ((wr.setCells g3 0 [.int .i32 z1, .int .i32 z2, .int .i64 zc]).setCells g3 0 [.int .i32 z1, .int .i32 z2, .int .i64 zc]).drew := ⟨_, rfl⟩
        rw [← hWX] at HO6' HB6'
        have HO6 := HO6'.out
        have HB6 := HB6'.out
        have HWX := hid hWX
        clear hWX HO5 HB5 HO6' HB6'
        clear ck c0 o4 o5 b4 b5 hm0 hy hz hk hs hy1 hy2 hML fz e5 e6 k3 k0 x0 x1 x2
        go_wp2_with fail
        go_region_law_o (fail)
        · rw [six_zero, ← HWX.out]
          go_wp2
          go_roundw
          case rel => exact ⟨i + 1, _, by go_num, by omega, HML5, HSW, HO6, HB6⟩
          case measure => simp [intOf]; omega
        · rw [six_zero, ← HWX.out]
          go_wp2
          go_roundw
          case rel => exact ⟨i + 1, _, by go_num, by omega, HML5, HSW, HO6, HB6⟩
          case measure => simp [intOf]; omega
      · obtain ⟨mk, hmk⟩ : ∃ mk, mk = M[k] := ⟨_, rfl⟩
        obtain ⟨m0, hm0⟩ : ∃ m0, m0 = M[0] := ⟨_, rfl⟩
        rw [← hmk] at x0 x1 x2 HO5 HB5 HML5 HSW
        rw [← hm0] at y0 y1 y2 HO5 HB5 HML5 HSW
        obtain ⟨k1, k2, kc⟩ := mk
        obtain ⟨z1, z2, zc⟩ := m0
        dsimp only at x0 x1 x2 y0 y1 y2
        have q0 : ¬ (k = 0) := by omega
        have q1 : ¬ (k * 3 = 1) := by omega
        have q2 : ¬ (k * 3 = 2) := by omega
        have u0 := fz 0
        have u1 := fz 1
        have u2 := fz 2
        have u3 := fz (k * 3)
        have u4 := fz (k * 3 + 1)
        have u5 := fz (k * 3 + 2)
        have HO6' := hid (show Hid ((((wr.setCells g3 0 [.int .i32 k1, .int .i32 k2, .int .i64 kc]).setCells g3 (k * 3) [.int .i32 z1, .int .i32 z2, .int .i64 zc]).drew).ownsRow B3 36 3 (.slice (some ⟨g3, 0, none⟩) n p3) n _) from HO5)
        have HB6' := hid (show Hid (Below B3 w2 (((wr.setCells g3 0 [.int .i32 k1, .int .i32 k2, .int .i64 kc]).setCells g3 (k * 3) [.int .i32 z1, .int .i32 z2, .int .i64 zc]).drew)) from HB5)
        obtain ⟨WX, hWX⟩ : ∃ WX, WX = ((wr.setCells g3 0 [.int .i32 k1, .int .i32 k2, .int .i64 kc]).setCells g3 (k * 3) [.int .i32 z1, .int .i32 z2, .int .i64 zc]).drew := ⟨_, rfl⟩
        rw [← hWX] at HO6' HB6'
        have HO6 := HO6'.out
        have HB6 := HB6'.out
        have HWX := hid hWX
        clear hWX HO5 HB5 HO6' HB6'
        clear ck c0 o4 o5 b4 b5 hmk hm0 hy hz hk hs hy1 hy2 hML fz
        go_wp2_with fail
        go_region_law_o (fail)
        · rw [six_cells, ← HWX.out]
          go_wp2
          go_roundw
          case rel => exact ⟨i + 1, _, by go_num, by omega, HML5, HSW, HO6, HB6⟩
          case measure => simp [intOf]; omega
        · rw [six_cells, ← HWX.out]
          go_wp2
          go_roundw
          case rel => exact ⟨i + 1, _, by go_num, by omega, HML5, HSW, HO6, HB6⟩
          case measure => simp [intOf]; omega
    · obtain ⟨hb2, hs2⟩ := bo_same HBO.out HPM.out
      obtain ⟨hic, hl4, hfl⟩ := bo_none HBO.out
      have hw2 := HB2.out.size
      have HBW := hid (show Below w.heap.size w wr from HB2.out.trans (HBM.out.mono (by have h5 := HBE3.out; omega)))
      have HT3 := hid (show TbAt w1.heap.size T F r.toNat wr from HTb.out.below (by have h5 := HBE3.out; rw [← h5]; exact HBM.out))
      have HBU2 := hid (build_any (some ⟨g3, 0, none⟩) p3 M r wr (rd_ownL HOM.out) (by have h5 := HML.out; omega))
      rw [HML.out] at HBU2
      have HB2N := hid hb2
      have HS2 := hid hs2
      have HRS := hid (srt_ris l [] 0 trivial hfl)
      have HAL := hid (show (srt [] l).length ≤ 300 by
        have h5 := (srt_perm l []).length_eq
        rw [List.nil_append, List.length_map] at h5
        have h6 := HN.out
        omega)
      obtain ⟨r0, hr0⟩ : ∃ r0 : Nat, r = (r0 : Int) := ⟨r.toNat, by unfold icl at hic; have := of_decide_eq_true hic; omega⟩
      subst hr0
      have hr1 : r0 < 256 := by unfold icl at hic; have := of_decide_eq_true hic; omega
      have hrt : ((r0 : Int)).toNat = r0 := by omega
      rw [hrt] at HT3
      have HF2 := hid HF.out
      rw [hrt] at HF2
      have HIC := hid hic
      have HC8 := hid (show ∀ c ∈ F.flatten, c < 256 by rw [HF2.out]; exact clA_256 r0 _ hr1 HRS.out)
      have HCL := hid (show F.flatten.length = 1114112 by rw [HF2.out]; exact clA_len r0 _ HRS.out)
      clear hb2 hs2 hic hl4 hfl
      have hexit : ¬ i < m ∨ (i < m ∧ n = 0) := by omega
      rcases hexit with hx | ⟨hx, hx0⟩
      · have i3 : ¬ (i : Int) < (m : Int) := by omega
        clear hgo hx
        go_wp2_with fail
        refine HBU2.out.mono ?_
        rintro e w5 ⟨b5, hc⟩
        rw [HB2N.out, HS2.out] at hc
        rcases hc with ⟨c, k, hc, _⟩ | ⟨_, T2, F2, rfl, _, hF5, _, hT5⟩
        · cases hc
        rw [hrt] at hF5 hT5
        have hFF : F2 = F := by
          obtain ⟨_, _, _, _, ho5, _⟩ := hT5
          obtain ⟨_, _, _, _, ho, _⟩ := HT3.out
          exact flat_one ho5 ho (hF5.trans HF2.out.symm)
        subst hFF
        have HB5 := hid (HBW.out.trans (b5.mono HBW.out.size))
        have HT5 := hid (HT3.out.below b5)
        have HX5 := hid hT5
        have HRA := hid (ranges_any _ T r0 F2 w5 HT5.out hr1)
        have HRI := hid (rgs_ris r0 F2.flatten HCL.out HC8.out)
        have HRL := hid (show (rgs r0 F2.flatten).length ≤ 4096 by
          have h5 := rgs_len r0 (srt [] l)
          rw [← HF2.out] at h5
          have h6 := HAL.out
          omega)
        have HBK := hid (clA_rgs r0 F2.flatten HCL.out HC8.out)
        clear b5 hF5 hT5 HBU2
        go_wp2_with fail
        refine HRA.out.mono ?_
        rintro e w6 ⟨v6, rfl, o6, b6⟩
        obtain ⟨yo, yc, rfl⟩ := own_form o6
        have HB6 := hid (HB5.out.trans (b6.mono HB5.out.size))
        have HT6 := hid (HT5.out.below b6)
        have HX6 := hid (HX5.out.below b6)
        have HRE := hid (rest_any _ T r0 F2 w6 HT6.out hr1)
        have HBU3 := hid (build_any yo yc ((rgs r0 F2.flatten).map rkT) (r0 : Int) w6 (rd_own o6) (by rw [List.length_map]; have h5 := HRL.out; omega))
        rw [List.length_map] at HBU3
        obtain ⟨rl, hrl⟩ : ∃ rl, rl = (rgs r0 F2.flatten).length := ⟨_, rfl⟩
        rw [← hrl] at HBU3 ⊢
        obtain ⟨hb3, hs3⟩ := bo_self (A := rgs r0 F2.flatten) (r := (r0 : Int)) HIC.out HRI.out HRL.out
        have HB3N := hid hb3
        have HS3 := hid hs3
        clear o6 b6 HRA hrl hb3 hs3
        go_wp2_with (first | (go_at_call 33; refine HRE.out.mono ?_; rintro e w9 ⟨rfl, h9⟩; obtain rfl := h9.symm) | fail)
        refine HBU3.out.mono ?_
        rintro e w7 ⟨b7, hc⟩
        rw [HB3N.out, HS3.out] at hc
        rcases hc with ⟨c, k, hc, _⟩ | ⟨_, T3, F3, rfl, _, hF7, _, hT7⟩
        · cases hc
        rw [hrt] at hF7 hT7
        have hFF3 : F3 = F2 := by
          obtain ⟨_, _, _, _, ho7, _⟩ := hT7
          obtain ⟨_, _, _, _, ho, _⟩ := HT6.out
          exact flat_one ho7 ho (hF7.trans HBK.out)
        subst hFF3
        have HB7 := hid (HB6.out.trans (b7.mono HB6.out.size))
        have HT7 := hid (HT6.out.below b7)
        have HX7 := hid (HX6.out.below b7)
        have HY7 := hid hT7
        have HCZ := hid (cb_zero F3.flatten)
        clear b7 hF7 hT7 HBU3 HRE
        go_wp2
        go_loopw [20, 19] (fun x y wz => ∃ c : Nat, x = .int .i64 (c : Int) ∧ y = .int .i64 ((cb c F3.flatten : Nat) : Int) ∧ c ≤ 256 ∧ Hid (Below w7.heap.size w7 wz)) (fun x _ _ => 256 - (intOf x).toNat)
        case atStart => exact ⟨0, rfl, by rw [HCZ.out]; rfl, by omega, Below.refl _ _⟩
        case round =>
          obtain ⟨c, rfl, rfl, hc, HBC⟩ := hrel
          by_cases hcl : c < 256
          · have c3 : (c : Int) ≤ 255 := by omega
            have HCN := hid (count_any _ T r0 F3 (c : Int) wr (HT7.out.below HBC.out))
            have HNX := hid (cb_next c F3.flatten)
            have HLE := hid (show cb (c + 1) F3.flatten ≤ 1114112 by rw [← HCL.out]; exact List.countP_le_length)
            obtain ⟨s1, hs1⟩ : ∃ s1, s1 = cb c F3.flatten := ⟨_, rfl⟩
            obtain ⟨s2, hs2⟩ : ∃ s2, s2 = cz (c : Int) F3.flatten := ⟨_, rfl⟩
            rw [← hs1, ← hs2] at HNX
            rw [← hs2] at HCN
            rw [← hs1]
            have hsum : s1 + s2 ≤ 1114112 := by rw [← HNX.out]; exact HLE.out
            have es : IntKind.i64.wrap ((s1 : Int) + (s2 : Int)) = (s1 : Int) + (s2 : Int) := by rw [IntKind.wrap_i64]; omega
            have HSS := hid (show ((cb (c + 1) F3.flatten : Nat) : Int) = (s1 : Int) + (s2 : Int) by rw [HNX.out]; omega)
            clear hs1 hs2
            go_wp2_with fail
            refine HCN.out.mono ?_
            rintro e w8 ⟨rfl, b8⟩
            have HB8 := hid (HBC.out.trans (b8.mono HBC.out.size))
            clear b8 HCN
            go_wp2
            go_roundw
            case rel => exact ⟨c + 1, by go_num, by rw [HSS.out], by omega, HB8⟩
            case measure => simp [intOf]; omega
          · have c3 : ¬ (c : Int) ≤ 255 := by omega
            have hce : c = 256 := by omega
            have HCA := hid (show cb c F3.flatten = 1114112 by rw [hce, cb_all _ HC8.out]; exact HCL.out)
            rw [HCA.out]
            have HTz := hid (HT7.out.below HBC.out)
            have HXz := hid (HX7.out.below HBC.out)
            have HYz := hid (HY7.out.below HBC.out)
            have HBz := hid (HB7.out.trans (HBC.out.mono HB7.out.size))
            have HE1 := hid (equal_any _ _ T T2 r0 r0 F3 F3 wr HTz.out HXz.out)
            rw [decide_eq_true (show r0 = r0 ∧ F3 = F3 from ⟨rfl, rfl⟩)] at HE1
            clear hce
            go_wp2_with (first | (go_at_call 9; refine (num_any _ _).mono ?_; rintro e w9 ⟨rfl, h9⟩; obtain rfl := h9.symm) | fail)
            refine HE1.out.mono ?_
            rintro e wa ⟨rfl, ba⟩
            have HTa := hid (HTz.out.below ba)
            have HYa := hid (HYz.out.below ba)
            have HBa := hid (HBz.out.trans (ba.mono HBz.out.size))
            have HE2 := hid (equal_any _ _ T T3 r0 r0 F3 F3 wa HTa.out HYa.out)
            rw [decide_eq_true (show r0 = r0 ∧ F3 = F3 from ⟨rfl, rfl⟩)] at HE2
            clear ba HE1
            go_wp2_with fail
            refine HE2.out.mono ?_
            rintro e wb ⟨rfl, bb⟩
            have HBb := hid (HBa.out.trans (bb.mono HBa.out.size))
            clear bb HE2
            go_wp2_with fail
            refine (live_any _).mono ?_
            rintro e wc ⟨rfl, bc⟩
            have HBc := hid (HBb.out.trans (bc.mono HBb.out.size))
            clear bc
            go_wp2
            go_ret
            exact ⟨rfl, HBc.out⟩
      · have i3 : (i : Int) < (m : Int) := by omega
        have n0 : ¬ (0 : Int) < (n : Int) := by omega
        have HX0 := hid hx0
        clear hgo hx0
        go_wp2_with fail
        refine HBU2.out.mono ?_
        rintro e w5 ⟨b5, hc⟩
        rw [HB2N.out, HS2.out] at hc
        rcases hc with ⟨c, k, hc, _⟩ | ⟨_, T2, F2, rfl, _, hF5, _, hT5⟩
        · cases hc
        rw [hrt] at hF5 hT5
        have hFF : F2 = F := by
          obtain ⟨_, _, _, _, ho5, _⟩ := hT5
          obtain ⟨_, _, _, _, ho, _⟩ := HT3.out
          exact flat_one ho5 ho (hF5.trans HF2.out.symm)
        subst hFF
        have HB5 := hid (HBW.out.trans (b5.mono HBW.out.size))
        have HT5 := hid (HT3.out.below b5)
        have HX5 := hid hT5
        have HRA := hid (ranges_any _ T r0 F2 w5 HT5.out hr1)
        have HRI := hid (rgs_ris r0 F2.flatten HCL.out HC8.out)
        have HRL := hid (show (rgs r0 F2.flatten).length ≤ 4096 by
          have h5 := rgs_len r0 (srt [] l)
          rw [← HF2.out] at h5
          have h6 := HAL.out
          omega)
        have HBK := hid (clA_rgs r0 F2.flatten HCL.out HC8.out)
        clear b5 hF5 hT5 HBU2
        go_wp2_with fail
        refine HRA.out.mono ?_
        rintro e w6 ⟨v6, rfl, o6, b6⟩
        obtain ⟨yo, yc, rfl⟩ := own_form o6
        have HB6 := hid (HB5.out.trans (b6.mono HB5.out.size))
        have HT6 := hid (HT5.out.below b6)
        have HX6 := hid (HX5.out.below b6)
        have HRE := hid (rest_any _ T r0 F2 w6 HT6.out hr1)
        have HBU3 := hid (build_any yo yc ((rgs r0 F2.flatten).map rkT) (r0 : Int) w6 (rd_own o6) (by rw [List.length_map]; have h5 := HRL.out; omega))
        rw [List.length_map] at HBU3
        obtain ⟨rl, hrl⟩ : ∃ rl, rl = (rgs r0 F2.flatten).length := ⟨_, rfl⟩
        rw [← hrl] at HBU3 ⊢
        obtain ⟨hb3, hs3⟩ := bo_self (A := rgs r0 F2.flatten) (r := (r0 : Int)) HIC.out HRI.out HRL.out
        have HB3N := hid hb3
        have HS3 := hid hs3
        clear o6 b6 HRA hrl hb3 hs3
        go_wp2_with (first | (go_at_call 33; refine HRE.out.mono ?_; rintro e w9 ⟨rfl, h9⟩; obtain rfl := h9.symm) | fail)
        refine HBU3.out.mono ?_
        rintro e w7 ⟨b7, hc⟩
        rw [HB3N.out, HS3.out] at hc
        rcases hc with ⟨c, k, hc, _⟩ | ⟨_, T3, F3, rfl, _, hF7, _, hT7⟩
        · cases hc
        rw [hrt] at hF7 hT7
        have hFF3 : F3 = F2 := by
          obtain ⟨_, _, _, _, ho7, _⟩ := hT7
          obtain ⟨_, _, _, _, ho, _⟩ := HT6.out
          exact flat_one ho7 ho (hF7.trans HBK.out)
        subst hFF3
        have HB7 := hid (HB6.out.trans (b7.mono HB6.out.size))
        have HT7 := hid (HT6.out.below b7)
        have HX7 := hid (HX6.out.below b7)
        have HY7 := hid hT7
        have HCZ := hid (cb_zero F3.flatten)
        clear b7 hF7 hT7 HBU3 HRE
        go_wp2
        go_loopw [20, 19] (fun x y wz => ∃ c : Nat, x = .int .i64 (c : Int) ∧ y = .int .i64 ((cb c F3.flatten : Nat) : Int) ∧ c ≤ 256 ∧ Hid (Below w7.heap.size w7 wz)) (fun x _ _ => 256 - (intOf x).toNat)
        case atStart => exact ⟨0, rfl, by rw [HCZ.out]; rfl, by omega, Below.refl _ _⟩
        case round =>
          obtain ⟨c, rfl, rfl, hc, HBC⟩ := hrel
          by_cases hcl : c < 256
          · have c3 : (c : Int) ≤ 255 := by omega
            have HCN := hid (count_any _ T r0 F3 (c : Int) wr (HT7.out.below HBC.out))
            have HNX := hid (cb_next c F3.flatten)
            have HLE := hid (show cb (c + 1) F3.flatten ≤ 1114112 by rw [← HCL.out]; exact List.countP_le_length)
            obtain ⟨s1, hs1⟩ : ∃ s1, s1 = cb c F3.flatten := ⟨_, rfl⟩
            obtain ⟨s2, hs2⟩ : ∃ s2, s2 = cz (c : Int) F3.flatten := ⟨_, rfl⟩
            rw [← hs1, ← hs2] at HNX
            rw [← hs2] at HCN
            rw [← hs1]
            have hsum : s1 + s2 ≤ 1114112 := by rw [← HNX.out]; exact HLE.out
            have es : IntKind.i64.wrap ((s1 : Int) + (s2 : Int)) = (s1 : Int) + (s2 : Int) := by rw [IntKind.wrap_i64]; omega
            have HSS := hid (show ((cb (c + 1) F3.flatten : Nat) : Int) = (s1 : Int) + (s2 : Int) by rw [HNX.out]; omega)
            clear hs1 hs2
            go_wp2_with fail
            refine HCN.out.mono ?_
            rintro e w8 ⟨rfl, b8⟩
            have HB8 := hid (HBC.out.trans (b8.mono HBC.out.size))
            clear b8 HCN
            go_wp2
            go_roundw
            case rel => exact ⟨c + 1, by go_num, by rw [HSS.out], by omega, HB8⟩
            case measure => simp [intOf]; omega
          · have c3 : ¬ (c : Int) ≤ 255 := by omega
            have hce : c = 256 := by omega
            have HCA := hid (show cb c F3.flatten = 1114112 by rw [hce, cb_all _ HC8.out]; exact HCL.out)
            rw [HCA.out]
            have HTz := hid (HT7.out.below HBC.out)
            have HXz := hid (HX7.out.below HBC.out)
            have HYz := hid (HY7.out.below HBC.out)
            have HBz := hid (HB7.out.trans (HBC.out.mono HB7.out.size))
            have HE1 := hid (equal_any _ _ T T2 r0 r0 F3 F3 wr HTz.out HXz.out)
            rw [decide_eq_true (show r0 = r0 ∧ F3 = F3 from ⟨rfl, rfl⟩)] at HE1
            clear hce
            go_wp2_with (first | (go_at_call 9; refine (num_any _ _).mono ?_; rintro e w9 ⟨rfl, h9⟩; obtain rfl := h9.symm) | fail)
            refine HE1.out.mono ?_
            rintro e wa ⟨rfl, ba⟩
            have HTa := hid (HTz.out.below ba)
            have HYa := hid (HYz.out.below ba)
            have HBa := hid (HBz.out.trans (ba.mono HBz.out.size))
            have HE2 := hid (equal_any _ _ T T3 r0 r0 F3 F3 wa HTa.out HYa.out)
            rw [decide_eq_true (show r0 = r0 ∧ F3 = F3 from ⟨rfl, rfl⟩)] at HE2
            clear ba HE1
            go_wp2_with fail
            refine HE2.out.mono ?_
            rintro e wb ⟨rfl, bb⟩
            have HBb := hid (HBa.out.trans (bb.mono HBa.out.size))
            clear bb HE2
            go_wp2_with fail
            refine (live_any _).mono ?_
            rintro e wc ⟨rfl, bc⟩
            have HBc := hid (HBb.out.trans (bc.mono HBb.out.size))
            clear bc
            go_wp2
            go_ret
            exact ⟨rfl, HBc.out⟩
end Go.Proofs.Ytljlhlcoaajggaa
/- The contract of asks (the statements' own): a table that tells what the document's does is found so. -/
namespace Go.Proofs.Ytljlhlcoaajggaa
open Go.RowKit

/-- Runes as they can be read. -/
def RdZ (w : World) (ao : Option Addr) (l : List Int) : Prop := ∀ (k : Nat) (z : Int), l[k]? = some z → ∃ a : Addr, ao = some a ∧ a.block < w.heap.size ∧ w.cell? (a.add k) = some (.int .i32 z)
theorem RdZ.below {w w' : World} {ao : Option Addr} {l : List Int} (h : RdZ w ao l) (hb : Below w.heap.size w w') : RdZ w' ao l := fun k c hk => by
  obtain ⟨a, h1, h2, h3⟩ := h k c hk
  exact ⟨a, h1, Nat.lt_of_lt_of_le h2 hb.size, (hb.cell (p := a.add k) (by rw [add_blk]; exact h2)).trans h3⟩
theorem RdZ.nil (w : World) (ao : Option Addr) : RdZ w ao [] := fun k z h => by simp at h
theorem TbAt.heap {B T r : Nat} {F : List (List Nat)} {w w' : World} (h : TbAt B T F r w) (e : w'.heap = w.heap) : TbAt B T F r w' := by
  obtain ⟨g, cap, hT, hr, ho, h8, hF⟩ := h
  refine ⟨g, cap, by rw [e]; exact hT, ⟨hr.1, ?_⟩, ho, h8, hF⟩
  rw [e]; exact hr.2
theorem RtAt.heap {B P r : Nat} {L : List Tr} {w w' : World} (h : RtAt B P L r w) (e : w'.heap = w.heap) : RtAt B P L r w' := by
  obtain ⟨v, h1, h2⟩ := h
  exact ⟨v, by rw [e]; exact h1, h2.1, by rw [e]; exact h2.2⟩
/-- A range of rising ranges has its class at both its ends. -/
theorem gtR_mem (r : Nat) : ∀ (A : List Tr) (b : Nat), Ris b A → ∀ g ∈ A, gtR r (g.1 : Int) A = g.2.2 ∧ gtR r (g.2.1 : Int) A = g.2.2
  | [], _, _, g, h => by cases h
  | x :: A, b, hR, g, h => by
    obtain ⟨h1, h2, h3, h4, h5⟩ := hR
    have e : ∀ z : Int, gtR r z (x :: A) = if ((x.1 : Int) ≤ z ∧ z ≤ (x.2.1 : Int)) then x.2.2 else gtR r z A := fun z => rfl
    rcases List.mem_cons.1 h with rfl | h
    · rw [e, e, if_pos (by omega), if_pos (by omega)]; exact ⟨rfl, rfl⟩
    · have ih := gtR_mem r A (x.2.1 + 1) h5 g h
      obtain ⟨k1, k2, k3, k4⟩ := ris_mem h5 g h
      rw [e, e, if_neg (by omega), if_neg (by omega)]; exact ih

set_option maxHeartbeats 6000000 in
set_option maxRecDepth 100000 in
theorem asks_any (B T r B' P : Nat) (F : List (List Nat)) (L : List Tr) (ro : Option Addr) (rc : Nat) (zs : List Int) (l : List UInt8) (w : World) (h : TbAt B T F r w) (hF : F.flatten = clA r L) (hr : r < 256) (hR : Ris 0 L) (hN : rgs r (clA r L) = L) (hP : RtAt B' P L r w) (hz : RdZ w ro zs) (hzl : zs.length ≤ 1000000000) (hl : l.length ≤ 1000000000) :
    Calls Try.prog 19 #[.pointer (some ⟨T, 0, none⟩), .pointer (some ⟨P, 0, none⟩), .slice ro zs.length rc, .string ⟨l.toArray⟩] w fun e w' => e = .returned (.bool true) ∧ Below w.heap.size w w' := by
  obtain ⟨N, hNE⟩ : ∃ N, N = w.heap.size := ⟨_, rfl⟩
  have hlen := ris_len L 0 (by omega) hR
  have HTB := hid (show ∀ W, Below N w W → TbAt B T F r W from fun W hW => h.below (by rw [← hNE]; exact hW))
  have HPB := hid (show ∀ W, Below N w W → RtAt B' P L r W from fun W hW => hP.below (by rw [← hNE]; exact hW))
  have HZB := hid (show ∀ W, Below N w W → RdZ W ro zs from fun W hW => hz.below (by rw [← hNE]; exact hW))
  obtain ⟨gz, hgz⟩ : ∃ gz : Int → Int, gz = fun z => ((gtR r z L : Nat) : Int) := ⟨_, rfl⟩
  have HG := hid (show ∀ (z : Int) (V W : World), Below N w V → W.heap = V.heap → Calls Try.prog 34 #[.pointer (some ⟨T, 0, none⟩), .int .i32 z] W fun e w' => e = .returned (.int .i64 (gz z)) ∧ ∃ n, w' = W.drewN n from fun z V W hV hW => by
    rw [hgz]; exact getZ B T r F L z W ((HTB.out V hV).heap hW) hF hr hR)
  have HH := hid (show ∀ (z : Int) (V W : World), Below N w V → W.heap = V.heap → Calls Try.prog 45 #[.pointer (some ⟨P, 0, none⟩), .int .i32 z] W fun e w' => e = .returned (.int .i64 (gz z)) ∧ w' = W from fun z V W hV hW => by
    rw [hgz]; exact rget_any B' P L r z W ((HPB.out V hV).heap hW) (by omega))
  have HGM := hid (show ∀ g ∈ L, gz (g.1 : Int) = (g.2.2 : Int) ∧ gz (g.2.1 : Int) = (g.2.2 : Int) from fun g hg => by
    obtain ⟨a, b⟩ := gtR_mem r L 0 hR g hg
    rw [hgz]; dsimp only; rw [a, b]; exact ⟨rfl, rfl⟩)
  have HRN := hid hN
  have HR := hid hR
  have HFL := hid hF
  obtain ⟨n, hn⟩ : ∃ n, n = zs.length := ⟨_, rfl⟩
  have HNZ := hid hn
  rw [← hn] at hzl ⊢
  rw [← hNE]
  have HNE := hid hNE
  have HRG := hid (show ∀ W, Below N w W → Calls Try.prog 32 #[.pointer (some ⟨T, 0, none⟩)] W fun e w' => ∃ vo vc, e = .returned (.slice vo L.length vc) ∧ w'.ownsRow W.heap.size 36 3 (.slice vo L.length vc) L.length (rks L) ∧ Below W.heap.size W w' from fun W hW => by
    refine (ranges_any B T r F W (HTB.out W hW) hr).mono ?_
    rintro e w' ⟨v', rfl, o1, b1⟩
    rw [hF, hN] at o1
    obtain ⟨vo, vc, rfl⟩ := own_form o1
    exact ⟨vo, vc, rfl, o1, b1⟩)
  have HRS := hid (show ∀ W, Below N w W → Calls Try.prog 33 #[.pointer (some ⟨T, 0, none⟩)] W fun e w' => e = .returned (.int .i64 (r : Int)) ∧ w' = W from fun W hW => rest_any B T r F W (HTB.out W hW) hr)
  have HCL := hid (show ∀ W, Below N w W → Calls Try.prog 47 #[.pointer (some ⟨T, 0, none⟩), .string ⟨l.toArray⟩] W fun e w' => ∃ v, e = .returned v ∧ w'.ownsRow W.heap.size 3 1 v (prs l).length (g64 r L (prs l)) ∧ Below W.heap.size W w' from fun W hW => classes_any B T r F L l W (HTB.out W hW) hF hr hR (by omega))
  have HRC := hid (show ∀ W, Below N w W → Calls Try.prog 48 #[.pointer (some ⟨P, 0, none⟩), .string ⟨l.toArray⟩] W fun e w' => ∃ v, e = .returned v ∧ w'.ownsRow W.heap.size 3 1 v (prs l).length (g64 r L (prs l)) ∧ Below W.heap.size W w' from fun W hW => rclasses_any B' P r L l W (HPB.out W hW) (by omega) (by omega))
  have HPL := hid (show ∀ (W1 W2 : World) (u v : Value) (B1 B2 : Nat), W1.ownsRow B1 3 1 u (prs l).length (g64 r L (prs l)) → Below W1.heap.size W1 W2 → W2.ownsRow B2 3 1 v (prs l).length (g64 r L (prs l)) → Calls Try.prog 46 #[u, v] W2 fun e w' => e = .returned (.bool true) ∧ Below W2.heap.size W2 w' from fun W1 W2 u v B1 B2 h1 h2 h3 => by
    have e1 : (prs l).length = ((prs l).map fun x => ((gtR r x.2 L : Nat) : Int)).length := by simp
    have e2 : g64 r L (prs l) = ((prs l).map fun x => ((gtR r x.2 L : Nat) : Int)).map (Value.int .i64) := by simp [g64]
    rw [e1, e2] at h1 h3
    have hpl := prs_len l
    exact places_any u v _ W2 (by simp; omega) ((Reads.of_row h1).below h2) (Reads.of_row h3))
  obtain ⟨ao, ac, d0, d1, hPs, ho⟩ := hP.row
  obtain ⟨nL, hnL⟩ : ∃ nL, nL = L.length := ⟨_, rfl⟩
  rw [← hnL] at d0 hlen HRG
  have HNL := hid hnL
  have HPC := hid (show ∀ W, Below N w W → W.cell? ⟨P, 0, none⟩ = some (.slice ao nL ac) ∧ W.cell? ⟨P, 1, none⟩ = some (.int .i64 (r : Int)) from fun W hW => ⟨(hW.cell (p := ⟨P, 0, none⟩) (by rw [hNE]; exact hPs)).trans d0, (hW.cell (p := ⟨P, 1, none⟩) (by rw [hNE]; exact hPs)).trans d1⟩)
  have HRK := hid (show ∀ W, Below N w W → RdK W ao (L.map rkT) from fun W hW => (rd_own ho).below (by rw [← hNE]; exact hW))
  have hB0 : Below N w w := by rw [hNE]; exact Below.refl _ _
  have HB00 := hid hB0
  clear h hF hR hN hP hz hgz hn hnL d0 d1 hPs ho hB0 hNE
  go_enter Try.func19, Try.ntmps19
  go_wp2
  go_loopw [9] (fun x wr => ∃ (i : Nat), x = .int .i64 (i : Int) ∧ i ≤ n ∧ Hid (Below N w wr)) (fun x _ => n - (intOf x).toNat)
  case atStart => exact ⟨0, rfl, by omega, HB00⟩
  case round =>
    obtain ⟨i, rfl, hi, HB⟩ := hrel
    by_cases hlt : i < n
    · have hiz : i < zs.length := by have h5 := HNZ.out; omega
      obtain ⟨a, rfl, ha, a0⟩ := HZB.out wr HB.out i zs[i] (List.getElem?_eq_getElem hiz)
      obtain ⟨z, hze⟩ : ∃ z, z = zs[i] := ⟨_, rfl⟩
      rw [← hze] at a0
      have i3 : (i : Int) < (n : Int) := by omega
      have i0 : (0 : Int) ≤ (i : Int) := by omega
      have HG1 := hid (fun W (hW : W.heap = wr.heap) => HG.out z wr W HB.out hW)
      have HH1 := hid (fun W (hW : W.heap = wr.heap) => HH.out z wr W HB.out hW)
      clear hze hiz
      go_wp2_with fail
      go_region_held3 (fun w' => w'.cell? (a.add i) = some (.int .i32 z)) (go_keep) (first | (go_at_call 34; refine (HG1.out _ (by rfl)).mono ?_; rintro e w5 ⟨rfl, n5, rfl⟩) | (go_at_call 45; refine (HH1.out _ (by rfl)).mono ?_; rintro e w6 ⟨rfl, hw6⟩; obtain rfl := hw6.symm))
      have HBN := hid (HB.out.trans (below_drewN N wr (1 + n5)))
      go_wp2
      go_roundw
      case rel => exact ⟨i + 1, by go_num, by omega, HBN⟩
      case measure => simp [intOf]; omega
    · have i3 : ¬ (i : Int) < (n : Int) := by omega
      go_wp2
      go_loopw [10] (fun x wr => ∃ (k : Nat), x = .int .i64 (k : Int) ∧ k ≤ nL ∧ Hid (Below N w wr)) (fun x _ => nL - (intOf x).toNat)
      case atStart => exact ⟨0, rfl, by omega, HB⟩
      case round =>
        obtain ⟨k, rfl, hk, HB2⟩ := hrel
        obtain ⟨d0, d1⟩ := HPC.out wr HB2.out
        have hwN : N ≤ wr.heap.size := by have h5 := HNE.out; have h6 := HB2.out.size; omega
        by_cases hlt2 : k < nL
        · have hkL : k < L.length := by have h5 := HNL.out; omega
          obtain ⟨a, rfl, ha, c0, c1, c2⟩ := HRK.out wr HB2.out k (rkT L[k]) (by rw [List.getElem?_map, List.getElem?_eq_getElem hkL]; rfl)
          obtain ⟨g1, g2⟩ := HGM.out L[k] (List.getElem_mem hkL)
          obtain ⟨h1, h2, h3, h4⟩ := ris_mem HR.out L[k] (List.getElem_mem hkL)
          unfold rkT at c0 c1 c2
          obtain ⟨gx, hx⟩ : ∃ gx, L[k] = gx := ⟨_, rfl⟩
          rw [hx] at c0 c1 c2 g1 g2 h1 h2 h3 h4
          obtain ⟨lo, hh, cl⟩ := gx
          dsimp only at c0 c1 c2 g1 g2 h1 h2 h3 h4
          obtain ⟨lm, hlm⟩ : ∃ lm : Int, lm = (lo : Int) - 1 := ⟨_, rfl⟩
          obtain ⟨hp, hhp⟩ : ∃ hp : Int, hp = (hh : Int) + 1 := ⟨_, rfl⟩
          have k1 : IntKind.i32.wrap ((lo : Int) - 1) = lm := by rw [IntKind.wrap_i32]; omega
          have k2 : IntKind.i32.wrap ((hh : Int) + 1) = hp := by rw [IntKind.wrap_i32]; omega
          have t1 : (gz (lo : Int) != (cl : Int)) = false := by rw [g1]; simp
          have t2 : (gz (hh : Int) != (cl : Int)) = false := by rw [g2]; simp
          have i3' : (k : Int) < (nL : Int) := by omega
          have i0' : (0 : Int) ≤ (k : Int) := by omega
          have HBV := hid (HB2.out.alloc hwN (.cells #[.int .i32 (lo : Int), .int .i32 (hh : Int), .int .i64 (cl : Int)] 36))
          have HGX := hid (heap_alloc_new wr (.cells #[.int .i32 (lo : Int), .int .i32 (hh : Int), .int .i64 (cl : Int)] 36))
          have HG2 := hid (fun z W (hW : W.heap = (wr.alloc (.cells #[.int .i32 (lo : Int), .int .i32 (hh : Int), .int .i64 (cl : Int)] 36)).heap) => HG.out z _ W HBV.out hW)
          have HH2 := hid (fun z W (hW : W.heap = (wr.alloc (.cells #[.int .i32 (lo : Int), .int .i32 (hh : Int), .int .i64 (cl : Int)] 36)).heap) => HH.out z _ W HBV.out hW)
          clear hx hkL g1 g2 hlm hhp h1
          go_wp2_with fail
          have HBQ := hid (fun q => HBV.out.trans (below_drewN N (wr.alloc (.cells #[.int .i32 (lo : Int), .int .i32 (hh : Int), .int .i64 (cl : Int)] 36)) q))
          go_region_held3 (fun w' => w'.cell? ⟨wr.heap.size, 0, none⟩ = some (.int .i32 (lo : Int)) ∧ w'.cell? ⟨wr.heap.size, 1, none⟩ = some (.int .i32 (hh : Int)) ∧ w'.cell? ⟨wr.heap.size, 2, none⟩ = some (.int .i64 (cl : Int))) (go_keep) (first | (go_at_call 34; refine (HG2.out _ _ (by rfl)).mono ?_; rintro e w5 ⟨rfl, n5, rfl⟩) | (go_at_call 45; refine (HH2.out _ _ (by rfl)).mono ?_; rintro e w6 ⟨rfl, hw6⟩; obtain rfl := hw6.symm))
          go_wp2
          go_roundw
          case rel => exact ⟨k + 1, by go_num, by omega, HBQ.out _⟩
          case measure => simp [intOf]; omega
        · have i3' : ¬ (k : Int) < (nL : Int) := by omega
          go_wp2_with fail
          refine (HRG.out wr HB2.out).mono ?_
          rintro e w1 ⟨vo, vc, rfl, o1, b1⟩
          obtain ⟨N1, hN1⟩ : ∃ N1, N1 = wr.heap.size := ⟨_, rfl⟩
          rw [← hN1] at o1 b1 hwN
          have HO1 := hid o1
          have HB1 := hid (HB2.out.trans (b1.mono hwN))
          have HRV := hid (show RdK w1 vo (L.map rkT) by have h5 := HNL.out; rw [h5] at o1; exact rd_own o1)
          have hN1s : N1 ≤ w1.heap.size := by have h5 := b1.size; omega
          have HSM := hid (show ∀ W, Below w1.heap.size w1 W → Calls Try.prog 14 #[.slice vo nL vc, .slice ao nL ac] W fun e w' => e = .returned (.bool true) ∧ Below W.heap.size W w' from fun W hW => by
            have h5 := same3_any vo ao vc ac (L.map rkT) (L.map rkT) W (HRV.out.below hW) (HRK.out W (HB1.out.trans (hW.mono (Nat.le_trans hwN hN1s)))) (by have h6 := HNL.out; rw [List.length_map]; omega)
            rw [List.length_map, ← HNL.out] at h5
            refine h5.mono ?_
            rintro e w' ⟨rfl, h6⟩
            exact ⟨by simp, h6⟩)
          have HBD := hid (show Below N w w1.drew from HB1.out.trans ⟨rfl, rfl, rfl, Nat.le_refl _, fun _ _ => rfl⟩)
          have HDD := hid (show Below w1.heap.size w1 w1.drew from ⟨rfl, rfl, rfl, Nat.le_refl _, fun _ _ => rfl⟩)
          have hNw : N ≤ w1.heap.size := Nat.le_trans hwN hN1s
          obtain ⟨e0, e1⟩ := HPC.out w1 HB1.out
          clear o1 b1 hN1 d0 d1
          go_wp2_with fail
          go_region_held3 (fun w' => w'.cell? ⟨P, 0, none⟩ = some (.slice ao nL ac) ∧ w'.cell? ⟨P, 1, none⟩ = some (.int .i64 (r : Int))) (first | exact HSS.out | exact HSC.out | exact HSD.out | exact HSP.out | go_keep) (first | (go_at_call 14; refine (HSM.out _ HDD.out).mono ?_; rintro e wS ⟨rfl, bS⟩; have HBS := hid (HBD.out.trans (bS.mono hNw)); have HDS := hid (HDD.out.trans bS); have HSS := hid (HPC.out wS HBS.out)) | (go_at_call 33; refine (HRS.out _ HBS.out).mono ?_; rintro e w9 ⟨rfl, hw9⟩; obtain rfl := hw9.symm) | (go_at_call 47; refine (HCL.out _ HBS.out).mono ?_; rintro e wC ⟨vC, rfl, oC, bC⟩; have hSs := HDS.out.size; have HBC := hid (HBS.out.trans (bC.mono (by omega))); have HDC := hid (HDS.out.trans (bC.mono hSs)); have HOC := hid oC; have HSC := hid (HPC.out wC HBC.out)) | (go_at_call 48; refine (HRC.out _ HBC.out).mono ?_; rintro e wD ⟨vD, rfl, oD, bD⟩; have hCs := HDC.out.size; have HBE := hid (HBC.out.trans (bD.mono (by omega))); have HDE := hid (HDC.out.trans (bD.mono hCs)); have HOD := hid oD; have HbD := hid bD; have HSD := hid (HPC.out wD HBE.out)) | (go_at_call 46; refine (HPL.out _ _ _ _ _ _ HOC.out HbD.out HOD.out).mono ?_; rintro e wP ⟨rfl, bP⟩; have hDs := HDE.out.size; have HBP := hid (HBE.out.trans (bP.mono (by omega))); have HDP := hid (HDE.out.trans (bP.mono hDs)); have HSP := hid (HPC.out wP HBP.out)))
          have HOP := hid (own_keep HO1.out HDP.out)
          have hN1P : N1 ≤ wP.heap.size := by have h5 := HDP.out.size; omega
          clear bS oC bC oD bD bP e0 e1 HBS HDS HSS HBC HDC HOC HSC HBE HDE HOD HbD HSD hSs hCs hDs HSM HBD HDD HRV HO1 HB1
          go_wp2
          go_loopw [13] (fun x wr => ∃ (j : Nat) (U : List Value), x = .int .i64 (j : Int) ∧ j ≤ nL ∧ Hid (wr.ownsRow N1 36 3 (.slice vo nL vc) nL U) ∧ Hid (Below N w wr)) (fun x _ => nL - (intOf x).toNat)
          case atStart => exact ⟨0, _, rfl, by omega, HOP, HBP⟩
          case round =>
            obtain ⟨j, U, rfl, hj, HOJ, HBJ⟩ := hrel
            by_cases hlt3 : j < nL
            · obtain ⟨q, cap', hve, hqB, hqw⟩ := HOJ.out.form (by omega)
              cases hve
              have hU : U.length = nL * 3 := HOJ.out.1
              have cc : ∀ c, c < 3 → ∃ u, wr.cell? ⟨q, j * 3 + c, none⟩ = some u := fun c hc => by
                rw [HOJ.out.cellAt _ (by omega)]
                exact ⟨_, List.getElem?_eq_getElem (by omega)⟩
              obtain ⟨u0, f0⟩ := cc 0 (by omega)
              obtain ⟨u1, f1⟩ := cc 1 (by omega)
              obtain ⟨u2, f2⟩ := cc 2 (by omega)
              have z0 : wr.frozen? ⟨q, j * 3, none⟩ = false := HOJ.out.frozenAt _
              have z1 : wr.frozen? ⟨q, j * 3 + 1, none⟩ = false := HOJ.out.frozenAt _
              have z2 : wr.frozen? ⟨q, j * 3 + 2, none⟩ = false := HOJ.out.frozenAt _
              have j3 : (j : Int) < (nL : Int) := by omega
              have j0 : (0 : Int) ≤ (j : Int) := by omega
              rw [Nat.add_zero] at f0
              clear cc
              have HSJ := hid (own_sets [.int .i32 0, .int .i32 0, .int .i64 99] (j * 3) U wr HOJ.out)
              have HBJ2 := hid (HBJ.out.trans (HSJ.out.2.mono hwN))
              go_wp2
              go_roundw
              case rel => exact ⟨j + 1, _, by go_num, by omega, HSJ.out.1, HBJ2⟩
              case measure => simp [intOf]; omega
            · have j3 : ¬ (j : Int) < (nL : Int) := by omega
              obtain ⟨e0, e1⟩ := HPC.out wr HBJ.out
              have HBD := hid (show Below N w wr.drew from HBJ.out.trans ⟨rfl, rfl, rfl, Nat.le_refl _, fun _ _ => rfl⟩)
              have hNr : N ≤ wr.drew.heap.size := by have h5 := HNE.out; have h6 := HBD.out.size; omega
              have HLS := hid (show ∀ (W1 : World) (vo : Option Addr) (vc B0 : Nat), W1.ownsRow B0 36 3 (.slice vo nL vc) nL (rks L) → Below N w W1 → Calls Try.prog 14 #[.slice vo nL vc, .slice ao nL ac] W1 fun e w' => e = .returned (.bool true) ∧ Below W1.heap.size W1 w' from fun W1 vo vc B0 h1 h2 => by
                rw [HNL.out] at h1
                have h5 := same3_any vo ao vc ac (L.map rkT) (L.map rkT) W1 (rd_own h1) (HRK.out W1 h2) (by have h6 := HNL.out; rw [List.length_map]; omega)
                rw [List.length_map, ← HNL.out] at h5
                refine h5.mono ?_
                rintro e w' ⟨rfl, h6⟩
                exact ⟨by simp, h6⟩)
              clear HOJ HOP
              go_wp2_with fail
              go_region_held3 (fun w' => w'.cell? ⟨P, 0, none⟩ = some (.slice ao nL ac)) (first | exact HSS.out | exact HSP.out | go_keep) (first | (go_at_call 32; refine (HRG.out _ HBD.out).mono ?_; rintro e wS ⟨vo2, vc2, rfl, oS, bS⟩; have HBS := hid (HBD.out.trans (bS.mono hNr)); have HOS := hid oS; have HSS := hid (HPC.out wS HBS.out).1) | (go_at_call 14; refine (HLS.out _ _ _ _ HOS.out HBS.out).mono ?_; rintro e wP ⟨rfl, bP⟩; have hNS : N ≤ wS.heap.size := (by have h5 := HNE.out; have h6 := HBS.out.size; omega); have HBP := hid (HBS.out.trans (bP.mono hNS)); have HSP := hid (HPC.out wP HBP.out).1))
              go_wp2
              go_ret
              exact ⟨rfl, HBP.out⟩
end Go.Proofs.Ytljlhlcoaajggaa
/- What the document's Load takes is what Load takes. -/
namespace Go.Proofs.Ytljlhlcoaajggaa

/-- A number in as few bytes as can be, and what is left. -/
def tkq : Nat → List Nat → Option (Nat × List Nat)
  | 0, _ => none
  | _ + 1, [] => none
  | f + 1, c :: r => if c < 128 then some (c, r) else match tkq f r with
    | none => none
    | some (n, r') => if n = 0 then none else some (c % 128 + 128 * n, r')
def tk (c : List Nat) : Option (Nat × List Nat) := tkq 4 c
theorem tkq_vn : ∀ (f n : Nat) (c : List Nat), n < 128 ^ (f + 1) → tkq (f + 1) (vn n ++ c) = some (n, c)
  | f, n, c, h => by
    by_cases h1 : 128 ≤ n
    · cases f with
      | zero => simp at h; omega
      | succ f =>
        have ih := tkq_vn f (n / 128) c (by rw [Nat.pow_succ] at h; omega)
        rw [vn_more n h1]
        show (if n % 128 + 128 < 128 then _ else match tkq (f + 1) (vn (n / 128) ++ c) with | none => none | some (n', r') => if n' = 0 then none else some ((n % 128 + 128) % 128 + 128 * n', r')) = _
        rw [if_neg (by omega), ih]
        show (if n / 128 = 0 then _ else _) = _
        rw [if_neg (by omega)]
        have : (n % 128 + 128) % 128 + 128 * (n / 128) = n := by omega
        rw [this]
    · rw [vn_last n h1]
      show (if n < 128 then _ else _) = _
      rw [if_pos (by omega)]; rfl
theorem tkq_out : ∀ (f : Nat) (c : List Nat) (v : Nat) (r : List Nat), tkq f c = some (v, r) → (∀ x ∈ c, x < 256) → c = vn v ++ r
  | 0, _, _, _, h, _ => by simp [tkq] at h
  | _ + 1, [], _, _, h, _ => by simp [tkq] at h
  | f + 1, x :: c, v, r, h, h8 => by
    have hx := h8 x (by simp)
    unfold tkq at h
    by_cases h1 : x < 128
    · rw [if_pos h1] at h
      simp only [Option.some.injEq, Prod.mk.injEq] at h
      obtain ⟨rfl, rfl⟩ := h
      rw [vn_last _ (by omega)]; rfl
    · rw [if_neg h1] at h
      cases hq : tkq f c with
      | none => rw [hq] at h; simp at h
      | some y =>
        obtain ⟨n, r'⟩ := y
        rw [hq] at h
        dsimp only at h
        by_cases hn : n = 0
        · rw [if_pos hn] at h; simp at h
        · rw [if_neg hn] at h
          simp only [Option.some.injEq, Prod.mk.injEq] at h
          obtain ⟨rfl, rfl⟩ := h
          have ih := tkq_out f c n r' hq (fun y hy => h8 y (by simp [hy]))
          rw [vn_more _ (by omega), ih, show (x % 128 + 128 * n) % 128 + 128 = x by omega, show (x % 128 + 128 * n) / 128 = n by omega]
          rfl
theorem tkq_lt : ∀ (f : Nat) (c : List Nat) (v : Nat) (r : List Nat), tkq f c = some (v, r) → v < 128 ^ f ∧ ∃ k, 0 < k ∧ k ≤ c.length ∧ r = c.drop k
  | 0, _, _, _, h => by simp [tkq] at h
  | _ + 1, [], _, _, h => by simp [tkq] at h
  | f + 1, x :: c, v, r, h => by
    unfold tkq at h
    by_cases h1 : x < 128
    · rw [if_pos h1] at h
      simp only [Option.some.injEq, Prod.mk.injEq] at h
      obtain ⟨rfl, rfl⟩ := h
      refine ⟨?_, 1, by omega, by simp, rfl⟩
      have : 0 < 128 ^ f := Nat.pow_pos (by omega)
      rw [Nat.pow_succ]; omega
    · rw [if_neg h1] at h
      cases hq : tkq f c with
      | none => rw [hq] at h; simp at h
      | some y =>
        obtain ⟨n, r'⟩ := y
        rw [hq] at h
        dsimp only at h
        by_cases hn : n = 0
        · rw [if_pos hn] at h; simp at h
        · rw [if_neg hn] at h
          simp only [Option.some.injEq, Prod.mk.injEq] at h
          obtain ⟨rfl, rfl⟩ := h
          obtain ⟨h2, k, h3, h4, h5⟩ := tkq_lt f c n r' hq
          refine ⟨by rw [Nat.pow_succ]; omega, k + 1, by omega, by simp; omega, ?_⟩
          rw [h5]; rfl
theorem rdn_vn (n : Nat) (c : List Nat) (h : n < 2097152) : rdn (vn n ++ c) = (n, c) := by
  by_cases h1 : 128 ≤ n
  · rw [vn_more n h1]
    by_cases h2 : 128 ≤ n / 128
    · rw [vn_more _ h2, vn_last (n / 128 / 128) (by omega)]
      have e : ∀ (a b d : Nat) (r : List Nat), rdn (a :: b :: d :: r) = if a < 128 then (a, b :: d :: r) else if b < 128 then (a % 128 + b * 128, d :: r) else if d < 128 then (a % 128 + b % 128 * 128 + d * 16384, r) else (0, []) := fun _ _ _ _ => rfl
      show rdn ((n % 128 + 128) :: (n / 128 % 128 + 128) :: (n / 128 / 128) :: c) = _
      rw [e]
      rw [if_neg (by omega), if_neg (by omega), if_pos (by omega)]
      congr 1; omega
    · rw [vn_last _ h2]
      have e : ∀ (a b : Nat) (r : List Nat), b < 128 → rdn (a :: b :: r) = if a < 128 then (a, b :: r) else (a % 128 + b * 128, r) := fun a b r h => by
        unfold rdn
        dsimp only
        rw [if_pos h]
      show rdn ((n % 128 + 128) :: (n / 128) :: c) = _
      rw [e _ _ _ (by omega)]
      rw [if_neg (by omega)]
      congr 1; omega
  · rw [vn_last _ h1]
    show rdn (n :: c) = _
    unfold rdn
    dsimp only
    rw [if_pos (by omega)]
theorem vn_ne (n : Nat) : vn n ≠ [] := by
  by_cases h1 : 128 ≤ n
  · rw [vn_more n h1]; simp
  · rw [vn_last n h1]; simp
/-- Load reads the ranges that Bytes has written. -/
theorem ldl_enL : ∀ (L : List Tr) (f nx : Nat), (enL nx L).length ≤ f → Ris nx L → ldl f nx (enL nx L) = some L
  | [], f, nx, _, _ => by cases f <;> rfl
  | g :: L, 0, nx, h, _ => by
    have : enL nx (g :: L) = [] := List.length_eq_zero_iff.1 (by omega)
    unfold enL at this
    have h2 := vn_ne (g.1 - nx)
    simp [h2] at this
  | g :: L, f + 1, nx, h, hR => by
    obtain ⟨h1, h2, h3, h4, h5⟩ := hR
    have e : enL nx (g :: L) = vn (g.1 - nx) ++ (vn (g.2.1 - g.1) ++ (g.2.2 :: enL (g.2.1 + 1) L)) := rfl
    have hne : enL nx (g :: L) ≠ [] := by rw [e]; simp [vn_ne]
    have r1 : rdn (enL nx (g :: L)) = (g.1 - nx, vn (g.2.1 - g.1) ++ (g.2.2 :: enL (g.2.1 + 1) L)) := by rw [e]; exact rdn_vn _ _ (by omega)
    have r2 : rdn (vn (g.2.1 - g.1) ++ (g.2.2 :: enL (g.2.1 + 1) L)) = (g.2.1 - g.1, g.2.2 :: enL (g.2.1 + 1) L) := rdn_vn _ _ (by omega)
    have hl : (enL (g.2.1 + 1) L).length ≤ f := by rw [e] at h; simp at h; omega
    have ih := ldl_enL L f (g.2.1 + 1) hl h5
    rw [ldl_step hne, r1]
    dsimp only
    rw [r2]
    dsimp only
    rw [if_neg (by omega), show nx + (g.1 - nx) + (g.2.1 - g.1) + 1 = g.2.1 + 1 by omega, show nx + (g.1 - nx) = g.1 by omega, show g.1 + (g.2.1 - g.1) = g.2.1 by omega]
    show Option.map _ (ldl f (g.2.1 + 1) (enL (g.2.1 + 1) L)) = _
    rw [ih]; rfl
theorem ldR_enb (r : Nat) (L : List Tr) (hR : Ris 0 L) : ldR (enb r L) = some L := by
  have hl := ris_len L 0 (by omega) hR
  have e : rdn (enb r L).tail = (L.length, enL 0 L) := rdn_vn _ _ (by omega)
  unfold ldR
  rw [e]
  exact ldl_enL L _ 0 (Nat.le_refl _) hR

/-- None has the rest's class; none goes on where one of its class has ended. -/
def Nr (r : Nat) : Option Nat → Nat → List Tr → Prop
  | _, _, [] => True
  | p, nx, g :: L => g.2.2 ≠ r ∧ ¬ (g.1 = nx ∧ p = some g.2.2) ∧ Nr r (some g.2.2) (g.2.1 + 1) L
/-- What the document's Load reads. -/
def rdL (r : Nat) : Nat → Nat → Option Nat → List Nat → Option (List Tr)
  | 0, _, _, c => if c = [] then some [] else none
  | n + 1, nx, p, c => match tk c with
    | none => none
    | some (g, c1) => match tk c1 with
      | none => none
      | some (m, c2) => match c2 with
        | [] => none
        | k :: c3 => if 1114111 < nx + g + m then none else if k = r ∨ (g = 0 ∧ p = some k) then none else (rdL r n (nx + g + m + 1) (some k) c3).map ((nx + g, nx + g + m, k) :: ·)
def rl (b : List Nat) : Option (List Tr) := match b with
  | [] => none
  | r :: c => match tk c with
    | none => none
    | some (n, c1) => rdL r n 0 none c1
theorem rdL_enL (r : Nat) : ∀ (L : List Tr) (nx : Nat) (p : Option Nat), Ris nx L → Nr r p nx L → rdL r L.length nx p (enL nx L) = some L
  | [], nx, p, _, _ => rfl
  | g :: L, nx, p, hR, hN => by
    obtain ⟨h1, h2, h3, h4, h5⟩ := hR
    obtain ⟨n1, n2, n3⟩ := hN
    have e : enL nx (g :: L) = vn (g.1 - nx) ++ (vn (g.2.1 - g.1) ++ (g.2.2 :: enL (g.2.1 + 1) L)) := rfl
    have t1 : tk (enL nx (g :: L)) = some (g.1 - nx, vn (g.2.1 - g.1) ++ (g.2.2 :: enL (g.2.1 + 1) L)) := by rw [e]; exact tkq_vn 3 _ _ (show _ < 268435456 by omega)
    have t2 : tk (vn (g.2.1 - g.1) ++ (g.2.2 :: enL (g.2.1 + 1) L)) = some (g.2.1 - g.1, g.2.2 :: enL (g.2.1 + 1) L) := tkq_vn 3 _ _ (show _ < 268435456 by omega)
    have ih := rdL_enL r L (g.2.1 + 1) (some g.2.2) h5 n3
    show (match tk (enL nx (g :: L)) with | none => none | some (a, c1) => match tk c1 with | none => none | some (m, c2) => match c2 with | [] => none | k :: c3 => if 1114111 < nx + a + m then none else if k = r ∨ (a = 0 ∧ p = some k) then none else (rdL r L.length (nx + a + m + 1) (some k) c3).map ((nx + a, nx + a + m, k) :: ·)) = _
    rw [t1]
    dsimp only
    rw [t2]
    dsimp only
    rw [if_neg (by omega), if_neg (fun hh => hh.elim (fun h => n1 h) (fun h => n2 ⟨by omega, h.2⟩)), show nx + (g.1 - nx) + (g.2.1 - g.1) + 1 = g.2.1 + 1 by omega, show nx + (g.1 - nx) = g.1 by omega, show g.1 + (g.2.1 - g.1) = g.2.1 by omega, ih]
    rfl
theorem rdL_out (r : Nat) : ∀ (n nx : Nat) (p : Option Nat) (c : List Nat) (L : List Tr), (∀ x ∈ c, x < 256) → rdL r n nx p c = some L → c = enL nx L ∧ L.length = n ∧ Ris nx L ∧ Nr r p nx L
  | 0, nx, p, c, L, h8, h => by
    unfold rdL at h
    by_cases hc : c = []
    · rw [if_pos hc] at h
      simp only [Option.some.injEq] at h
      subst h; subst hc
      exact ⟨rfl, rfl, trivial, trivial⟩
    · rw [if_neg hc] at h; simp at h
  | n + 1, nx, p, c, L, h8, h => by
    unfold rdL at h
    cases ht : tk c with
    | none => rw [ht] at h; simp at h
    | some y =>
      obtain ⟨g, c1⟩ := y
      rw [ht] at h
      dsimp only at h
      have e1 := tkq_out 4 c g c1 ht h8
      have m1 : ∀ x ∈ c1, x < 256 := fun x hx => h8 x (by rw [e1]; simp [hx])
      cases ht2 : tk c1 with
      | none => rw [ht2] at h; simp at h
      | some y =>
        obtain ⟨m, c2⟩ := y
        rw [ht2] at h
        dsimp only at h
        have e2 := tkq_out 4 c1 m c2 ht2 m1
        have m2 : ∀ x ∈ c2, x < 256 := fun x hx => m1 x (by rw [e2]; simp [hx])
        cases c2 with
        | nil => simp at h
        | cons k c3 =>
          dsimp only at h
          by_cases hM : 1114111 < nx + g + m
          · rw [if_pos hM] at h; simp at h
          · rw [if_neg hM] at h
            by_cases hK : k = r ∨ (g = 0 ∧ p = some k)
            · rw [if_pos hK] at h; simp at h
            · rw [if_neg hK] at h
              cases hq : rdL r n (nx + g + m + 1) (some k) c3 with
              | none => rw [hq] at h; simp at h
              | some M =>
                rw [hq] at h
                simp only [Option.map_some, Option.some.injEq] at h
                subst h
                obtain ⟨q1, q2, q3, q4⟩ := rdL_out r n (nx + g + m + 1) (some k) c3 M (fun x hx => m2 x (by simp [hx])) hq
                refine ⟨?_, by simp [q2], ⟨by show nx ≤ nx + g; omega, by show nx + g ≤ nx + g + m; omega, by show nx + g + m ≤ _; omega, m2 k (by simp), q3⟩, fun h => hK (.inl h), fun h => hK (.inr ⟨by have h5 := h.1; dsimp only at h5; omega, h.2⟩), q4⟩
                show c = vn (nx + g - nx) ++ (vn (nx + g + m - (nx + g)) ++ (k :: enL (nx + g + m + 1) M))
                rw [show nx + g - nx = g by omega, show nx + g + m - (nx + g) = m by omega, ← q1, ← e2]
                exact e1
theorem nrAL_len (r : Nat) : ∀ (A o : List Tr), (nrA r o A).length ≤ o.length + A.length
  | [], o => by show o.length ≤ _; simp
  | g :: A, o => by
    show (if g.2.2 = r then nrA r o A else nrA r (jA o g) A).length ≤ _
    split
    · have := nrAL_len r A o; simp; omega
    · have h1 := nrAL_len r A (jA o g)
      have h2 : (jA o g).length ≤ o.length + 1 := by
        rcases List.eq_nil_or_concat o with rfl | ⟨Q, z, rfl⟩
        · simp [jA_nil]
        · rw [List.concat_eq_append, jA_snoc]
          split <;> simp
      simp; omega
/-- The last one's class, and where it ends. -/
def lcl (o : List Tr) : Option Nat := o.getLast?.map fun z => z.2.2
theorem nr_of_len (r : Nat) : ∀ (A o : List Tr), (nrA r o A).length = o.length + A.length → Nr r (lcl o) (endR 0 o) A
  | [], _, _ => trivial
  | g :: A, o, h => by
    have e : nrA r o (g :: A) = if g.2.2 = r then nrA r o A else nrA r (jA o g) A := rfl
    rw [e] at h
    by_cases hc : g.2.2 = r
    · rw [if_pos hc] at h
      have := nrAL_len r A o
      simp at h; omega
    · rw [if_neg hc] at h
      have h1 := nrAL_len r A (jA o g)
      rcases List.eq_nil_or_concat o with rfl | ⟨Q, z, rfl⟩
      · have ih := nr_of_len r A (jA [] g) (by rw [h, jA_nil]; simp; omega)
        exact ⟨hc, fun h => by simp [lcl] at h, ih⟩
      · rw [List.concat_eq_append] at h h1 ⊢
        rw [jA_snoc] at h h1
        by_cases hz : z.2.1 + 1 = g.1 ∧ z.2.2 = g.2.2
        · rw [if_pos hz] at h h1
          simp at h h1; omega
        · rw [if_neg hz] at h
          have ih := nr_of_len r A (Q ++ [z, g]) (by rw [h]; simp; omega)
          have e3 : Q ++ [z, g] = (Q ++ [z]) ++ [g] := by simp
          rw [e3, endR_snoc] at ih
          refine ⟨hc, fun h => hz ?_, ?_⟩
          · rw [endR_snoc] at h
            refine ⟨h.1.symm, ?_⟩
            have h5 := h.2
            simp [lcl] at h5
            exact h5
          · have e4 : lcl ((Q ++ [z]) ++ [g]) = some g.2.2 := by simp [lcl]
            rw [e4] at ih
            exact ih
theorem nrA_of_nr (r : Nat) : ∀ (A o : List Tr), Nr r (lcl o) (endR 0 o) A → nrA r o A = o ++ A
  | [], o, _ => by show o = _; simp
  | g :: A, o, h => by
    obtain ⟨h1, h2, h3⟩ := h
    have e : nrA r o (g :: A) = if g.2.2 = r then nrA r o A else nrA r (jA o g) A := rfl
    have ej : jA o g = o ++ [g] := by
      rcases List.eq_nil_or_concat o with rfl | ⟨Q, z, rfl⟩
      · rfl
      · rw [List.concat_eq_append] at h2 ⊢
        rw [jA_snoc, if_neg, List.append_assoc]
        · rfl
        · intro hz
          refine h2 ⟨?_, ?_⟩
          · rw [endR_snoc]; exact hz.1.symm
          · simp [lcl]; exact hz.2
    rw [e, if_neg h1, ej, nrA_of_nr r A (o ++ [g]) (by rw [endR_snoc, show lcl (o ++ [g]) = some g.2.2 by simp [lcl]]; exact h3)]
    simp
/-- The ranges of a table are in their normal form. -/
theorem rgs_nr (r : Nat) (hr : r < 256) (C : List Nat) (h : C.length = 1114112) (hc : ∀ c ∈ C, c < 256) : Nr r none 0 (rgs r C) := by
  have h1 := nrA_rgs r hr (rgs r C) (rgs_ris r C h hc)
  rw [clA_rgs r C h hc] at h1
  exact nr_of_len r (rgs r C) [] (by rw [h1]; simp)
theorem nr_rgs (r : Nat) (hr : r < 256) (L : List Tr) (hR : Ris 0 L) (hN : Nr r none 0 L) : rgs r (clA r L) = L := by
  rw [← nrA_rgs r hr L hR, nrA_of_nr r L [] hN]; rfl
/-- What the document's Load takes Load takes, and it is the same. -/
theorem rl_some (b : List Nat) (h8 : ∀ c ∈ b, c < 256) (L : List Tr) (h : rl b = some L) : lds b = some L ∧ Ris 0 L ∧ Nr (ldr b) none 0 L ∧ b = enb (ldr b) L ∧ rgs (ldr b) (clA (ldr b) L) = L := by
  cases b with
  | nil => simp [rl] at h
  | cons r c =>
    unfold rl at h
    dsimp only at h
    have m0 : ∀ x ∈ c, x < 256 := fun x hx => h8 x (by simp [hx])
    cases ht : tk c with
    | none => rw [ht] at h; simp at h
    | some y =>
      obtain ⟨n, c1⟩ := y
      rw [ht] at h
      dsimp only at h
      have e1 := tkq_out 4 c n c1 ht m0
      obtain ⟨q1, q2, q3, q4⟩ := rdL_out r n 0 none c1 L (fun x hx => m0 x (by rw [e1]; simp [hx])) h
      have e : r :: c = enb r L := by unfold enb; rw [q2, ← q1, ← e1]
      have hg := nr_rgs r (h8 r (by simp)) L q3 q4
      have el : ldr (r :: c) = r := rfl
      rw [el]
      refine ⟨?_, q3, q4, e, hg⟩
      have hl : ldR (r :: c) = some L := by rw [e]; exact ldR_enb r L q3
      unfold lds
      rw [hl]
      dsimp only
      rw [el, hg, if_pos e.symm]
/-- What the document's Load does not take Load does not take. -/
theorem rl_none (b : List Nat) (h8 : ∀ c ∈ b, c < 256) (hR : ∀ L, ldR b = some L → Ris 0 L) (h : rl b = none) : lds b = none := by
  cases hl : ldR b with
  | none => unfold lds; rw [hl]
  | some L =>
    unfold lds
    rw [hl]
    dsimp only
    rw [if_neg]
    intro he
    cases b with
    | nil => unfold enb at he; simp at he
    | cons r c =>
      have el : ldr (r :: c) = r := rfl
      rw [el] at he
      have hr := h8 r (by simp)
      have hRL := hR L hl
      have hcl := clA_len r L hRL
      have hc2 := clA_256 r L hr hRL
      obtain ⟨M, hM⟩ : ∃ M, M = rgs r (clA r L) := ⟨_, rfl⟩
      have r1 : Ris 0 M := by rw [hM]; exact rgs_ris r _ hcl hc2
      have r2 : Nr r none 0 M := by rw [hM]; exact rgs_nr r hr _ hcl hc2
      rw [← hM] at he
      have hlen := ris_len M 0 (by omega) r1
      have h5 : rl (enb r M) = some M := by
        show (match tk (vn M.length ++ enL 0 M) with | none => none | some (n, c1) => rdL r n 0 none c1) = _
        have t1 : tk (vn M.length ++ enL 0 M) = some (M.length, enL 0 M) := tkq_vn 3 _ _ (show _ < 268435456 by omega)
        rw [t1]
        exact rdL_enL r M 0 none r1 r2
      rw [he, h] at h5
      cases h5
end Go.Proofs.Ytljlhlcoaajggaa
/- The contract of both (the statements' own): the program's table and the document's. -/
namespace Go.Proofs.Ytljlhlcoaajggaa
open Go.RowKit

/-- The program's table at T and the document's at P are the same: of the ranges L, in their normal form. -/
structure Twin (B T P r : Nat) (F : List (List Nat)) (L : List Tr) (w : World) : Prop where
  t : TbAt B T F r w
  p : RtAt B P L r w
  f : F.flatten = clA r L
  lt : r < 256
  ris : Ris 0 L
  nrm : rgs r (clA r L) = L
theorem Twin.below {B T P r : Nat} {F : List (List Nat)} {L : List Tr} {w w' : World} (h : Twin B T P r F L w) (hb : Below w.heap.size w w') : Twin B T P r F L w' := ⟨h.t.below hb, h.p.below hb, h.f, h.lt, h.ris, h.nrm⟩
theorem RtAt.mono {B B' P r : Nat} {L : List Tr} {w : World} (h : RtAt B P L r w) (hb : B' ≤ B) : RtAt B' P L r w := by
  obtain ⟨v, h1, h2⟩ := h
  exact ⟨v, h1, own_mono h2 hb⟩
theorem Twin.mono {B B' T P r : Nat} {F : List (List Nat)} {L : List Tr} {w : World} (h : Twin B T P r F L w) (hb : B' ≤ B) : Twin B' T P r F L w := ⟨h.t.mono hb, h.p.mono hb, h.f, h.lt, h.ris, h.nrm⟩
theorem icl_lt {r : Int} (h : icl r = true) : r.toNat < 256 ∧ ((r.toNat : Nat) : Int) = r := by
  unfold icl at h
  have := of_decide_eq_true h
  omega
theorem twin_of (l : List Rk) (r : Int) (hb : bo l r = none) : r.toNat < 256 ∧ Ris 0 (nrA r.toNat [] (srt [] l)) ∧ clA r.toNat (nrA r.toNat [] (srt [] l)) = clA r.toNat (srt [] l) ∧ rgs r.toNat (clA r.toNat (nrA r.toNat [] (srt [] l))) = nrA r.toNat [] (srt [] l) := by
  obtain ⟨h1, _, h2⟩ := bo_none hb
  have h3 := (icl_lt h1).1
  have h4 := srt_ris l [] 0 trivial h2
  have h5 := nrA_rgs r.toNat h3 _ h4
  have h6 := clA_len r.toNat _ h4
  have h7 := clA_256 r.toNat _ h3 h4
  have h8 := clA_rgs r.toNat _ h6 h7
  rw [h5]
  refine ⟨h3, rgs_ris _ _ h6 h7, h8, by rw [h8]⟩

theorem results_tmp4 {fn : Func} {t u v x : Tmp} (h : fn.results = #[.tmp t, .tmp u, .tmp v, .tmp x]) (tmps : Array Value) (P : Program) (w : World) :
    (results fn tmps).run P w = .ok (.tuple #[tmps.getD t undef, tmps.getD u undef, tmps.getD v undef, tmps.getD x undef]) w := by
  simp [results, h]
set_option maxHeartbeats 2000000 in
set_option maxRecDepth 100000 in
theorem both_any (ao : Option Addr) (ac : Nat) (l : List Rk) (r : Int) (w : World) (ha : RdK w ao l) (hna : ao = none → ac = 0) (hl : l.length ≤ 100000) :
    Calls Try.prog 20 #[.slice ao l.length ac, .int .i64 r] w fun e w' => Below w.heap.size w w' ∧
      ((bo l r ≠ none ∧ e = .returned (.tuple #[.pointer none, .pointer none, .bool false, .bool true])) ∨
       (bo l r = none ∧ ∃ T P F L, e = .returned (.tuple #[.pointer (some ⟨T, 0, none⟩), .pointer (some ⟨P, 0, none⟩), .bool true, .bool true]) ∧ Twin w.heap.size T P r.toNat F L w')) := by
  have HA := hid ha
  have HO := hid (own_any ao ac l w ha hna (by omega))
  obtain ⟨n, hn⟩ : ∃ n, n = l.length := ⟨_, rfl⟩
  have HN := hid hn
  rw [← hn] at HO ⊢
  clear ha hn
  go_enter Try.func20, Try.ntmps20
  go_wp2_with fail
  refine HO.out.mono ?_
  rintro e w1 ⟨g1, p1, rfl, o1, b1⟩
  have HB1 := hid b1
  have HBU := hid (build_any (some ⟨g1, 0, none⟩) p1 l r w1 (rd_ownL o1) (by have h5 := HN.out; omega))
  rw [← HN.out] at HBU
  clear o1 b1 HO
  go_wp2_with fail
  refine HBU.out.mono ?_
  rintro e w2 ⟨b2, hc⟩
  have HB2 := hid (HB1.out.trans (b2.mono HB1.out.size))
  have hs1 := HB1.out.size
  have hs2 := HB2.out.size
  have HRB := hid (rbuild_any ao ac l r w2 (HA.out.below HB2.out) (by have h5 := HN.out; omega))
  rw [← HN.out] at HRB
  clear b2 HBU
  rcases hc with ⟨c, k, hc, rfl⟩ | ⟨hbo, T, F, rfl, hTs, hF, hsl, hTb⟩
  · have HC := hid hc
    clear hc
    go_wp2_with fail
    refine HRB.out.mono ?_
    rintro e w3 ⟨b3, hd⟩
    have HB3 := hid (HB2.out.trans (b3.mono hs2))
    clear b3 HRB
    rcases hd with ⟨c', k', hc', rfl⟩ | ⟨hbo, _⟩
    · rw [HC.out] at hc'
      cases hc'
      have HNO := hid (show bo l r ≠ none by rw [HC.out]; simp)
      go_wp2_with (first | (go_at_call 9; refine (num_any _ _).mono ?_; rintro e w9 ⟨rfl, h9⟩; obtain rfl := h9.symm) | fail)
      refine bodyPost_ret (results_tmp4 rfl _ _ _) rfl ?_
      exact ⟨HB3.out, .inl ⟨HNO.out, rfl⟩⟩
    · rw [HC.out] at hbo
      cases hbo
  · have HBO := hid hbo
    have HF := hid hF
    have HTb := hid hTb
    clear hbo hF hTb
    go_wp2_with fail
    refine HRB.out.mono ?_
    rintro e w3 ⟨b3, hd⟩
    have HB3 := hid (HB2.out.trans (b3.mono hs2))
    have HT3 := hid ((HTb.out.below b3).mono hs1)
    clear b3 HRB
    rcases hd with ⟨c', k', hc', rfl⟩ | ⟨hbo, P, rfl, hPs, hPt⟩
    · rw [HBO.out] at hc'
      cases hc'
    · have HPT := hid (hPt.mono hs2)
      clear hbo hPt
      go_wp2_with (first | (go_at_call 9; refine (num_any _ _).mono ?_; rintro e w9 ⟨rfl, h9⟩; obtain rfl := h9.symm) | fail)
      refine bodyPost_ret (results_tmp4 rfl _ _ _) rfl ?_
      obtain ⟨q1, q2, q3, q4⟩ := twin_of l r HBO.out
      exact ⟨HB3.out, .inr ⟨HBO.out, T, P, F, _, rfl, HT3.out, HPT.out, by rw [q3]; exact HF.out, q1, q2, q4⟩⟩
end Go.Proofs.Ytljlhlcoaajggaa
/- The contracts of the class test in Map, of IndexFunc and ContainsFunc of numbers. -/
namespace Go.Proofs.Ytljlhlcoaajggaa
open Go.RowKit

theorem mapf_any (c : Int) (w : World) : Calls Try.prog 50 #[.int .i64 c] w fun e w' => e = .returned (.bool (!icl c)) ∧ w' = w := by
  go_enter Try.func50, Try.ntmps50
  go_wp2_with (go_at_call 35; refine (isClass_any _ _).mono ?_; rintro e w1 ⟨rfl, hw⟩; obtain rfl := hw.symm)
  go_ret
  exact ⟨rfl, rfl⟩
/-- All of them are classes. -/
def acl (E : List Int) : Prop := ∀ c ∈ E, icl c = true

set_option maxHeartbeats 1000000 in
set_option maxRecDepth 100000 in
theorem index70_any (ao : Option Addr) (ac : Nat) (E : List Int) (w : World) (ha : RdJ w ao E) (hl : E.length ≤ 1000000000) :
    Calls Try.prog 70 #[.slice ao E.length ac, .func (.func 50) #[] #[]] w fun e w' => w' = w ∧ ((¬ acl E ∧ ∃ i : Nat, i ≤ 1000000000 ∧ e = .returned (.int .i64 (i : Int))) ∨ (acl E ∧ e = .returned (.int .i64 (-1)))) := by
  have HA := hid ha
  obtain ⟨n, hn⟩ : ∃ n, n = E.length := ⟨_, rfl⟩
  rw [← hn] at hl ⊢
  have HN := hid hn
  clear ha hn
  go_enter Try.func70, Try.ntmps70
  go_wp2
  go_loopw [8] (fun x wr => ∃ (i : Nat), x = .int .i64 (i : Int) ∧ i ≤ n ∧ Hid (acl (E.take i)) ∧ Hid (wr = w)) (fun x _ => n - (intOf x).toNat)
  case atStart => exact ⟨0, rfl, by omega, fun x hx => (by simp at hx), rfl⟩
  case round =>
    obtain ⟨i, rfl, hi, HK, HWW⟩ := hrel
    obtain rfl := HWW.out.symm
    by_cases hlt : i < n
    · have hiE : i < E.length := by have h5 := HN.out; omega
      obtain ⟨a, rfl, ha, a0⟩ := HA.out i E[i] (List.getElem?_eq_getElem hiE)
      have HTK := hid (List.take_succ_eq_append_getElem hiE)
      have HME := hid (List.getElem_mem hiE)
      obtain ⟨z, hz⟩ : ∃ z, z = E[i] := ⟨_, rfl⟩
      rw [← hz] at a0 HTK HME
      have i3 : (i : Int) < (n : Int) := by omega
      have i0 : (0 : Int) ≤ (i : Int) := by omega
      have HMF := hid (mapf_any z w)
      clear hz hiE
      cases hc : icl z with
      | false =>
        rw [hc] at HMF
        have HNO := hid (show ¬ acl E from fun h => by have h5 := h z HME.out; rw [hc] at h5; cases h5)
        clear hc
        go_wp2_with fail
        refine HMF.out.mono ?_
        rintro e w2 ⟨rfl, hw⟩
        obtain rfl := hw.symm
        go_wp2
        go_ret
        exact ⟨rfl, .inl ⟨HNO.out, i, by omega, rfl⟩⟩
      | true =>
        rw [hc] at HMF
        have HK2 := hid (show acl (E.take (i + 1)) from fun x hx => by
          rw [HTK.out] at hx
          rcases List.mem_append.1 hx with hx | hx
          · exact HK.out x hx
          · simp at hx; subst hx; exact hc)
        clear hc
        go_wp2_with fail
        refine HMF.out.mono ?_
        rintro e w2 ⟨rfl, hw⟩
        obtain rfl := hw.symm
        go_wp2
        go_roundw
        case rel => exact ⟨i + 1, by go_num, by omega, HK2, by first | exact (trivial : True) | rfl⟩
        case measure => simp [intOf]; omega
    · have i3 : ¬ (i : Int) < (n : Int) := by omega
      have HE := hid (show acl E by
        have h5 := HK.out
        rw [List.take_of_length_le (by have h5 := HN.out; omega)] at h5
        exact h5)
      go_wp2
      go_ret
      exact ⟨rfl, .inr ⟨HE.out, rfl⟩⟩
theorem contains_any (ao : Option Addr) (ac : Nat) (E : List Int) (w : World) (ha : RdJ w ao E) (hl : E.length ≤ 1000000000) :
    Calls Try.prog 49 #[.slice ao E.length ac, .func (.func 50) #[] #[]] w fun e w' => w' = w ∧ ∃ d : Bool, e = .returned (.bool d) ∧ (d = false ↔ acl E) := by
  have HI := hid (index70_any ao ac E w ha hl)
  obtain ⟨n, hn⟩ : ∃ n, n = E.length := ⟨_, rfl⟩
  rw [← hn] at HI ⊢
  clear ha hl hn
  go_enter Try.func49, Try.ntmps49
  go_wp2_with fail
  refine HI.out.mono ?_
  rintro e w1 ⟨hw, hc⟩
  obtain rfl := hw.symm
  clear HI
  rcases hc with ⟨hno, i, hi, rfl⟩ | ⟨hyes, rfl⟩
  · have i0 : (0 : Int) ≤ (i : Int) := by omega
    have HNO := hid hno
    clear hno
    go_wp2
    go_ret
    exact ⟨rfl, true, rfl, ⟨fun h => (by cases h), fun h => absurd h HNO.out⟩⟩
  · have HY := hid hyes
    clear hyes
    go_wp2
    go_ret
    exact ⟨rfl, false, rfl, ⟨fun _ => HY.out, fun _ => rfl⟩⟩
end Go.Proofs.Ytljlhlcoaajggaa
/- Classes turned into others: of ranges, and number by number. -/
namespace Go.Proofs.Ytljlhlcoaajggaa

/-- A range with its class turned. -/
def mf (f : Nat → Nat) (g : Tr) : Tr := (g.1, g.2.1, f g.2.2)
theorem clq_map (r : Nat) (f : Nat → Nat) : ∀ (L : List Tr) (b : Nat), clq (f r) b (L.map (mf f)) = (clq r b L).map f
  | [], _ => rfl
  | g :: L, b => by
    have ih := clq_map r f L (g.2.1 + 1)
    show List.replicate (g.1 - b) (f r) ++ (List.replicate (g.2.1 + 1 - g.1) (f g.2.2) ++ clq (f r) (g.2.1 + 1) (L.map (mf f))) = (List.replicate (g.1 - b) r ++ (List.replicate (g.2.1 + 1 - g.1) g.2.2 ++ clq r (g.2.1 + 1) L)).map f
    rw [ih, List.map_append, List.map_append, List.map_replicate, List.map_replicate]
theorem clA_map (r : Nat) (f : Nat → Nat) (L : List Tr) : clA (f r) (L.map (mf f)) = (clA r L).map f := by
  unfold clA
  rw [clq_map, List.map_append, List.map_replicate, List.length_map]
theorem ris_map (f : Nat → Nat) : ∀ (L : List Tr) (b : Nat), Ris b L → (∀ g ∈ L, f g.2.2 < 256) → Ris b (L.map (mf f))
  | [], _, _, _ => trivial
  | g :: L, b, h, hf => by
    obtain ⟨h1, h2, h3, h4, h5⟩ := h
    exact ⟨h1, h2, h3, hf g (by simp), ris_map f L _ h5 (fun x hx => hf x (by simp [hx]))⟩
theorem mf_snoc (f : Nat → Nat) (Q : List Tr) (g : Tr) : (Q ++ [g]).map (mf f) = Q.map (mf f) ++ [mf f g] := by simp
/-- The ranges of all numbers, turned: number by number. -/
theorem clq_rl (r : Nat) (f : Nat → Nat) : ∀ (n : Nat) (C : List Nat), C.length = n → n ≤ 1114112 → (∀ c ∈ C, c < 256) → clq r 0 ((rlA 0 [] C).map (mf f)) = C.map f
  | 0, C, h, _, _ => by
    have : C = [] := List.length_eq_zero_iff.1 h
    subst this; rfl
  | n + 1, C, h, hn, hc => by
    rcases List.eq_nil_or_concat C with rfl | ⟨D, c, rfl⟩
    · simp at h
    · rw [List.concat_eq_append] at h hc ⊢
      have hD : D.length = n := by simpa using h
      have hcD : ∀ x ∈ D, x < 256 := fun x hx => hc x (by simp [hx])
      have ih := clq_rl r f n D hD (by omega) hcD
      have hr := rlA_ris n D hD (by omega) hcD
      rw [rlA_snoc, Nat.zero_add, hD, List.map_append, ← ih]
      rcases List.eq_nil_or_concat D with rfl | ⟨D', d, rfl⟩
      · have hn0 : n = 0 := by simpa using hD.symm
        subst hn0
        rfl
      · rw [List.concat_eq_append] at hr hD ih ⊢
        obtain ⟨Q, a, hQ⟩ := last_cls D' d
        rw [hQ] at hr ⊢
        have hle := ((ris_snoc Q 0 (a, D'.length, d)).1 hr.1).2
        have hD2 : D'.length + 1 = n := by simpa using hD
        have ha : a ≤ D'.length := hle.2.1
        rw [jn_snoc]
        split
        · rename_i hdc
          rw [mf_snoc, mf_snoc, clq_snoc, clq_snoc]
          show clq r 0 (Q.map (mf f)) ++ (List.replicate (a - endR 0 (Q.map (mf f))) r ++ List.replicate (n + 1 - a) (f c)) = clq r 0 (Q.map (mf f)) ++ (List.replicate (a - endR 0 (Q.map (mf f))) r ++ List.replicate (D'.length + 1 - a) (f d)) ++ [f c]
          have hdc' : d = c := hdc
          rw [hdc', hD2, show n + 1 - a = (n - a) + 1 by omega, List.replicate_succ']
          simp
        · rw [show Q ++ [(a, D'.length, d), (n, n, c)] = (Q ++ [(a, D'.length, d)]) ++ [(n, n, c)] by simp, mf_snoc, clq_snoc]
          have he : endR 0 ((Q ++ [(a, D'.length, d)]).map (mf f)) = n := by rw [mf_snoc, endR_snoc]; exact hD2
          rw [he]
          show _ ++ (List.replicate (n - n) r ++ List.replicate (n + 1 - n) (f c)) = _
          rw [Nat.sub_self, show n + 1 - n = 1 by omega]
          rfl
theorem clA_rl (r : Nat) (f : Nat → Nat) (C : List Nat) (h : C.length = 1114112) (hc : ∀ c ∈ C, c < 256) : clA r ((rlA 0 [] C).map (mf f)) = C.map f := by
  unfold clA
  rw [clq_rl r f 1114112 C h (Nat.le_refl _) hc, List.length_map, h]
  simp
theorem jn_cls (R : List Tr) (x : Tr) (c : Nat) : (∃ g ∈ jn R x, g.2.2 = c) ↔ (∃ g ∈ R, g.2.2 = c) ∨ x.2.2 = c := by
  rcases List.eq_nil_or_concat R with rfl | ⟨Q, z, rfl⟩
  · rw [jn_nil]; simp
  · rw [List.concat_eq_append, jn_snoc]
    split
    · rename_i hz
      constructor
      · rintro ⟨g, hg, rfl⟩
        rcases List.mem_append.1 hg with hg | hg
        · exact .inl ⟨g, by simp [hg], rfl⟩
        · simp at hg; subst hg; exact .inr rfl
      · rintro (⟨g, hg, rfl⟩ | rfl)
        · rcases List.mem_append.1 hg with hg | hg
          · exact ⟨g, by simp [hg], rfl⟩
          · simp at hg; subst hg; exact ⟨(g.1, x.2.1, x.2.2), by simp, hz.symm⟩
        · exact ⟨(z.1, x.2.1, x.2.2), by simp, rfl⟩
    · constructor
      · rintro ⟨g, hg, rfl⟩
        rw [show Q ++ [z, x] = (Q ++ [z]) ++ [x] by simp] at hg
        rcases List.mem_append.1 hg with hg | hg
        · exact .inl ⟨g, hg, rfl⟩
        · simp at hg; subst hg; exact .inr rfl
      · rintro (⟨g, hg, rfl⟩ | rfl)
        · exact ⟨g, by rw [show Q ++ [z, x] = (Q ++ [z]) ++ [x] by simp]; exact List.mem_append_left _ hg, rfl⟩
        · exact ⟨x, by simp, rfl⟩
theorem rl_cls (c : Nat) : ∀ (n : Nat) (C : List Nat), C.length = n → ((∃ g ∈ rlA 0 [] C, g.2.2 = c) ↔ c ∈ C)
  | 0, C, h => by
    have : C = [] := List.length_eq_zero_iff.1 h
    subst this
    simp [rlA]
  | n + 1, C, h => by
    rcases List.eq_nil_or_concat C with rfl | ⟨D, d, rfl⟩
    · simp at h
    · rw [List.concat_eq_append] at h ⊢
      have ih := rl_cls c n D (by simpa using h)
      rw [rlA_snoc, jn_cls, ih]
      simp [eq_comm]
theorem clq_cls (r : Nat) : ∀ (L : List Tr) (b : Nat), Ris b L → (∀ c ∈ clq r b L, c = r ∨ ∃ g ∈ L, g.2.2 = c) ∧ (∀ g ∈ L, g.2.2 ∈ clq r b L)
  | [], _, _ => ⟨fun c hc => (by cases hc), fun g hg => (by cases hg)⟩
  | g :: L, b, h => by
    obtain ⟨h1, h2, h3, h4, h5⟩ := h
    obtain ⟨i1, i2⟩ := clq_cls r L _ h5
    refine ⟨fun c hc => ?_, fun x hx => ?_⟩
    · unfold clq at hc
      rcases List.mem_append.1 hc with hc | hc
      · exact .inl (List.eq_of_mem_replicate hc)
      · rcases List.mem_append.1 hc with hc | hc
        · exact .inr ⟨g, by simp, (List.eq_of_mem_replicate hc).symm⟩
        · rcases i1 c hc with rfl | ⟨y, hy, rfl⟩
          · exact .inl rfl
          · exact .inr ⟨y, by simp [hy], rfl⟩
    · unfold clq
      rcases List.mem_cons.1 hx with rfl | hx
      · exact List.mem_append_right _ (List.mem_append_left _ (List.mem_replicate.2 ⟨by omega, rfl⟩))
      · exact List.mem_append_right _ (List.mem_append_right _ (i2 x hx))
/-- All ranges of all numbers have classes below n just if those of L have. -/
theorem below_cls (r n : Nat) (L : List Tr) (h : Ris 0 L) (hr : r < n) : (∀ g ∈ rlA 0 [] (clA r L), g.2.2 < n) ↔ ∀ g ∈ L, g.2.2 < n := by
  obtain ⟨i1, i2⟩ := clq_cls r L 0 h
  constructor
  · intro hh g hg
    have h5 : g.2.2 ∈ clA r L := by unfold clA; exact List.mem_append_left _ (i2 g hg)
    obtain ⟨y, hy, he⟩ := (rl_cls g.2.2 _ (clA r L) rfl).2 h5
    have := hh y hy
    omega
  · intro hh g hg
    have h5 := (rl_cls g.2.2 _ (clA r L) rfl).1 ⟨g, hg, rfl⟩
    unfold clA at h5
    rcases List.mem_append.1 h5 with h5 | h5
    · rcases i1 _ h5 with h6 | ⟨y, hy, he⟩
      · omega
      · have := hh y hy; omega
    · have := List.eq_of_mem_replicate h5; omega
end Go.Proofs.Ytljlhlcoaajggaa
/- The contract of Map (package table). -/
namespace Go.Proofs.Ytljlhlcoaajggaa
open Go.RowKit

/-- What a list of numbers says of a class. -/
def fE (E : List Int) (c : Nat) : Nat := (E.getD c 0).toNat
/-- A map may be so: all are classes, and there is one for each class of the table. -/
def mok (r : Nat) (L : List Tr) (E : List Int) : Prop := acl E ∧ r < E.length ∧ ∀ g ∈ L, g.2.2 < E.length
theorem fE_at {E : List Int} (h : acl E) {c : Nat} (hc : c < E.length) : E[c]? = some ((fE E c : Nat) : Int) ∧ fE E c < 256 := by
  have h1 := h E[c] (List.getElem_mem hc)
  have h2 : 0 ≤ E[c] ∧ E[c] ≤ 255 := by unfold icl at h1; exact of_decide_eq_true h1
  have e : fE E c = E[c].toNat := by unfold fE; rw [List.getD, List.getElem?_eq_getElem hc]; rfl
  rw [e, List.getElem?_eq_getElem hc]
  exact ⟨by congr 1; omega, by omega⟩
theorem rks_mid (P R : List Tr) (z : Tr) (j : Nat) (hj : j < 3) : (rks (P ++ z :: R))[P.length * 3 + j]? = (rkc (rkT z))[j]? := by
  have hl : (rks P).length = P.length * 3 := by
    induction P with
    | nil => rfl
    | cons g P ih => show (rkc (rkT g) ++ rks P).length = _; rw [List.length_append, ih]; simp [rkc]; omega
  rw [rks_app, List.getElem?_append_right (by omega), hl, show P.length * 3 + j - P.length * 3 = j by omega]
  show (rkc (rkT z) ++ rks R)[j]? = _
  rw [List.getElem?_append_left (by simpa [rkc] using hj)]
theorem rks_mid_set (P R : List Tr) (z : Tr) (c : Nat) : (rks (P ++ z :: R)).set (P.length * 3 + 2) (.int .i64 (c : Int)) = rks (P ++ (z.1, z.2.1, c) :: R) := by
  have hl : (rks P).length = P.length * 3 := by
    induction P with
    | nil => rfl
    | cons g P ih => show (rkc (rkT g) ++ rks P).length = _; rw [List.length_append, ih]; simp [rkc]; omega
  rw [rks_app, rks_app, List.set_append_right _ _ (by omega), hl, show P.length * 3 + 2 - P.length * 3 = 2 by omega]
  rfl
/-- The ranges, the first k of them turned. -/
def wk (f : Nat → Nat) (W : List Tr) (k : Nat) : List Tr := (W.take k).map (mf f) ++ W.drop k

set_option maxHeartbeats 4000000 in
set_option maxRecDepth 100000 in
theorem tmap_any (B T r : Nat) (F : List (List Nat)) (L : List Tr) (ao : Option Addr) (ac : Nat) (E : List Int) (w : World) (h : TbAt B T F r w) (hF : F.flatten = clA r L) (hr : r < 256) (hR : Ris 0 L) (hE : RdJ w ao E) (hl : E.length ≤ 1000000) :
    Calls Try.prog 21 #[.pointer (some ⟨T, 0, none⟩), .slice ao E.length ac] w fun e w' => Below w.heap.size w w' ∧
      ((¬ mok r L E ∧ e = .returned (.tuple #[.pointer none, .int .i64 30])) ∨
       (mok r L E ∧ ∃ T' F', e = .returned (.tuple #[.pointer (some ⟨T', 0, none⟩), .int .i64 0]) ∧ w.heap.size ≤ T' ∧ F'.flatten = (clA r L).map (fE E) ∧ TbAt w.heap.size T' F' (fE E r) w')) := by
  have d1 := h.rest_cell
  have hTl : T < w.heap.size := World.block_lt_of_cell? w _ d1
  have HC := hid (contains_any ao ac E w hE (by omega))
  have HW := hid (whole_any B T r F w h)
  rw [hF] at HW
  have HEB := hid (show ∀ W, Below w.heap.size w W → RdJ W ao E from fun W hW => hE.below hW)
  have HTC := hid (show ∀ W, Below w.heap.size w W → W.cell? ⟨T, 8705, none⟩ = some (.int .u8 (r : Int)) from fun W hW => (hW.cell (p := ⟨T, 8705, none⟩) hTl).trans d1)
  have HBC := hid (fun (hlt : r < E.length) => below_cls r E.length L hR hlt)
  have hcl := clA_len r L hR
  have hc2 := clA_256 r L hr hR
  have HCR := hid (fun f => clA_rl (fE E r) f (clA r L) hcl hc2)
  have HRI := hid (rlA_ris 1114112 (clA r L) hcl (Nat.le_refl _) hc2).1
  obtain ⟨W0, hW0⟩ : ∃ W0, W0 = rlA 0 [] (clA r L) := ⟨_, rfl⟩
  rw [← hW0] at HW HBC HCR HRI
  have hwl := ris_len W0 0 (by omega) HRI.out
  obtain ⟨nW, hnW⟩ : ∃ nW, nW = W0.length := ⟨_, rfl⟩
  rw [← hnW] at HW hwl
  have HNW := hid hnW
  obtain ⟨n, hn⟩ : ∃ n, n = E.length := ⟨_, rfl⟩
  rw [← hn] at HC HBC hl ⊢
  have HN := hid hn
  obtain ⟨N, hNE⟩ : ∃ N, N = w.heap.size := ⟨_, rfl⟩
  rw [← hNE] at HW HEB HTC ⊢
  have HNE := hid hNE
  have HB00 := hid (show Below N w w by rw [hNE]; exact Below.refl _ _)
  have er : IntKind.i64.wrap (r : Int) = (r : Int) := by rw [IntKind.wrap_i64]; omega
  clear h hF hR hE hcl hc2 hW0 hnW hn hNE
  go_enter Try.func21, Try.ntmps21
  go_wp2_with fail
  refine HC.out.mono ?_
  rintro e w1 ⟨hw, d, rfl, hd⟩
  obtain rfl := hw.symm
  cases d with
  | true =>
    have HNO := hid (show ¬ mok r L E from fun hm => by have h5 := hd.2 hm.1; cases h5)
    clear hd
    go_wp2
    go_ret2
    exact ⟨HB00.out, .inl ⟨HNO.out, rfl⟩⟩
  | false =>
    have HAC := hid (hd.1 rfl)
    clear hd
    by_cases hrn : n ≤ r
    · have hrn' : (n : Int) ≤ (r : Int) := by omega
      have HNO := hid (show ¬ mok r L E from fun hm => by have h5 := hm.2.1; have h6 := HN.out; omega)
      go_wp2
      go_ret2
      exact ⟨HB00.out, .inl ⟨HNO.out, rfl⟩⟩
    · have hrn' : ¬ (n : Int) ≤ (r : Int) := by omega
      have hrn2 : r < n := by omega
      have HBL := hid (HBC.out hrn2)
      go_wp2_with fail
      refine HW.out.mono ?_
      rintro e w1 ⟨v1, rfl, o1, b1⟩
      obtain ⟨vo, vc, rfl⟩ := own_form o1
      have HO1 := hid (show w1.ownsRow N 36 3 (.slice vo nW vc) nW (rks (wk (fE E) W0 0)) from o1)
      have HB1 := hid b1
      clear o1 b1 d1
      go_wp2
      go_loopw [27] (fun x wr => ∃ (k : Nat), x = .int .i64 (k : Int) ∧ k ≤ nW ∧ Hid (∀ g ∈ W0.take k, g.2.2 < n) ∧ Hid (wr.ownsRow N 36 3 (.slice vo nW vc) nW (rks (wk (fE E) W0 k))) ∧ Hid (Below N w wr)) (fun x _ => nW - (intOf x).toNat)
      case atStart => exact ⟨0, rfl, by omega, fun g hg => (by simp at hg), HO1, HB1⟩
      case round =>
        obtain ⟨k, rfl, hk, HCL, HO, HB⟩ := hrel
        have hwN : N ≤ wr.heap.size := by have h5 := HNE.out; have h6 := HB.out.size; omega
        by_cases hlt : k < nW
        · have hkW : k < W0.length := by have h5 := HNW.out; omega
          obtain ⟨q, cap', hve, hqB, hqw⟩ := HO.out.form (by omega)
          cases hve
          have hwk : wk (fE E) W0 k = (W0.take k).map (mf (fE E)) ++ W0[k] :: W0.drop (k + 1) := by unfold wk; rw [List.getElem_cons_drop]
          have hpl : ((W0.take k).map (mf (fE E))).length = k := by rw [List.length_map, List.length_take]; omega
          have cc : ∀ j v, j < 3 → (rkc (rkT W0[k]))[j]? = some v → wr.cell? ⟨q, k * 3 + j, none⟩ = some v := fun j v hj hv => by
            rw [HO.out.cellAt _ (by omega), hwk]
            have h5 := rks_mid ((W0.take k).map (mf (fE E))) (W0.drop (k + 1)) W0[k] j hj
            rw [hpl] at h5
            rw [h5]; exact hv
          have c0 := cc 0 _ (by omega) rfl
          have c1 := cc 1 _ (by omega) rfl
          have c2 := cc 2 _ (by omega) rfl
          have HSET := hid (show ∀ c : Nat, (rks (wk (fE E) W0 k)).set (k * 3 + 2) (.int .i64 (c : Int)) = rks ((W0.take k).map (mf (fE E)) ++ (W0[k].1, W0[k].2.1, c) :: W0.drop (k + 1)) from fun c => by
            rw [hwk]
            have h5 := rks_mid_set ((W0.take k).map (mf (fE E))) (W0.drop (k + 1)) W0[k] c
            rw [hpl] at h5
            exact h5)
          have HNX := hid (show wk (fE E) W0 (k + 1) = (W0.take k).map (mf (fE E)) ++ (W0[k].1, W0[k].2.1, fE E W0[k].2.2) :: W0.drop (k + 1) by
            unfold wk
            rw [List.take_succ_eq_append_getElem hkW, List.map_append, List.append_assoc]; rfl)
          have HTK := hid (List.take_succ_eq_append_getElem hkW)
          have HMW := hid (List.getElem_mem hkW)
          rw [Nat.add_zero] at c0
          obtain ⟨g, hg⟩ : ∃ g, g = W0[k] := ⟨_, rfl⟩
          rw [← hg] at c0 c1 c2 HSET HNX HTK HMW
          obtain ⟨lo, hh, cl⟩ := g
          have i3 : (k : Int) < (nW : Int) := by omega
          have i0 : (0 : Int) ≤ (k : Int) := by omega
          change wr.cell? ⟨q, k * 3, none⟩ = some (.int .i32 (lo : Int)) at c0
          change wr.cell? ⟨q, k * 3 + 1, none⟩ = some (.int .i32 (hh : Int)) at c1
          change wr.cell? ⟨q, k * 3 + 2, none⟩ = some (.int .i64 (cl : Int)) at c2
          dsimp only at HSET HNX
          clear hg hwk hpl cc hkW
          by_cases hcn : n ≤ cl
          · have hcn' : (n : Int) ≤ (cl : Int) := by omega
            have HNO := hid (show ¬ mok r L E from fun hm => by
              have h5 := (HBL.out.2 (by rw [HN.out]; exact hm.2.2)) _ HMW.out
              have h6 : cl < n := h5
              omega)
            have HB2 := hid (HB.out.alloc hwN (.cells #[.int .i32 (lo : Int), .int .i32 (hh : Int), .int .i64 (cl : Int)] 36))
            go_wp2
            go_ret2
            exact ⟨HB2.out, .inl ⟨HNO.out, rfl⟩⟩
          · have hcn' : ¬ (n : Int) ≤ (cl : Int) := by omega
            have hcn2 : (cl : Int) < (n : Int) := by omega
            have hcn0 : (0 : Int) ≤ (cl : Int) := by omega
            have HFE := hid (fE_at HAC.out (show cl < E.length by have h5 := HN.out; omega))
            obtain ⟨a, rfl, ha, a0⟩ := HEB.out wr HB.out cl _ HFE.out.1
            obtain ⟨y, hy⟩ : ∃ y, y = fE E cl := ⟨_, rfl⟩
            rw [← hy] at a0 HNX
            have HOA := hid ((HO.out.stored (k * 3 + 2) (.int .i64 (y : Int))).1.alloc (.cells #[.int .i32 (lo : Int), .int .i32 (hh : Int), .int .i64 (cl : Int)] 36))
            rw [HSET.out y, ← HNX.out] at HOA
            have HB2 := hid ((HB.out.setCell (p := ⟨q, k * 3 + 2, none⟩) hqB (.int .i64 (y : Int))).alloc (by rw [World.size_setCell]; exact hwN) (.cells #[.int .i32 (lo : Int), .int .i32 (hh : Int), .int .i64 (cl : Int)] 36))
            have a1 : (wr.alloc (.cells #[.int .i32 (lo : Int), .int .i32 (hh : Int), .int .i64 (cl : Int)] 36)).cell? (a.add cl) = some (.int .i64 (y : Int)) := (((Below.refl wr.heap.size wr).alloc (Nat.le_refl _) _).cell (p := a.add cl) (by rw [add_blk]; exact ha)).trans a0
            have fz : wr.frozen? ⟨q, k * 3 + 2, none⟩ = false := HO.out.frozenAt _
            have HCL2 := hid (show ∀ g ∈ W0.take (k + 1), g.2.2 < n from fun g hg => by
              rw [HTK.out] at hg
              rcases List.mem_append.1 hg with hg | hg
              · exact HCL.out g hg
              · simp at hg; subst hg; show cl < n; omega)
            clear hy
            go_wp2
            go_roundw
            case rel => exact ⟨k + 1, by go_num, by omega, HCL2, HOA, HB2⟩
            case measure => simp [intOf]; omega
        · have i3 : ¬ (k : Int) < (nW : Int) := by omega
          have hkn : W0.take k = W0 := List.take_of_length_le (by have h5 := HNW.out; omega)
          have hkd : W0.drop k = [] := List.drop_of_length_le (by have h5 := HNW.out; omega)
          have HMK := hid (show mok r L E from ⟨HAC.out, by have h5 := HN.out; omega, by
            have h5 := HCL.out
            rw [hkn] at h5
            rw [← HN.out]
            exact HBL.out.1 h5⟩)
          have ho := HO.out
          unfold wk at ho
          rw [hkn, hkd, List.append_nil] at ho
          have hfl : ∀ g ∈ W0, fE E g.2.2 < 256 := fun g hg => (fE_at HAC.out (by
            have h5 := HCL.out
            rw [hkn] at h5
            have h6 := h5 g hg
            have h7 := HN.out
            omega)).2
          obtain ⟨e1, e2⟩ := fE_at HAC.out (show r < E.length by have h5 := HN.out; omega)
          obtain ⟨a, rfl, ha, a0⟩ := HEB.out wr HB.out r _ e1
          have t0 := HTC.out wr HB.out
          have HMD := hid (made_any vo vc (W0.map (mf (fE E))) (fE E r) wr (by
            have h5 := ho
            rw [HNW.out, ← List.length_map (f := mf (fE E))] at h5
            exact rd_own h5) (by rw [List.length_map]; have h5 := HNW.out; omega) e2 (ris_map (fE E) W0 0 HRI.out hfl))
          rw [List.length_map, ← HNW.out, HCR.out] at HMD
          have r1 : (r : Int) < (n : Int) := by omega
          have r0 : (0 : Int) ≤ (r : Int) := by omega
          obtain ⟨y, hy⟩ : ∃ y, y = fE E r := ⟨_, rfl⟩
          rw [← hy] at a0 HMD
          have HYE := hid hy
          have HLM := hid (show ((clA r L).map (fE E)).length = 1114112 by rw [← HCR.out]; exact clA_len _ _ (ris_map (fE E) W0 0 HRI.out hfl))
          clear hkn hkd ho hfl e1 e2 hy
          go_wp2_with fail
          refine HMD.out.mono ?_
          rintro e w2 ⟨rfl, ⟨bv, hmk⟩, b2⟩
          obtain ⟨F', hF', hT'⟩ := tb_of_mk hmk HLM.out
          have HB2 := hid (HB.out.trans (b2.mono hwN))
          have HT2 := hid (show TbAt N wr.heap.size F' (fE E r) w2 by have h5 := hT'.mono hwN; rw [HYE.out] at h5; exact h5)
          have HF2 := hid hF'
          clear hmk b2 hF' hT' HMD
          go_wp2
          go_ret2
          exact ⟨HB2.out, .inr ⟨HMK.out, _, F', rfl, hwN, HF2.out, HT2.out⟩⟩
end Go.Proofs.Ytljlhlcoaajggaa
/- The contract of (*Table).All (package kerfref03). -/
namespace Go.Proofs.Ytljlhlcoaajggaa
open Go.RowKit

/-- Ranges, and those of the rest between them. -/
def alP (r : Nat) : Nat → List Tr → List Tr
  | _, [] => []
  | b, g :: A => (if b < g.1 then [(b, g.1 - 1, r)] else []) ++ g :: alP r (g.2.1 + 1) A
theorem endR_cons (b : Nat) (x : Tr) (P : List Tr) : endR b (x :: P) = endR (x.2.1 + 1) P := by
  unfold endR
  rw [List.getLast?_cons]
  cases P.getLast? <;> rfl
theorem alP_snoc (r : Nat) : ∀ (P : List Tr) (b : Nat) (g : Tr), alP r b (P ++ [g]) = alP r b P ++ (if endR b P < g.1 then [(endR b P, g.1 - 1, r)] else []) ++ [g]
  | [], b, g => rfl
  | x :: P, b, g => by
    have ih := alP_snoc r P (x.2.1 + 1) g
    show (if b < x.1 then [(b, x.1 - 1, r)] else []) ++ x :: alP r (x.2.1 + 1) (P ++ [g]) = _
    rw [ih, endR_cons]
    simp [alP]
theorem alP_len (r : Nat) : ∀ (P : List Tr) (b : Nat), (alP r b P).length ≤ 2 * P.length
  | [], _ => by simp [alP]
  | x :: P, b => by
    have ih := alP_len r P (x.2.1 + 1)
    show ((if b < x.1 then [(b, x.1 - 1, r)] else []) ++ x :: alP r (x.2.1 + 1) P).length ≤ _
    rw [List.length_append, List.length_cons, List.length_cons]
    split <;> simp <;> omega
/-- The ranges of all numbers. -/
def alA (r : Nat) (L : List Tr) : List Tr := alP r 0 L ++ (if endR 0 L ≤ 1114111 then [(endR 0 L, 1114111, r)] else [])

set_option maxHeartbeats 6000000 in
set_option maxRecDepth 100000 in
theorem rall_any (B' P : Nat) (L : List Tr) (r : Nat) (w : World) (h : RtAt B' P L r w) (hl : L.length ≤ 1000000) (hR : Ris 0 L) :
    Calls Try.prog 44 #[.pointer (some ⟨P, 0, none⟩)] w fun e w' => ∃ v', e = .returned v' ∧ w'.ownsRow w.heap.size 36 3 v' (alA r L).length (rks (alA r L)) ∧ Below w.heap.size w w' := by
  obtain ⟨i0, hi36, hz0, hz1, hz2⟩ := info_parts Try.info36
  obtain ⟨ao, ac, d0, d1, hP, ho⟩ := h.row
  have HA := hid (rd_own ho)
  have HR := hid hR
  obtain ⟨n, hn⟩ : ∃ n, n = L.length := ⟨_, rfl⟩
  rw [← hn] at hl d0
  have HN := hid hn
  obtain ⟨B, hB⟩ : ∃ B, B = w.heap.size := ⟨_, rfl⟩
  have HBE := hid hB
  rw [← hB] at hP ⊢
  have HPC := hid (show ∀ W, Below B w W → W.cell? ⟨P, 0, none⟩ = some (.slice ao n ac) ∧ W.cell? ⟨P, 1, none⟩ = some (.int .i64 (r : Int)) from fun W hW => ⟨(hW.cell (p := ⟨P, 0, none⟩) hP).trans d0, (hW.cell (p := ⟨P, 1, none⟩) hP).trans d1⟩)
  clear h ho hn hB hR d0 d1
  go_enter Try.func44, Try.ntmps44
  go_wp2
  go_loopw [5, 3, 4] (fun x y z wr => ∃ (i m : Nat) (vo : Option Addr) (vc nx : Nat), x = .int .i64 (i : Int) ∧ y = .slice vo m vc ∧ z = .int .i32 (nx : Int) ∧ i ≤ n ∧ nx ≤ 1114112 ∧ Hid (nx = endR 0 (L.take i)) ∧ Hid (m = (alP r 0 (L.take i)).length) ∧ Hid (wr.ownsRow B 36 3 (.slice vo m vc) m (rks (alP r 0 (L.take i)))) ∧ Hid (Below B w wr)) (fun x _ _ _ => n - (intOf x).toNat)
  case atStart => exact ⟨0, 0, none, 0, 0, rfl, rfl, rfl, by omega, by omega, rfl, rfl, World.ownsRow_nil w B 36 3, Below.refl _ _⟩
  case round =>
    obtain ⟨i, m, vo, vc, nx, rfl, rfl, rfl, hi, hnx, HNX, HM, HO, HB⟩ := hrel
    have hwB : B ≤ wr.heap.size := by have h5 := HBE.out; have h6 := HB.out.size; omega
    have hml : m ≤ 2000000 := by
      have h5 := alP_len r (L.take i) 0
      rw [List.length_take] at h5
      have h6 := HM.out
      omega
    by_cases hlt : i < n
    · have hiA : i < L.length := by have h5 := HN.out; omega
      have HAC := hid (show ∀ W, Below B w W → ∃ a : Addr, ao = some a ∧ W.cell? (a.add (i * 3)) = some (.int .i32 (L[i].1 : Int)) ∧ W.cell? ⟨(a.add (i * 3)).block, (a.add (i * 3)).off + 1, none⟩ = some (.int .i32 (L[i].2.1 : Int)) ∧ W.cell? ⟨(a.add (i * 3)).block, (a.add (i * 3)).off + 2, none⟩ = some (.int .i64 (L[i].2.2 : Int)) from fun W hW => by
        obtain ⟨a, e, _, c0, c1, c2⟩ := HA.out.below (show Below w.heap.size w W by have h5 := HBE.out; rw [← h5]; exact hW) i (rkT L[i]) (by rw [List.getElem?_map, List.getElem?_eq_getElem hiA]; rfl)
        exact ⟨a, e, c0, c1, c2⟩)
      have HSN := hid (show alP r 0 (L.take (i + 1)) = alP r 0 (L.take i) ++ (if endR 0 (L.take i) < L[i].1 then [(endR 0 (L.take i), L[i].1 - 1, r)] else []) ++ [L[i]] by rw [List.take_succ_eq_append_getElem hiA, alP_snoc])
      have HE3 := hid (show L[i].2.1 + 1 = endR 0 (L.take (i + 1)) by rw [List.take_succ_eq_append_getElem hiA, endR_snoc])
      rw [← HNX.out] at HSN
      obtain ⟨h1, h2, h3, h4⟩ := ris_mem HR.out L[i] (List.getElem_mem hiA)
      obtain ⟨g, hg⟩ : ∃ g, g = L[i] := ⟨_, rfl⟩
      rw [← hg] at HAC HSN HE3 h1 h2 h3 h4
      obtain ⟨o, hob⟩ : ∃ o, o = alP r 0 (L.take i) := ⟨_, rfl⟩
      rw [← hob] at HM HO HSN
      obtain ⟨g0, g1, g2⟩ := g
      dsimp only at HAC HSN HE3 h1 h2 h3 h4
      have i3 : (i : Int) < (n : Int) := by omega
      have i0' : (0 : Int) ≤ (i : Int) := by omega
      have k5 : IntKind.i32.wrap ((g1 : Int) + 1) = ((g1 + 1 : Nat) : Int) := by rw [IntKind.wrap_i32]; omega
      clear hg hob hiA h1
      obtain ⟨a, rfl, c0, c1, c2⟩ := HAC.out wr HB.out
      obtain ⟨d0, d1⟩ := HPC.out wr HB.out
      by_cases hgt : nx < g0
      · obtain ⟨gm, hgm⟩ : ∃ gm, gm = g0 - 1 := ⟨_, rfl⟩
        have hgt' : (nx : Int) < (g0 : Int) := by omega
        rw [if_pos hgt, ← hgm] at HSN
        have k1 : IntKind.i32.wrap ((g0 : Int) - 1) = (gm : Int) := by rw [IntKind.wrap_i32]; omega
        have HML := hid (show m + 1 = (o ++ [(nx, gm, r)]).length by rw [List.length_append]; have h5 := HM.out; simp; omega)
        have HBD := hid (HB.out.trans (show Below B wr wr.drew from ⟨rfl, rfl, rfl, Nat.le_refl _, fun _ _ => rfl⟩))
        have HOD := hid (show wr.drew.ownsRow B 36 3 (.slice vo m vc) m (rks o) from HO.out)
        have HSS := hid (show wr.drew.cell? ⟨P, 0, none⟩ = some (.slice (some a) n ac) ∧ wr.drew.cell? ⟨P, 1, none⟩ = some (.int .i64 (r : Int)) ∧ wr.drew.cell? (a.add (i * 3)) = some (.int .i32 (g0 : Int)) from ⟨d0, d1, c0⟩)
        clear hgm
        go_wp2_with fail
        refine wp_region_noPanic ?_
        refine wp_region_holdG 16 (fun w' => w'.cell? ⟨P, 0, none⟩ = some (.slice (some a) n ac) ∧ w'.cell? ⟨P, 1, none⟩ = some (.int .i64 (r : Int)) ∧ w'.cell? (a.add (i * 3)) = some (.int .i32 (g0 : Int))) (fun _ => false) (by kernel_rfl) (by kernel_rfl) (by decide) (fun j hj => by cases hj) (by kernel_rfl) (fun _ _ _ _ _ h => h) ⟨d0, d1, c0⟩ ?_
        dsimp only [List.take, List.drop]
        iterate 5 (refine wpHold_step ?_ rfl (fun w' hS => ?_) ?_; (rotate_left; (obtain ⟨s1, s2, s3⟩ := hS; go_simp; with_reducible rfl); rotate_left))
        simp only [Act.put, List.setIfInBounds_toArray, List.set_cons_zero, List.set_cons_succ]
        iterate 5 (refine wpHold_step ?_ rfl (fun w' hS => ?_) ?_; (rotate_left; (obtain ⟨s1, s2, s3⟩ := hS; go_simp; with_reducible rfl); rotate_left))
        simp only [Act.put, List.setIfInBounds_toArray, List.set_cons_zero, List.set_cons_succ]
        iterate 6 (refine wpHold_step ?_ rfl (fun w' hS => ?_) ?_; (rotate_left; (obtain ⟨s1, s2, s3⟩ := hS; go_simp; with_reducible rfl); rotate_left))
        simp only [Act.put, List.setIfInBounds_toArray, List.set_cons_zero, List.set_cons_succ]
        show wpTailG _ _ _ _ _ _ _ _ _
        obtain ⟨W, hW⟩ : ∃ W, W = wr.drew := ⟨_, rfl⟩
        rw [← hW] at HBD HOD HSS ⊢
        clear hW c0 c1 c2 d0 d1 HO HB
        have hwD : B ≤ W.heap.size := by have h5 := HBE.out; have h6 := HBD.out.size; omega
        refine tailG_yes (by kernel_rfl) fun KK hKK => ?_
        go_simp
        have HBA := hid (HBD.out.alloc hwD (.cells #[.int .i32 (nx : Int), .int .i32 (gm : Int), .int .i64 (r : Int)] 36))
        have HSK := hid (show ∀ V, Below B w V → (V.cell? ⟨P, 0, none⟩ = some (.slice (some a) n ac) ∧ V.cell? ⟨P, 1, none⟩ = some (.int .i64 (r : Int)) ∧ V.cell? (a.add (i * 3)) = some (.int .i32 (g0 : Int))) from fun V hV => by
          obtain ⟨x0, x1⟩ := HPC.out V hV
          obtain ⟨a', ea, y0, _⟩ := HAC.out V hV
          cases ea
          exact ⟨x0, x1, y0⟩)
        refine hKK _ _ (fun _ => HSK.out _ HBA.out) ?_
        clear hKK KK
        try simp only [Act.put, List.setIfInBounds_toArray, List.set_cons_zero, List.set_cons_succ]
        refine tailG_yes (by kernel_rfl) fun KK hKK => ?_
        refine wp_append_lies _ _ _ 25 rfl B 36 i0 (.agg #[.int .i32 0, .int .i32 0, .int .i64 0]) 3 16 Try.underlying25 hi36 hz0 hz1 hz2 rfl (by decide) _ m (rks o) rfl (HOD.out.alloc _) ⟨W.heap.size, 0, none⟩ 1 1 (rkc ((nx : Int), (gm : Int), (r : Int))) rfl rfl (news_k W ((nx : Int), (gm : Int), (r : Int)) 36) (rkc_one _) (by decide) (by unfold maxLen; omega) (by omega) (by simp; omega) (W.heap.size + 1) (by simp) ?_
        intro q2 cc2 w2 o2 gr2 hl2 hlt2
        have HB2 := hid (HBA.out.grown gr2 (by simp; omega) (fun k hk => (HOD.out.lt k hk).1))
        have HO2 := hid (show w2.ownsRow B 36 3 (.slice (some ⟨q2, 0, none⟩) (m + 1) cc2) (m + 1) (rks (o ++ [(nx, gm, r)])) by rw [show rks (o ++ [(nx, gm, r)]) = rks o ++ rkc ((nx : Int), (gm : Int), (r : Int)) by simp [rks, rkT]]; exact o2)
        refine hKK _ _ (fun _ => HSK.out _ HB2.out) ?_
        clear hKK KK o2 gr2 hl2 hlt2
        try simp only [Act.put, List.setIfInBounds_toArray, List.set_cons_zero, List.set_cons_succ]
        refine tailG_yes (by kernel_rfl) fun KK hKK => ?_
        go_simp
        refine hKK _ _ (fun _ => HSK.out _ HB2.out) ?_
        clear hKK KK
        try simp only [Act.put, List.setIfInBounds_toArray, List.set_cons_zero, List.set_cons_succ]
        refine tailG_nil (NoPanic.normal ?_)
        clear HBA HBD HOD HSS HSK
        obtain ⟨f0, f1⟩ := HPC.out w2 HB2.out
        obtain ⟨a', ea, c0, c1, c2⟩ := HAC.out w2 HB2.out
        cases ea
        have hwW : B ≤ w2.heap.size := by have h5 := HBE.out; have h6 := HB2.out.size; omega
        go_wp2_with (at_builtin; refine wpList_append_lies _ rfl _ _ 25 rfl B 36 i0 (.agg #[.int .i32 0, .int .i32 0, .int .i64 0]) 3 16 Try.underlying25 hi36 hz0 hz1 hz2 rfl (by decide) _ (m + 1) (rks (o ++ [(nx, gm, r)])) rfl (HO2.out.alloc _) ⟨w2.heap.size, 0, none⟩ 1 1 (rkc ((g0 : Int), (g1 : Int), (g2 : Int))) rfl rfl (news_k w2 ((g0 : Int), (g1 : Int), (g2 : Int)) 36) (rkc_one _) (by decide) (by unfold maxLen; omega) (by omega) (by simp; omega) (w2.heap.size + 1) (by simp) ?_; intro q3 c3 w3 o3 gr3 hl3 hlt3; have HB3 := hid ((HB2.out.alloc hwW (.cells #[.int .i32 (g0 : Int), .int .i32 (g1 : Int), .int .i64 (g2 : Int)] 36)).grown gr3 (by simp; omega) (fun k hk => (HO2.out.lt k hk).1)); have HO3 := hid (show w3.ownsRow B 36 3 (.slice (some ⟨q3, 0, none⟩) ((m + 1) + 1) c3) ((m + 1) + 1) (rks (alP r 0 (L.take (i + 1)))) by rw [HSN.out, show rks ((o ++ [(nx, gm, r)]) ++ [(g0, g1, g2)]) = rks (o ++ [(nx, gm, r)]) ++ rkc ((g0 : Int), (g1 : Int), (g2 : Int)) by simp [rks, rkT]]; exact o3); have HM3 := hid (show (m + 1) + 1 = (alP r 0 (L.take (i + 1))).length by rw [HSN.out, List.length_append, ← HML.out]; rfl); clear o3 gr3 hl3 hlt3 f0 f1 c0 c1 c2; obtain ⟨f0, f1⟩ := HPC.out w3 HB3.out; obtain ⟨a', ea, c0, c1, c2⟩ := HAC.out w3 HB3.out; cases ea)
        go_roundw
        case rel => exact ⟨i + 1, (m + 1) + 1, some ⟨q3, 0, none⟩, c3, g1 + 1, by go_num, rfl, rfl, by omega, by omega, HE3, HM3, HO3, HB3⟩
        case measure => simp [intOf]; omega
      · have hgt' : ¬ (nx : Int) < (g0 : Int) := by omega
        rw [if_neg hgt, List.append_nil] at HSN
        have HML := hid (show m = o.length from HM.out)
        clear c0 c1 c2 d0 d1
        obtain ⟨f0, f1⟩ := HPC.out wr HB.out
        obtain ⟨a', ea, c0, c1, c2⟩ := HAC.out wr HB.out
        cases ea
        have hwW : B ≤ wr.heap.size := by have h5 := HBE.out; have h6 := HB.out.size; omega
        go_wp2_with (at_builtin; refine wpList_append_lies _ rfl _ _ 25 rfl B 36 i0 (.agg #[.int .i32 0, .int .i32 0, .int .i64 0]) 3 16 Try.underlying25 hi36 hz0 hz1 hz2 rfl (by decide) _ m (rks (o)) rfl (HO.out.alloc _) ⟨wr.heap.size, 0, none⟩ 1 1 (rkc ((g0 : Int), (g1 : Int), (g2 : Int))) rfl rfl (news_k wr ((g0 : Int), (g1 : Int), (g2 : Int)) 36) (rkc_one _) (by decide) (by unfold maxLen; omega) (by omega) (by simp; omega) (wr.heap.size + 1) (by simp) ?_; intro q3 c3 w3 o3 gr3 hl3 hlt3; have HB3 := hid ((HB.out.alloc hwW (.cells #[.int .i32 (g0 : Int), .int .i32 (g1 : Int), .int .i64 (g2 : Int)] 36)).grown gr3 (by simp; omega) (fun k hk => (HO.out.lt k hk).1)); have HO3 := hid (show w3.ownsRow B 36 3 (.slice (some ⟨q3, 0, none⟩) (m + 1) c3) (m + 1) (rks (alP r 0 (L.take (i + 1)))) by rw [HSN.out, show rks ((o) ++ [(g0, g1, g2)]) = rks (o) ++ rkc ((g0 : Int), (g1 : Int), (g2 : Int)) by simp [rks, rkT]]; exact o3); have HM3 := hid (show m + 1 = (alP r 0 (L.take (i + 1))).length by rw [HSN.out, List.length_append, ← HML.out]; rfl); clear o3 gr3 hl3 hlt3 f0 f1 c0 c1 c2; obtain ⟨f0, f1⟩ := HPC.out w3 HB3.out; obtain ⟨a', ea, c0, c1, c2⟩ := HAC.out w3 HB3.out; cases ea)
        go_roundw
        case rel => exact ⟨i + 1, m + 1, some ⟨q3, 0, none⟩, c3, g1 + 1, by go_num, rfl, rfl, by omega, by omega, HE3, HM3, HO3, HB3⟩
        case measure => simp [intOf]; omega
    · have i3 : ¬ (i : Int) < (n : Int) := by omega
      have htk : L.take i = L := List.take_of_length_le (by have h5 := HN.out; omega)
      rw [htk] at HNX HM HO
      clear htk
      obtain ⟨d0, d1⟩ := HPC.out wr HB.out
      obtain ⟨o, hob⟩ : ∃ o, o = alP r 0 L := ⟨_, rfl⟩
      have HAL := hid (show alA r L = o ++ (if nx ≤ 1114111 then [(nx, 1114111, r)] else []) by unfold alA; rw [hob, ← HNX.out])
      rw [← hob] at HM HO
      clear hob
      by_cases hq : nx ≤ 1114111
      · have hq' : (nx : Int) ≤ 1114111 := by omega
        rw [if_pos hq] at HAL
        go_wp2_with (at_builtin; refine wpList_append_lies _ rfl _ _ 25 rfl B 36 i0 (.agg #[.int .i32 0, .int .i32 0, .int .i64 0]) 3 16 Try.underlying25 hi36 hz0 hz1 hz2 rfl (by decide) _ m (rks o) rfl (HO.out.alloc _) ⟨wr.heap.size, 0, none⟩ 1 1 (rkc ((nx : Int), (1114111 : Int), (r : Int))) rfl rfl (news_k wr ((nx : Int), (1114111 : Int), (r : Int)) 36) (rkc_one _) (by decide) (by unfold maxLen; omega) (by omega) (by simp; omega) (wr.heap.size + 1) (by simp) ?_; intro q3 c3 w3 o3 gr3 hl3 hlt3; have HB3 := hid ((HB.out.alloc hwB (.cells #[.int .i32 (nx : Int), .int .i32 (1114111 : Int), .int .i64 (r : Int)] 36)).grown gr3 (by simp; omega) (fun k hk => (HO.out.lt k hk).1)); have HO3 := hid (show w3.ownsRow B 36 3 (.slice (some ⟨q3, 0, none⟩) (m + 1) c3) (m + 1) (rks (alA r L)) by rw [HAL.out, show rks (o ++ [(nx, 1114111, r)]) = rks o ++ rkc ((nx : Int), (1114111 : Int), (r : Int)) by simp [rks, rkT]]; exact o3); have HM3 := hid (show m + 1 = (alA r L).length by rw [HAL.out, List.length_append, ← HM.out]; rfl); clear o3 gr3 hl3 hlt3)
        go_ret
        exact ⟨_, rfl, by rw [← HM3.out]; exact HO3.out, HB3.out⟩
      · have hq' : ¬ (nx : Int) ≤ 1114111 := by omega
        rw [if_neg hq, List.append_nil] at HAL
        go_wp2
        go_ret
        exact ⟨_, rfl, by rw [HAL.out, ← HM.out]; exact HO.out, HB.out⟩
end Go.Proofs.Ytljlhlcoaajggaa
/- The contract of Map (package kerfref03). -/
namespace Go.Proofs.Ytljlhlcoaajggaa
open Go.RowKit

set_option maxHeartbeats 6000000 in
set_option maxRecDepth 100000 in
theorem rmap_any (B' P r : Nat) (L : List Tr) (ao : Option Addr) (ac : Nat) (E : List Int) (w : World) (h : RtAt B' P L r w) (hr : r < 256) (hR : Ris 0 L) (hE : RdJ w ao E) (hl : E.length ≤ 1000000) (hL : L.length ≤ 1000000) :
    Calls Try.prog 22 #[.pointer (some ⟨P, 0, none⟩), .slice ao E.length ac] w fun e w' => Below w.heap.size w w' ∧
      ((¬ mok r L E ∧ e = .returned (.tuple #[.pointer none, .int .i64 30])) ∨
       (mok r L E ∧ ∃ P', e = .returned (.tuple #[.pointer (some ⟨P', 0, none⟩), .int .i64 0]) ∧ w.heap.size ≤ P' ∧ RtAt w.heap.size P' (nrA (fE E r) [] (L.map (mf (fE E)))) (fE E r) w')) := by
  obtain ⟨i0, hi36, hz0, hz1, hz2⟩ := info_parts Try.info36
  obtain ⟨bo', bc, d0, d1, hPs, ho⟩ := h.row
  obtain ⟨N, hNE⟩ : ∃ N, N = w.heap.size := ⟨_, rfl⟩
  have hlen := ris_len L 0 (by omega) hR
  obtain ⟨nL, hnL⟩ : ∃ nL, nL = L.length := ⟨_, rfl⟩
  rw [← hnL] at d0 hlen hL
  have HNL := hid hnL
  have HPC := hid (show ∀ W, Below N w W → W.cell? ⟨P, 0, none⟩ = some (.slice bo' nL bc) ∧ W.cell? ⟨P, 1, none⟩ = some (.int .i64 (r : Int)) from fun W hW => ⟨(hW.cell (p := ⟨P, 0, none⟩) (by rw [hNE]; exact hPs)).trans d0, (hW.cell (p := ⟨P, 1, none⟩) (by rw [hNE]; exact hPs)).trans d1⟩)
  have HRK := hid (show ∀ W, Below N w W → RdK W bo' (L.map rkT) from fun W hW => (rd_own ho).below (by rw [← hNE]; exact hW))
  have HEB := hid (show ∀ W, Below N w W → RdJ W ao E from fun W hW => hE.below (by rw [← hNE]; exact hW))
  have HR := hid hR
  obtain ⟨n, hn⟩ : ∃ n, n = E.length := ⟨_, rfl⟩
  rw [← hn] at hl ⊢
  have HN := hid hn
  rw [← hNE]
  have HNE := hid hNE
  have HB00 := hid (show Below N w w by rw [hNE]; exact Below.refl _ _)
  clear h hR hE hn hNE hnL ho d0 d1 hPs
  go_enter Try.func22, Try.ntmps22
  go_wp2
  go_loopw [6] (fun x wr => ∃ (i : Nat), x = .int .i64 (i : Int) ∧ i ≤ n ∧ Hid (acl (E.take i)) ∧ Hid (wr = w)) (fun x _ => n - (intOf x).toNat)
  case atStart => exact ⟨0, rfl, by omega, fun x hx => (by simp at hx), rfl⟩
  case round =>
    obtain ⟨i, rfl, hi, HK, HWW⟩ := hrel
    obtain rfl := HWW.out.symm
    by_cases hlt : i < n
    · have hiE : i < E.length := by have h5 := HN.out; omega
      obtain ⟨a, rfl, ha, a0⟩ := HEB.out w HB00.out i E[i] (List.getElem?_eq_getElem hiE)
      have HTK := hid (List.take_succ_eq_append_getElem hiE)
      have HME := hid (List.getElem_mem hiE)
      obtain ⟨z, hz⟩ : ∃ z, z = E[i] := ⟨_, rfl⟩
      rw [← hz] at a0 HTK HME
      have i3 : (i : Int) < (n : Int) := by omega
      have i0' : (0 : Int) ≤ (i : Int) := by omega
      have HMF := hid (rclass_any z w)
      clear hz hiE
      cases hc : icl z with
      | false =>
        rw [hc] at HMF
        have HNO := hid (show ¬ mok r L E from fun h => by have h5 := h.1 z HME.out; rw [hc] at h5; cases h5)
        clear hc
        go_wp2_with fail
        refine HMF.out.mono ?_
        rintro e w2 ⟨rfl, hw⟩
        obtain rfl := hw.symm
        go_wp2
        go_ret2
        exact ⟨HB00.out, .inl ⟨HNO.out, rfl⟩⟩
      | true =>
        rw [hc] at HMF
        have HK2 := hid (show acl (E.take (i + 1)) from fun x hx => by
          rw [HTK.out] at hx
          rcases List.mem_append.1 hx with hx | hx
          · exact HK.out x hx
          · simp at hx; subst hx; exact hc)
        clear hc
        go_wp2_with fail
        refine HMF.out.mono ?_
        rintro e w2 ⟨rfl, hw⟩
        obtain rfl := hw.symm
        go_wp2
        go_roundw
        case rel => exact ⟨i + 1, by go_num, by omega, HK2, by first | exact (trivial : True) | rfl⟩
        case measure => simp [intOf]; omega
    · have i3 : ¬ (i : Int) < (n : Int) := by omega
      have HAC := hid (show acl E by
        have h5 := HK.out
        rw [List.take_of_length_le (by have h5 := HN.out; omega)] at h5
        exact h5)
      obtain ⟨d0, d1⟩ := HPC.out w HB00.out
      by_cases hrn : n ≤ r
      · have hrn' : (n : Int) ≤ (r : Int) := by omega
        have HNO := hid (show ¬ mok r L E from fun hm => by have h5 := hm.2.1; have h6 := HN.out; omega)
        go_wp2
        go_ret2
        exact ⟨HB00.out, .inl ⟨HNO.out, rfl⟩⟩
      · have hrn' : ¬ (n : Int) ≤ (r : Int) := by omega
        have hrn2 : r < n := by omega
        have hrn3 : (r : Int) < (n : Int) := by omega
        have hr0 : (0 : Int) ≤ (r : Int) := by omega
        have HFR := hid (fE_at HAC.out (show r < E.length by have h5 := HN.out; omega))
        clear d0 d1
        have h0 := HPC.out w HB00.out
        have d1 := h0.2
        clear h0
        go_wp2
        go_loopw [8, 7] (fun x y wr => ∃ (k : Nat) (vo : Option Addr) (vc : Nat), x = .int .i64 (k : Int) ∧ y = .slice vo k vc ∧ k ≤ nL ∧ Hid (∀ g ∈ L.take k, g.2.2 < n) ∧ Hid (wr.ownsRow N 36 3 (.slice vo k vc) k (rks ((L.take k).map (mf (fE E))))) ∧ Hid (Below N w wr)) (fun x _ _ => nL - (intOf x).toNat)
        case atStart => exact ⟨0, none, 0, rfl, rfl, by omega, fun g hg => (by simp at hg), World.ownsRow_nil w N 36 3, HB00⟩
        case round =>
          obtain ⟨k, vo, vc, rfl, rfl, hk, HCL, HO, HB⟩ := hrel
          have hwN : N ≤ wr.heap.size := by have h5 := HNE.out; have h6 := HB.out.size; omega
          clear d1
          obtain ⟨d0, d1⟩ := HPC.out wr HB.out
          by_cases hlt2 : k < nL
          · have hkL : k < L.length := by have h5 := HNL.out; omega
            obtain ⟨a, rfl, ha, c0, c1, c2⟩ := HRK.out wr HB.out k (rkT L[k]) (by rw [List.getElem?_map, List.getElem?_eq_getElem hkL]; rfl)
            have HTK := hid (List.take_succ_eq_append_getElem hkL)
            have HMW := hid (List.getElem_mem hkL)
            have HAB := hid (show ∀ W, Below N w W → W.cell? (a.add (k * 3)) = some (.int .i32 (L[k].1 : Int)) ∧ W.cell? ⟨(a.add (k * 3)).block, (a.add (k * 3)).off + 1, none⟩ = some (.int .i32 (L[k].2.1 : Int)) ∧ W.cell? ⟨(a.add (k * 3)).block, (a.add (k * 3)).off + 2, none⟩ = some (.int .i64 (L[k].2.2 : Int)) from fun W hW => by
              obtain ⟨a', ea, _, x0, x1, x2⟩ := HRK.out W hW k (rkT L[k]) (by rw [List.getElem?_map, List.getElem?_eq_getElem hkL]; rfl)
              cases ea
              exact ⟨x0, x1, x2⟩)
            unfold rkT at c0 c1 c2
            obtain ⟨g, hg⟩ : ∃ g, L[k] = g := ⟨_, rfl⟩
            rw [hg] at c0 c1 c2 HTK HMW HAB
            obtain ⟨lo, hh, cl⟩ := g
            dsimp only at c0 c1 c2 HAB
            have i3' : (k : Int) < (nL : Int) := by omega
            have i0' : (0 : Int) ≤ (k : Int) := by omega
            clear hg hkL
            by_cases hcn : n ≤ cl
            · have hcn' : (n : Int) ≤ (cl : Int) := by omega
              have HNO := hid (show ¬ mok r L E from fun hm => by
                have h5 : cl < E.length := hm.2.2 _ HMW.out
                have h6 := HN.out
                omega)
              go_wp2
              go_ret2
              exact ⟨HB.out, .inl ⟨HNO.out, rfl⟩⟩
            · have hcn' : ¬ (n : Int) ≤ (cl : Int) := by omega
              have hcn2 : (cl : Int) < (n : Int) := by omega
              have hcn0 : (0 : Int) ≤ (cl : Int) := by omega
              have HFE := hid (fE_at HAC.out (show cl < E.length by have h5 := HN.out; omega))
              obtain ⟨ae, rfl, hae, a0⟩ := HEB.out wr HB.out cl _ HFE.out.1
              have HEC := hid (show ∀ W, Below N w W → W.cell? (ae.add cl) = some (.int .i64 ((fE E cl : Nat) : Int)) from fun W hW => by
                obtain ⟨a', ea, _, x0⟩ := HEB.out W hW cl _ HFE.out.1
                cases ea
                exact x0)
              have HNX := hid (show (L.take (k + 1)).map (mf (fE E)) = (L.take k).map (mf (fE E)) ++ [(lo, hh, fE E cl)] by rw [HTK.out, List.map_append]; rfl)
              obtain ⟨y, hy⟩ : ∃ y, y = fE E cl := ⟨_, rfl⟩
              rw [← hy] at a0 HNX HEC
              have HCL2 := hid (show ∀ g ∈ L.take (k + 1), g.2.2 < n from fun g hg => by
                rw [HTK.out] at hg
                rcases List.mem_append.1 hg with hg | hg
                · exact HCL.out g hg
                · simp at hg; subst hg; show cl < n; omega)
              have HSK := hid (show ∀ V, Below N w V → (V.cell? ⟨P, 0, none⟩ = some (.slice (some a) nL bc) ∧ V.cell? (a.add (k * 3)) = some (.int .i32 (lo : Int)) ∧ V.cell? ⟨(a.add (k * 3)).block, (a.add (k * 3)).off + 1, none⟩ = some (.int .i32 (hh : Int)) ∧ V.cell? ⟨(a.add (k * 3)).block, (a.add (k * 3)).off + 2, none⟩ = some (.int .i64 (cl : Int)) ∧ V.cell? (ae.add cl) = some (.int .i64 (y : Int))) from fun V hV => by
                obtain ⟨x0, x1, x2⟩ := HAB.out V hV
                exact ⟨(HPC.out V hV).1, x0, x1, x2, HEC.out V hV⟩)
              have HBD := hid (HB.out.trans (show Below N wr wr.drew from ⟨rfl, rfl, rfl, Nat.le_refl _, fun _ _ => rfl⟩))
              have HOD := hid (show wr.drew.ownsRow N 36 3 (.slice vo k vc) k (rks ((L.take k).map (mf (fE E)))) from HO.out)
              clear hy
              go_wp2_with fail
              refine wp_region_noPanic ?_
              refine wp_region_holdG 29 (fun w' => w'.cell? ⟨P, 0, none⟩ = some (.slice (some a) nL bc) ∧ w'.cell? (a.add (k * 3)) = some (.int .i32 (lo : Int)) ∧ w'.cell? ⟨(a.add (k * 3)).block, (a.add (k * 3)).off + 1, none⟩ = some (.int .i32 (hh : Int)) ∧ w'.cell? ⟨(a.add (k * 3)).block, (a.add (k * 3)).off + 2, none⟩ = some (.int .i64 (cl : Int)) ∧ w'.cell? (ae.add cl) = some (.int .i64 (y : Int))) (fun _ => false) (by kernel_rfl) (by kernel_rfl) (by decide) (fun j hj => by cases hj) (by kernel_rfl) (fun _ _ _ _ _ h => h) (HSK.out _ HBD.out) ?_
              dsimp only [List.take, List.drop]
              iterate 5 (refine wpHold_step ?_ rfl (fun w' hS => ?_) ?_; (rotate_left; (obtain ⟨s1, s2, s3, s4, s5⟩ := hS; go_simp; with_reducible rfl); rotate_left))
              simp only [Act.put, List.setIfInBounds_toArray, List.set_cons_zero, List.set_cons_succ]
              iterate 6 (refine wpHold_step ?_ rfl (fun w' hS => ?_) ?_; (rotate_left; (obtain ⟨s1, s2, s3, s4, s5⟩ := hS; go_simp; with_reducible rfl); rotate_left))
              simp only [Act.put, List.setIfInBounds_toArray, List.set_cons_zero, List.set_cons_succ]
              iterate 6 (refine wpHold_step ?_ rfl (fun w' hS => ?_) ?_; (rotate_left; (obtain ⟨s1, s2, s3, s4, s5⟩ := hS; go_simp; with_reducible rfl); rotate_left))
              simp only [Act.put, List.setIfInBounds_toArray, List.set_cons_zero, List.set_cons_succ]
              iterate 6 (refine wpHold_step ?_ rfl (fun w' hS => ?_) ?_; (rotate_left; (obtain ⟨s1, s2, s3, s4, s5⟩ := hS; go_simp; with_reducible rfl); rotate_left))
              simp only [Act.put, List.setIfInBounds_toArray, List.set_cons_zero, List.set_cons_succ]
              iterate 6 (refine wpHold_step ?_ rfl (fun w' hS => ?_) ?_; (rotate_left; (obtain ⟨s1, s2, s3, s4, s5⟩ := hS; go_simp; with_reducible rfl); rotate_left))
              simp only [Act.put, List.setIfInBounds_toArray, List.set_cons_zero, List.set_cons_succ]
              show wpTailG _ _ _ _ _ _ _ _ _
              obtain ⟨W, hW⟩ : ∃ W, W = wr.drew := ⟨_, rfl⟩
              rw [← hW] at HBD HOD ⊢
              clear hW c0 c1 c2 d0 d1 a0 HO HB
              have hwD : N ≤ W.heap.size := by have h5 := HNE.out; have h6 := HBD.out.size; omega
              refine tailG_yes (by kernel_rfl) fun KK hKK => ?_
              go_simp
              have HBA := hid (HBD.out.alloc hwD (.cells #[.int .i32 (lo : Int), .int .i32 (hh : Int), .int .i64 (y : Int)] 36))
              refine hKK _ _ (fun _ => HSK.out _ HBA.out) ?_
              clear hKK KK
              try simp only [Act.put, List.setIfInBounds_toArray, List.set_cons_zero, List.set_cons_succ]
              refine tailG_yes (by kernel_rfl) fun KK hKK => ?_
              refine wp_append_lies _ _ _ 25 rfl N 36 i0 (.agg #[.int .i32 0, .int .i32 0, .int .i64 0]) 3 16 Try.underlying25 hi36 hz0 hz1 hz2 rfl (by decide) _ k (rks ((L.take k).map (mf (fE E)))) rfl (HOD.out.alloc _) ⟨W.heap.size, 0, none⟩ 1 1 (rkc ((lo : Int), (hh : Int), (y : Int))) rfl rfl (news_k W ((lo : Int), (hh : Int), (y : Int)) 36) (rkc_one _) (by decide) (by unfold maxLen; omega) (by omega) (by simp; omega) (W.heap.size + 1) (by simp) ?_
              intro q2 cc2 w2 o2 gr2 hl2 hlt2'
              have HB2 := hid (HBA.out.grown gr2 (by simp; omega) (fun k hk => (HOD.out.lt k hk).1))
              have HO2 := hid (show w2.ownsRow N 36 3 (.slice (some ⟨q2, 0, none⟩) (k + 1) cc2) (k + 1) (rks ((L.take (k + 1)).map (mf (fE E)))) by rw [HNX.out, show rks ((L.take k).map (mf (fE E)) ++ [(lo, hh, y)]) = rks ((L.take k).map (mf (fE E))) ++ rkc ((lo : Int), (hh : Int), (y : Int)) by simp [rks, rkT]]; exact o2)
              refine hKK _ _ (fun _ => HSK.out _ HB2.out) ?_
              clear hKK KK o2 gr2 hl2 hlt2'
              try simp only [Act.put, List.setIfInBounds_toArray, List.set_cons_zero, List.set_cons_succ]
              refine tailG_yes (by kernel_rfl) fun KK hKK => ?_
              go_simp
              refine hKK _ _ (fun _ => HSK.out _ HB2.out) ?_
              clear hKK KK
              try simp only [Act.put, List.setIfInBounds_toArray, List.set_cons_zero, List.set_cons_succ]
              refine tailG_nil (NoPanic.normal ?_)
              clear HBA HBD HOD HSK
              go_wp2
              go_roundw
              case rel => exact ⟨k + 1, some ⟨q2, 0, none⟩, cc2, by go_num, rfl, by omega, HCL2, HO2, HB2⟩
              case measure => simp [intOf]; omega
          · have i3' : ¬ (k : Int) < (nL : Int) := by omega
            have hkn : L.take k = L := List.take_of_length_le (by have h5 := HNL.out; omega)
            rw [hkn] at HCL HO
            have HMK := hid (show mok r L E from ⟨HAC.out, by have h5 := HN.out; omega, by rw [← HN.out]; exact HCL.out⟩)
            obtain ⟨ae, rfl, hae, a0⟩ := HEB.out wr HB.out r _ HFR.out.1
            have hml : k = (L.map (mf (fE E))).length := by rw [List.length_map]; have h5 := HNL.out; omega
            have hfl : ∀ g ∈ L, fE E g.2.2 < 256 := fun g hg => (fE_at HAC.out (by have h6 := HCL.out g hg; have h7 := HN.out; omega)).2
            have HNR := hid (normal_any vo vc (L.map (mf (fE E))) (fE E r) wr (by have h5 := HO.out; rw [hml] at h5; exact rd_own h5) (by rw [← hml]; omega) HFR.out.2 (ris_map (fE E) L 0 HR.out hfl))
            rw [← hml] at HNR
            obtain ⟨y, hy⟩ : ∃ y, y = fE E r := ⟨_, rfl⟩
            rw [← hy] at a0 HNR
            have HYE := hid hy
            obtain ⟨M, hM⟩ : ∃ M, M = nrA y [] (L.map (mf (fE E))) := ⟨_, rfl⟩
            rw [← hM] at HNR
            have HME := hid hM
            clear hkn hml hfl hy hM
            go_wp2_with fail
            refine HNR.out.mono ?_
            rintro e w2 ⟨v2, rfl, o2, b2⟩
            obtain ⟨vo2, vc2, rfl⟩ := own_form o2
            have HB2 := hid (HB.out.trans (b2.mono hwN))
            have hs2 : N ≤ w2.heap.size := by have h5 := HNE.out; have h6 := HB2.out.size; omega
            have HO2 := hid (own_mono o2 hwN)
            clear o2 b2 HNR
            have HB3 := hid (HB2.out.alloc hs2 (.cells #[.slice vo2 M.length vc2, .int .i64 (y : Int)] 74))
            have HRT := hid (show RtAt N w2.heap.size M y (w2.alloc (.cells #[.slice vo2 M.length vc2, .int .i64 (y : Int)] 74)) from ⟨_, heap_alloc_new w2 _, HO2.out.alloc _⟩)
            have HRV := hid (show ∀ (p : Nat) (V : World), RtAt N p M y V → RtAt N p (nrA (fE E r) [] (L.map (mf (fE E)))) (fE E r) V from fun p V h => by rw [HME.out, HYE.out] at h; exact h)
            go_wp2
            go_ret2
            exact ⟨HB3.out, .inr ⟨HMK.out, _, rfl, hs2, HRV.out _ _ HRT.out⟩⟩
end Go.Proofs.Ytljlhlcoaajggaa
/- The walk of TableMaps. -/
namespace Go.Proofs.Ytljlhlcoaajggaa
open Go.RowKit

set_option maxHeartbeats 2000000 in
set_option maxRecDepth 100000 in
theorem both2_any (ao : Option Addr) (ac : Nat) (l : List Rk) (r : Int) (w : World) (ha : RdK w ao l) (hna : ao = none → ac = 0) (hl : l.length ≤ 100000) :
    Calls Try.prog 20 #[.slice ao l.length ac, .int .i64 r] w fun e w' => Below w.heap.size w w' ∧
      ((bo l r ≠ none ∧ e = .returned (.tuple #[.pointer none, .pointer none, .bool false, .bool true])) ∨
       (bo l r = none ∧ ∃ T P F L, e = .returned (.tuple #[.pointer (some ⟨T, 0, none⟩), .pointer (some ⟨P, 0, none⟩), .bool true, .bool true]) ∧ Twin w.heap.size T P r.toNat F L w' ∧ L.length ≤ l.length)) := by
  have HA := hid ha
  have HO := hid (own_any ao ac l w ha hna (by omega))
  obtain ⟨n, hn⟩ : ∃ n, n = l.length := ⟨_, rfl⟩
  have HN := hid hn
  rw [← hn] at HO ⊢
  clear ha hn
  go_enter Try.func20, Try.ntmps20
  go_wp2_with fail
  refine HO.out.mono ?_
  rintro e w1 ⟨g1, p1, rfl, o1, b1⟩
  have HB1 := hid b1
  have HBU := hid (build_any (some ⟨g1, 0, none⟩) p1 l r w1 (rd_ownL o1) (by have h5 := HN.out; omega))
  rw [← HN.out] at HBU
  clear o1 b1 HO
  go_wp2_with fail
  refine HBU.out.mono ?_
  rintro e w2 ⟨b2, hc⟩
  have HB2 := hid (HB1.out.trans (b2.mono HB1.out.size))
  have hs1 := HB1.out.size
  have hs2 := HB2.out.size
  have HRB := hid (rbuild_any ao ac l r w2 (HA.out.below HB2.out) (by have h5 := HN.out; omega))
  rw [← HN.out] at HRB
  clear b2 HBU
  rcases hc with ⟨c, k, hc, rfl⟩ | ⟨hbo, T, F, rfl, hTs, hF, hsl, hTb⟩
  · have HC := hid hc
    clear hc
    go_wp2_with fail
    refine HRB.out.mono ?_
    rintro e w3 ⟨b3, hd⟩
    have HB3 := hid (HB2.out.trans (b3.mono hs2))
    clear b3 HRB
    rcases hd with ⟨c', k', hc', rfl⟩ | ⟨hbo, _⟩
    · rw [HC.out] at hc'
      cases hc'
      have HNO := hid (show bo l r ≠ none by rw [HC.out]; simp)
      go_wp2_with (first | (go_at_call 9; refine (num_any _ _).mono ?_; rintro e w9 ⟨rfl, h9⟩; obtain rfl := h9.symm) | fail)
      refine bodyPost_ret (results_tmp4 rfl _ _ _) rfl ?_
      exact ⟨HB3.out, .inl ⟨HNO.out, rfl⟩⟩
    · rw [HC.out] at hbo
      cases hbo
  · have HBO := hid hbo
    have HF := hid hF
    have HTb := hid hTb
    clear hbo hF hTb
    go_wp2_with fail
    refine HRB.out.mono ?_
    rintro e w3 ⟨b3, hd⟩
    have HB3 := hid (HB2.out.trans (b3.mono hs2))
    have HT3 := hid ((HTb.out.below b3).mono hs1)
    clear b3 HRB
    rcases hd with ⟨c', k', hc', rfl⟩ | ⟨hbo, P, rfl, hPs, hPt⟩
    · rw [HBO.out] at hc'
      cases hc'
    · have HPT := hid (hPt.mono hs2)
      clear hbo hPt
      go_wp2_with (first | (go_at_call 9; refine (num_any _ _).mono ?_; rintro e w9 ⟨rfl, h9⟩; obtain rfl := h9.symm) | fail)
      refine bodyPost_ret (results_tmp4 rfl _ _ _) rfl ?_
      obtain ⟨q1, q2, q3, q4⟩ := twin_of l r HBO.out
      exact ⟨HB3.out, .inr ⟨HBO.out, T, P, F, _, rfl, ⟨HT3.out, HPT.out, by rw [q3]; exact HF.out, q1, q2, q4⟩, by have h5 := nrA_len r.toNat (srt [] l) []; rw [srt_len] at h5; have h6 := HN.out; simp at h5; omega⟩⟩

theorem row_e3 (w : World) : (w.alloc (.cells #[] 3)).ownsRow w.heap.size 3 1 (.slice (some ⟨w.heap.size, 0, none⟩) 0 0) 0 [] :=
  ⟨by simp, .inr ⟨w.heap.size, 0, #[], rfl, Nat.le_refl _, heap_alloc_new w _, Nat.le_refl _, by simp [maxLen], by simp, by simp⟩⟩
def i64s (E : List Int) : List Value := E.map (Value.int .i64)
theorem i64s_one (E : List Int) : ∀ u ∈ i64s E, u.oneCell' = true := by
  intro u hu
  obtain ⟨c, _, rfl⟩ := List.mem_map.1 hu
  rfl
/-- append of numbers that came in, nil or not. -/
theorem wpList_append_ints {w : World} {ops : Array Oper} {rest : List Oper} {o : Oper} {a : Act} {Q : Exit → Act → World → Prop} (hgd : o.guard = none) (s x : Operand)
    (ho : o.op = .call { callee := .builtin .append, args := #[s, x], argTypes := #[41, 41] }) (base : Nat) (v : Value) (n : Nat) (xs : List Value) (hs : a.eval s = v) (hown : w.ownsRow base 3 1 v n xs)
    (ao : Option Addr) (cap m : Nat) (E : List Int) (hm : E.length = m) (hx : a.eval x = .slice ao m cap) (hcap : ao = none → cap = 0) (hE : RdJ w ao E)
    (h63 : n + m ≤ maxLen) (hbytes : (n + m) * 8 ≤ 140737488355328) (hbase : base ≤ w.heap.size)
    (h : ∀ v' w', w'.ownsRow base 3 1 v' (n + m) (xs ++ i64s E) → w.grownBy w' v.ownBlock → wpList Try.prog ops Q rest (a.put o.dst v') w') : wpList Try.prog ops Q (o :: rest) a w := by
  obtain ⟨i0, hi, hz0, hz1, hz2⟩ := info_parts Try.info3'
  subst hm
  cases ao with
  | none =>
    have hn : E = [] := by
      cases E with
      | nil => rfl
      | cons y ys => obtain ⟨a', h', _⟩ := hE 0 y rfl; cases h'
    subst hn
    rw [hcap rfl] at hx
    exact wpList_append_own_none hgd s x 41 ho base 3 i0 1 Try.underlying41 hi v n xs hs hown hx (h v w (by simpa [i64s] using hown) (World.grownBy.refl _ _))
  | some ad =>
    refine wpList_append_own w hgd s x 41 ho base 3 i0 (.int .i64 0) 1 8 Try.underlying41 hi hz0 hz1 hz2 rfl (by decide) v n xs hs hown ad E.length cap (i64s E) hx (by simp [i64s]) (fun j u hj => ?_) (i64s_one E) h63 hbytes hbase (fun v' w' a b _ => h v' w' a b)
    unfold i64s at hj
    rw [List.getElem?_map] at hj
    cases hk : E[j]? with
    | none => rw [hk] at hj; cases hj
    | some z =>
      rw [hk] at hj
      obtain ⟨a', h', _, h2⟩ := hE j z hk
      cases h'; cases hj
      exact h2
theorem rdj_own {B n cap : Nat} {ao : Option Addr} {E : List Int} {w : World} (h : w.ownsRow B 3 1 (.slice ao n cap) n (i64s E)) : RdJ w ao E := by
  intro k c hk
  have hn : E.length = n := by have := h.1; simp [i64s] at this; omega
  have hkl := (List.getElem?_eq_some_iff.1 hk).1
  rcases h.2 with ⟨h', h0⟩ | ⟨q, cap', cur, h', hb, hg, hnc, hcm, hcs, htk⟩
  · omega
  · simp only [Value.slice.injEq, true_and] at h'
    obtain ⟨rfl, rfl⟩ := h'
    refine ⟨_, rfl, (h.lt q rfl).2, ?_⟩
    rw [Addr.add_lit, Nat.zero_add, h.cellAt _ (by omega)]
    unfold i64s
    rw [List.getElem?_map, hk]; rfl
theorem twin_map (r : Nat) (L : List Tr) (E : List Int) (hR : Ris 0 L) (hm : mok r L E) : fE E r < 256 ∧ Ris 0 (nrA (fE E r) [] (L.map (mf (fE E)))) ∧ clA (fE E r) (nrA (fE E r) [] (L.map (mf (fE E)))) = (clA r L).map (fE E) ∧ rgs (fE E r) (clA (fE E r) (nrA (fE E r) [] (L.map (mf (fE E))))) = nrA (fE E r) [] (L.map (mf (fE E))) := by
  have h3 := (fE_at hm.1 hm.2.1).2
  have h4 := ris_map (fE E) L 0 hR (fun g hg => (fE_at hm.1 (hm.2.2 g hg)).2)
  have h5 := nrA_rgs (fE E r) h3 _ h4
  have h6 := clA_len (fE E r) _ h4
  have h7 := clA_256 (fE E r) _ h3 h4
  have h8 := clA_rgs (fE E r) _ h6 h7
  rw [h5]
  exact ⟨h3, rgs_ris _ _ h6 h7, h8.trans (clA_map r (fE E) L), by rw [h8]⟩

set_option maxHeartbeats 6000000 in
set_option maxRecDepth 100000 in
theorem maps_walk (ao to : Option Addr) (ac tc : Nat) (l : List Rk) (r : Int) (E : List Int) (w : World) (ha : RdK w ao l) (hna : ao = none → ac = 0) (hl0 : l.length ≤ 9223372036854775807) (hE : RdJ w to E) (hnt : to = none → tc = 0) (hE0 : E.length ≤ 9223372036854775807) :
    Calls Try.prog 5 #[.slice ao l.length ac, .int .i64 r, .slice to E.length tc] w fun e w' => e = .returned (.bool true) ∧ Below w.heap.size w w' := by
  have HA := hid ha
  have HE := hid hE
  obtain ⟨n, hn⟩ : ∃ n, n = l.length := ⟨_, rfl⟩
  obtain ⟨m, hm⟩ : ∃ m, m = E.length := ⟨_, rfl⟩
  have HN := hid hn
  have HM := hid hm
  rw [← hn] at hl0 ⊢
  rw [← hm] at hE0 ⊢
  clear ha hE
  by_cases c1 : 300 < n
  · have c1' : (300 : Int) < (n : Int) := by omega
    clear hn hm
    go_enter Try.func5, Try.ntmps5
    go_wp2_with fail
    refine (live_any _).mono ?_
    rintro e w1 ⟨rfl, b1⟩
    have HB1 := hid b1
    clear b1
    go_wp2
    go_ret
    exact ⟨rfl, HB1.out⟩
  by_cases c2 : 2000 < m
  · have c1' : ¬ (300 : Int) < (n : Int) := by omega
    have c2' : (2000 : Int) < (m : Int) := by omega
    clear hn hm
    go_enter Try.func5, Try.ntmps5
    go_wp2_with fail
    refine (live_any _).mono ?_
    rintro e w1 ⟨rfl, b1⟩
    have HB1 := hid b1
    clear b1
    go_wp2
    go_ret
    exact ⟨rfl, HB1.out⟩
  have c1' : ¬ (300 : Int) < (n : Int) := by omega
  have c2' : ¬ (2000 : Int) < (m : Int) := by omega
  have hn3 : n ≤ 300 := by omega
  have hm3 : m ≤ 2000 := by omega
  have HBT := hid (both2_any ao ac l r w HA.out hna (by omega))
  rw [← hn] at HBT
  have HMS := hid hm.symm
  clear hn hm
  go_enter Try.func5, Try.ntmps5
  go_wp2_with fail
  refine HBT.out.mono ?_
  rintro e w1 ⟨b1, hd⟩
  have HB1 := hid b1
  have hs1 := b1.size
  clear b1 HBT
  rcases hd with ⟨_, rfl⟩ | ⟨hbo, T, P, F, L, rfl, tw, hLl⟩
  · go_wp2_with fail
    refine (live_any _).mono ?_
    rintro e w8 ⟨rfl, b8⟩
    have HB8 := hid (HB1.out.trans (b8.mono hs1))
    clear b8
    go_wp2
    go_ret
    exact ⟨rfl, HB8.out⟩
  · have HTW := hid tw
    obtain ⟨r2, hr2⟩ : ∃ r2, r2 = r.toNat := ⟨_, rfl⟩
    rw [← hr2] at HTW
    have hb1' := (Below.refl w1.heap.size w1).alloc (Nat.le_refl _) (.cells #[] 3)
    have HBA := hid hb1'
    have HEA := hid ((HE.out.below HB1.out).below hb1')
    have HO0 := hid (row_e3 w1)
    clear tw hbo hr2 hb1'
    go_wp2_with (at_builtin; refine wpList_append_ints rfl _ _ rfl w1.heap.size (.slice (some ⟨w1.heap.size, 0, none⟩) 0 0) 0 [] rfl HO0.out to tc m E HMS.out rfl hnt HEA.out (by unfold maxLen; omega) (by omega) (by simp) ?_)
    intro v2 w2 o2 gr2
    have ho2 : w2.ownsRow w1.heap.size 3 1 v2 m (i64s E) := by simpa using o2
    have HB12 := hid (HBA.out.grown gr2 (by simp) (fun k hk => (HO0.out.lt k hk).1))
    have hs2 := HB12.out.size
    have HB2 := hid (HB1.out.trans (HB12.out.mono hs1))
    have hs02 := HB2.out.size
    obtain ⟨vo, vc, rfl⟩ := own_form ho2
    have HT2 := hid (HTW.out.below HB12.out)
    have HMP := hid (tmap_any w.heap.size T r2 F L vo vc E w2 HT2.out.t HT2.out.f HT2.out.lt HT2.out.ris (rdj_own ho2) (by have h5 := HMS.out; omega))
    rw [HMS.out] at HMP
    clear o2 gr2 ho2
    go_wp2_with fail
    refine HMP.out.mono ?_
    rintro e w3 ⟨b3, hc⟩
    have HB3 := hid (HB2.out.trans (b3.mono hs02))
    have hs3 := b3.size
    have hs03 := HB3.out.size
    have HT3 := hid (HT2.out.below b3)
    have HRM := hid (rmap_any w.heap.size P r2 L to tc E w3 HT3.out.p HT3.out.lt HT3.out.ris (HE.out.below HB3.out) (by have h5 := HMS.out; omega) (by have h5 := HN.out; omega))
    rw [HMS.out] at HRM
    clear b3 HMP
    rcases hc with ⟨hno, rfl⟩ | ⟨hyes, T', F', rfl, hTs, hF', hT'⟩
    · have HNO := hid hno
      clear hno
      go_wp2_with fail
      refine HRM.out.mono ?_
      rintro e w4 ⟨b4, hd⟩
      have HB4 := hid (HB3.out.trans (b4.mono hs03))
      have hs4 := HB4.out.size
      have HT4 := hid (HT3.out.below b4)
      clear b4 HRM
      rcases hd with ⟨_, rfl⟩ | ⟨hy, _⟩
      · have HAS := hid (asks_any w.heap.size T r2 w.heap.size P F L none 0 [] [97] w4 HT4.out.t HT4.out.f HT4.out.lt HT4.out.ris HT4.out.nrm HT4.out.p (RdZ.nil _ _) (by simp) (by simp))
        go_wp2_with (first | (go_at_call 9; refine (num_any _ _).mono ?_; rintro e w9 ⟨rfl, h9⟩; obtain rfl := h9.symm) | fail)
        refine HAS.out.mono ?_
        rintro e w5 ⟨rfl, b5⟩
        have HB5 := hid (HB4.out.trans (b5.mono hs4))
        have hs5 := HB5.out.size
        clear b5
        go_wp2_with fail
        refine (live_any _).mono ?_
        rintro e w6 ⟨rfl, b6⟩
        have HB6 := hid (HB5.out.trans (b6.mono hs5))
        clear b6
        go_wp2
        go_ret
        exact ⟨rfl, HB6.out⟩
      · exact absurd hy HNO.out
    · have HYS := hid hyes
      have HF' := hid hF'
      have HT' := hid hT'
      clear hyes hF' hT' hTs
      go_wp2_with fail
      refine HRM.out.mono ?_
      rintro e w4 ⟨b4, hd⟩
      have HB4 := hid (HB3.out.trans (b4.mono hs03))
      have hs4 := HB4.out.size
      have HT4 := hid (HT3.out.below b4)
      have HTN := hid ((HT'.out.below b4).mono hs02)
      clear b4 HRM
      rcases hd with ⟨hn', _⟩ | ⟨_, P', rfl, hPs, hPt⟩
      · exact absurd HYS.out hn'
      · obtain ⟨q1, q2, q3, q4⟩ := twin_map r2 L E HT4.out.ris HYS.out
        have HTM := hid (show Twin w.heap.size T' P' (fE E r2) F' (nrA (fE E r2) [] (L.map (mf (fE E)))) w4 from ⟨HTN.out, hPt.mono hs03, by rw [q3]; exact HF'.out, q1, q2, q4⟩)
        obtain ⟨L', hL'⟩ : ∃ L', L' = nrA (fE E r2) [] (L.map (mf (fE E))) := ⟨_, rfl⟩
        obtain ⟨y, hy⟩ : ∃ y, y = fE E r2 := ⟨_, rfl⟩
        rw [← hL', ← hy] at HTM
        have HAS1 := hid (asks_any w.heap.size T' y w.heap.size P' F' L' none 0 [] [97] w4 HTM.out.t HTM.out.f HTM.out.lt HTM.out.ris HTM.out.nrm HTM.out.p (RdZ.nil _ _) (by simp) (by simp))
        clear hPt q1 q2 q3 q4 hL' hy hPs
        go_wp2_with (first | (go_at_call 9; refine (num_any _ _).mono ?_; rintro e w9 ⟨rfl, h9⟩; obtain rfl := h9.symm) | fail)
        refine HAS1.out.mono ?_
        rintro e w5 ⟨rfl, b5⟩
        have HB5 := hid (HB4.out.trans (b5.mono hs4))
        have hs5 := HB5.out.size
        have HT5 := hid (HT4.out.below b5)
        have HAS := hid (asks_any w.heap.size T r2 w.heap.size P F L none 0 [] [97] w5 HT5.out.t HT5.out.f HT5.out.lt HT5.out.ris HT5.out.nrm HT5.out.p (RdZ.nil _ _) (by simp) (by simp))
        clear b5 HAS1
        go_wp2_with fail
        refine HAS.out.mono ?_
        rintro e w6 ⟨rfl, b6⟩
        have HB6 := hid (HB5.out.trans (b6.mono hs5))
        have hs6 := HB6.out.size
        clear b6 HAS
        go_wp2_with fail
        refine (live_any _).mono ?_
        rintro e w7 ⟨rfl, b7⟩
        have HB7 := hid (HB6.out.trans (b7.mono hs6))
        clear b7
        go_wp2
        go_ret
        exact ⟨rfl, HB7.out⟩
end Go.Proofs.Ytljlhlcoaajggaa
/- Arguments that came in, opened: slices of ranges, of numbers, of bytes, of runes. -/
namespace Go.Proofs.Ytljlhlcoaajggaa
open Go.ChangeShapes Go.WideShapes Go.ChangeAt Go.RowKit Go.Deep

set_option maxRecDepth 100000 in
/-- A slice of ranges with classes that came in. -/
theorem ranged_open {H : Type} {enc : TypeId × Value → H} {W : World} {v : Value} {d : DataW H} {ps : List MemPlace} (h : DataW.Trod enc Try.prog W 0 (fun _ => true) true 25 v d ps) (hv : ∃ a b c, v = .slice a b c) :
    ∃ (lo : Option Addr) (lcap : Nat) (l : List Rk), v = .slice lo l.length lcap ∧ (lo = none → lcap = 0) ∧ RdK W lo l ∧ l.length ≤ 9223372036854775807 := by
  obtain ⟨sa, sl, sc, rfl⟩ := hv
  obtain ⟨m, hm⟩ := h
  rcases open_slice Try.underlying25 hm with ⟨hv, _⟩ | ⟨a, len, cap, m', n, D, Pl, hv, hb, hl, hcm, hmm, _, hx⟩
  · have hv' : [Value.slice sa sl sc] = [.slice none 0 0] := hv
    cases hv'
    exact ⟨none, 0, [], rfl, fun _ => rfl, fun i g hi => (by cases hi), by decide⟩
  · have hv' : [Value.slice sa sl sc] = [.slice (some a) len cap] := hv
    cases hv'
    have hm' : m' = sc := hmm
    have hc3 : Try.prog.cellsOf 36 = 3 := by kernel_rfl
    have c21 : Try.prog.cellsOf 21 = 1 := by kernel_rfl
    have c3 : Try.prog.cellsOf 3 = 1 := by kernel_rfl
    have hex : ∀ i : _root_.Fin sl, ∃ g : Rk, W.cell? (a.add (i.1 * 3)) = some (.int .i32 g.1) ∧ W.cell? (a.add (i.1 * 3 + 1)) = some (.int .i32 g.2.1) ∧ W.cell? (a.add (i.1 * 3 + 2)) = some (.int .i64 g.2.2) := fun i => by
      obtain ⟨cs', h1, h2⟩ := hx i.1 (by omega)
      rw [hc3] at h1
      obtain ⟨_, hlen, hcell⟩ := World.cells?_some h1
      obtain ⟨xs, k, hk, hxy, _, hxl, hf⟩ := DataW.trod_struct Try.underlying36 h2
      match xs, hxl, cs', hlen with
      | [y0, y1, y2], _, [v0, v1, v2], _ =>
        have g0 := hf 0 _ rfl
        have g1 := hf 1 _ rfl
        have g2 := hf 2 _ rfl
        simp [c21, c3] at g0 g1 g2
        have e0 := hcell 0 (by omega)
        have e1 := hcell 1 (by omega)
        have e2 := hcell 2 (by omega)
        rw [Go.Deep.add_add] at e0 e1 e2
        obtain ⟨z0, q0, _⟩ := DataW.trod_int (k := .i32) Try.underlying21 g0
        obtain ⟨z1, q1, _⟩ := DataW.trod_int (k := .i32) Try.underlying21 g1
        obtain ⟨z2, q2, _⟩ := DataW.trod_int (k := .i64) Try.underlying3 g2
        injection q0 with q0 _
        injection q1 with q1 _
        injection q2 with q2 _
        subst q0 q1 q2
        exact ⟨(z0, z1, z2), by simpa using e0, by simpa using e1, by simpa using e2⟩
    refine ⟨some a, sc, List.ofFn fun i => Classical.choose (hex i), by rw [List.length_ofFn], fun h => (by cases h), fun i g hi => ?_, by rw [List.length_ofFn]; unfold maxLen at hcm; omega⟩
    rw [List.getElem?_ofFn] at hi
    split at hi
    · rename_i hil
      cases hi
      obtain ⟨e0, e1, e2⟩ := Classical.choose_spec (hex ⟨i, hil⟩)
      have hlt := World.block_lt_of_cell? W _ e0
      rw [add_blk] at hlt
      refine ⟨a, rfl, hlt, e0, by rw [← add_one3]; exact e1, ?_⟩
      have e3 : a.add (i * 3 + 2) = ⟨(a.add (i * 3)).block, (a.add (i * 3)).off + 2, none⟩ := by
        rw [show i * 3 + 2 = i * 3 + 1 + 1 by omega, add_one3, add_one3]
      rw [← e3]; exact e2
    · cases hi
/-- A slice of numbers that came in. -/
theorem numbers_open {H : Type} {enc : TypeId × Value → H} {W : World} {v : Value} {d : DataW H} {ps : List MemPlace} (h : DataW.Trod enc Try.prog W 0 (fun _ => true) true 41 v d ps) (hv : ∃ a b c, v = .slice a b c) :
    ∃ (ao : Option Addr) (cap : Nat) (E : List Int), v = .slice ao E.length cap ∧ RdJ W ao E ∧ E.length ≤ 9223372036854775807 := by
  obtain ⟨sa, sl, sc, rfl⟩ := hv
  obtain ⟨m, hm⟩ := h
  rcases Go.ChangeShapes.open_ints Try.underlying41 Try.underlying3 (by kernel_rfl) hm with ⟨hv, _⟩ | ⟨a, len, cap, zs, hv, _, hlc, hcm, hzl, _, hcells, _⟩
  · have hv' : [Value.slice sa sl sc] = [.slice none 0 0] := hv
    cases hv'
    exact ⟨none, 0, [], rfl, fun k z hk => (by cases hk), by decide⟩
  · have hv' : [Value.slice sa sl sc] = [.slice (some a) len cap] := hv
    cases hv'
    have hle : sl ≤ zs.length := by rw [hzl]; split <;> omega
    have hcm' : sc ≤ 9223372036854775807 := by unfold maxLen at hcm; omega
    refine ⟨some a, sc, zs.take sl, by rw [List.length_take]; congr 1; omega, fun k z hk => ?_, by rw [List.length_take]; omega⟩
    rw [List.getElem?_take] at hk
    split at hk
    · have hkl : k < zs.length := (List.getElem?_eq_some_iff.1 hk).1
      have hc := hcells k hkl
      have hz : zs.getD k 0 = z := by simp [List.getD, hk]
      rw [hz] at hc
      have hlt := World.block_lt_of_cell? W _ hc
      rw [add_blk] at hlt
      exact ⟨a, rfl, hlt, hc⟩
    · cases hk
theorem laidOut : laidOutB Try.prog = true := by kernel_rfl
theorem knob : ownKnob Try.prog.godebug = none := by kernel_rfl
/-- A slice of bytes that came in. -/
theorem bytes_open {H : Type} {enc : TypeId × Value → H} {W : World} {v : Value} {d : DataW H} {ps : List MemPlace} (h : DataW.Trod enc Try.prog W 0 (fun _ => true) true 58 v d ps) (hv : ∃ a b c, v = .slice a b c) :
    ∃ (ao : Option Addr) (cap : Nat) (b : List Nat), v = .slice ao b.length cap ∧ (ao = none → cap = 0) ∧ RdU W ao b ∧ (∀ c ∈ b, c < 256) ∧ b.length ≤ 9223372036854775807 := by
  obtain ⟨sa, sl, sc, rfl⟩ := hv
  obtain ⟨m, hm⟩ := h
  rcases Go.ChangeShapes.open_ints Try.underlying58 Try.underlying5 (by kernel_rfl) hm with ⟨hv, _⟩ | ⟨a, len, cap, zs, hv, _, hlc, hcm, hzl, _, hcells, hwf⟩
  · have hv' : [Value.slice sa sl sc] = [.slice none 0 0] := hv
    cases hv'
    exact ⟨none, 0, [], rfl, fun _ => rfl, fun k z hk => (by cases hk), fun c hc => (by cases hc), by decide⟩
  · have hv' : [Value.slice sa sl sc] = [.slice (some a) len cap] := hv
    cases hv'
    have hle : sl ≤ zs.length := by rw [hzl]; split <;> omega
    have hcm' : sc ≤ 9223372036854775807 := by unfold maxLen at hcm; omega
    have hrg : ∀ z ∈ zs, 0 ≤ z ∧ z < 256 := fun z hz => by
      have h1 : (IntKind.u8.min ≤ z ∧ z ≤ IntKind.u8.max) := by simpa [Lit.wf] using hwf z hz
      have h2 : IntKind.u8.min = 0 := by decide
      have h3 : IntKind.u8.max = 255 := by decide
      rw [h2, h3] at h1
      omega
    refine ⟨some a, sc, (zs.take sl).map Int.toNat, by rw [List.length_map, List.length_take]; congr 1; omega, fun h => (by cases h), fun k c hk => ?_, fun c hc => ?_, by rw [List.length_map, List.length_take]; omega⟩
    · rw [List.getElem?_map, List.getElem?_take] at hk
      split at hk
      · cases hz : zs[k]? with
        | none => rw [hz] at hk; cases hk
        | some y =>
          rw [hz] at hk
          cases hk
          have hkl : k < zs.length := (List.getElem?_eq_some_iff.1 hz).1
          have hc := hcells k hkl
          have hy : zs.getD k 0 = y := by simp [List.getD, hz]
          rw [hy] at hc
          have hlt := World.block_lt_of_cell? W _ hc
          rw [add_blk] at hlt
          have hr := hrg y (List.mem_of_getElem? hz)
          exact ⟨a, rfl, hlt, by rw [Int.toNat_of_nonneg hr.1]; exact hc⟩
      · cases hk
    · obtain ⟨z, hz, rfl⟩ := List.mem_map.1 hc
      have hr := hrg z (List.mem_of_mem_take hz)
      omega
/-- A slice of runes that came in. -/
theorem runes_open {H : Type} {enc : TypeId × Value → H} {W : World} {v : Value} {d : DataW H} {ps : List MemPlace} (h : DataW.Trod enc Try.prog W 0 (fun _ => true) true 26 v d ps) (hv : ∃ a b c, v = .slice a b c) :
    ∃ (ao : Option Addr) (cap : Nat) (E : List Int), v = .slice ao E.length cap ∧ RdZ W ao E ∧ E.length ≤ 9223372036854775807 := by
  obtain ⟨sa, sl, sc, rfl⟩ := hv
  obtain ⟨m, hm⟩ := h
  rcases Go.ChangeShapes.open_ints Try.underlying26 Try.underlying21 (by kernel_rfl) hm with ⟨hv, _⟩ | ⟨a, len, cap, zs, hv, _, hlc, hcm, hzl, _, hcells, _⟩
  · have hv' : [Value.slice sa sl sc] = [.slice none 0 0] := hv
    cases hv'
    exact ⟨none, 0, [], rfl, fun k z hk => (by cases hk), by decide⟩
  · have hv' : [Value.slice sa sl sc] = [.slice (some a) len cap] := hv
    cases hv'
    have hle : sl ≤ zs.length := by rw [hzl]; split <;> omega
    have hcm' : sc ≤ 9223372036854775807 := by unfold maxLen at hcm; omega
    refine ⟨some a, sc, zs.take sl, by rw [List.length_take]; congr 1; omega, fun k z hk => ?_, by rw [List.length_take]; omega⟩
    rw [List.getElem?_take] at hk
    split at hk
    · have hkl : k < zs.length := (List.getElem?_eq_some_iff.1 hk).1
      have hc := hcells k hkl
      have hz : zs.getD k 0 = z := by simp [List.getD, hk]
      rw [hz] at hc
      have hlt := World.block_lt_of_cell? W _ hc
      rw [add_blk] at hlt
      exact ⟨a, rfl, hlt, hc⟩
    · cases hk
end Go.Proofs.Ytljlhlcoaajggaa
