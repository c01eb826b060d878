/- The contract of own (package kerflaw03); lists of any ranges in rows; two of them changed for one another; TableOrder answers true. -/
import Derived.Laws.AppendOwnNone
import Derived.Test.YtljlhlcoaajggaaSame3Joint
import Derived.Test.YtljlhlcoaajggaaLive
import Derived.Test.YtljlhlcoaajggaaReadN
import Derived.Test.YtljlhlcoaajggaaNum2
import Derived.Test.YtljlhlcoaajggaaBytes
import Derived.Deep.RegionHeld3
import Derived.Test.YtljlhlcoaajggaaHeld2
import Derived.Laws.IdiomStrings
import Derived.OpenShut
import Derived.Deep.SlicePairs
namespace Go.Proofs.Ytljlhlcoaajggaa
open Go.RowKit

/-- The cells of ranges. -/
def rkL (l : List Rk) : List Value := l.flatMap rkc
theorem rkL_app (l m : List Rk) : rkL (l ++ m) = rkL l ++ rkL m := by simp [rkL]
theorem rkL_len (l : List Rk) : (rkL l).length = l.length * 3 := by
  induction l with
  | nil => rfl
  | cons g l ih =>
    show (rkc g ++ rkL l).length = _
    rw [List.length_append, ih]
    simp [rkc]; omega
theorem rkL_one (l : List Rk) : ∀ v ∈ rkL l, v.oneCell' = true := fun v hv => by
  obtain ⟨g, _, hg⟩ := List.mem_flatMap.1 hv
  exact rkc_one _ v hg
theorem rkL_split (l : List Rk) (k : Nat) (h : k < l.length) : rkL l = rkL (l.take k) ++ (rkc l[k] ++ rkL (l.drop (k + 1))) := by
  have e : l = l.take k ++ l[k] :: l.drop (k + 1) := by rw [List.getElem_cons_drop, List.take_append_drop]
  conv => lhs; rw [e, rkL_app]
  rfl
theorem rkL_at (l : List Rk) (k c : Nat) (v : Value) (h : k < l.length) (hv : (rkc l[k])[c]? = some v) : (rkL l)[k * 3 + c]? = some v := by
  have hc : c < 3 := (List.getElem?_eq_some_iff.1 hv).1
  have hl : (rkL (l.take k)).length = k * 3 := by rw [rkL_len, List.length_take]; omega
  rw [rkL_split l k h, List.getElem?_append_right (by omega), hl, show k * 3 + c - k * 3 = c by omega, List.getElem?_append_left hc]
  exact hv
theorem rkL_set (l : List Rk) (k : Nat) (g : Rk) (h : k < l.length) : lset (rkL l) (k * 3) (rkc g) = rkL (l.set k g) := by
  have hl : (rkL (l.take k)).length = k * 3 := by rw [rkL_len, List.length_take]; omega
  have e1 := lset_mid (rkc g) (rkL (l.take k)) (rkc l[k]) (rkL (l.drop (k + 1))) rfl
  rw [hl, List.append_assoc, ← rkL_split l k h] at e1
  rw [e1]
  have e2 : l.set k g = l.take k ++ g :: l.drop (k + 1) := List.set_eq_take_append_cons_drop.trans (if_pos h)
  rw [e2, rkL_app, List.append_assoc]
  rfl
theorem rd_ownL {B n cap : Nat} {ao : Option Addr} {l : List Rk} {w : World} (h : w.ownsRow B 36 3 (.slice ao n cap) n (rkL l)) : RdK w ao l := by
  intro k g hk
  obtain ⟨hkl, rfl⟩ := List.getElem?_eq_some_iff.1 hk
  have hn : l.length = n := by have := h.1; rw [rkL_len] at this; omega
  rcases h.2 with ⟨h', h0⟩ | ⟨q, cap', cur, h', hb, hg, hnc, hcm, hcs, htk⟩
  · omega
  · simp only [Value.slice.injEq, true_and] at h'
    obtain ⟨rfl, rfl⟩ := h'
    have hc : ∀ j v, (rkc l[k])[j]? = some v → w.cell? ⟨q, k * 3 + j, none⟩ = some v := fun j v hj => by
      have hj3 : j < 3 := (List.getElem?_eq_some_iff.1 hj).1
      rw [h.cellAt _ (by omega)]
      exact rkL_at l k j v hkl hj
    have ha : (⟨q, 0, none⟩ : Addr).add (k * 3) = ⟨q, k * 3, none⟩ := by rw [Addr.add_lit, Nat.zero_add]
    refine ⟨_, rfl, (h.lt q rfl).2, ?_, ?_, ?_⟩
    · rw [ha]; exact hc 0 _ rfl
    · rw [ha]; exact hc 1 _ rfl
    · rw [ha]; exact hc 2 _ rfl
/-- Two changed for one another. -/
theorem swap_perm (M : List Rk) (k : Nat) (h0 : 0 < M.length) (hk : k < M.length) : List.Perm M ((M.set 0 M[k]).set k M[0]) := by
  cases M with
  | nil => simp at h0
  | cons a T =>
    cases k with
    | zero => exact List.Perm.refl _
    | succ j =>
      have hj : j < T.length := by simpa using hk
      show List.Perm (a :: T) (T[j] :: T.set j a)
      have e1 : T = T.take j ++ T[j] :: T.drop (j + 1) := by rw [List.getElem_cons_drop, List.take_append_drop]
      have e2 : T.set j a = T.take j ++ a :: T.drop (j + 1) := List.set_eq_take_append_cons_drop.trans (if_pos hj)
      rw [e2]
      conv => lhs; rw [e1]
      refine (List.Perm.cons a List.perm_middle).trans ?_
      refine (List.Perm.swap _ _ _).trans ?_
      exact List.Perm.cons _ List.perm_middle.symm
theorem add_one3 (a : Addr) (k : Nat) : a.add (k + 1) = ⟨(a.add k).block, (a.add k).off + 1, none⟩ := by
  unfold Addr.add
  rw [if_neg (by omega)]
  split
  · rename_i h; subst h; rfl
  · rfl
theorem row_none (w : World) : (w.alloc (.cells #[] 36)).ownsRow w.heap.size 36 3 (.slice (some ⟨w.heap.size, 0, none⟩) 0 0) 0 [] :=
  ⟨by simp, .inr ⟨w.heap.size, 0, #[], rfl, Nat.le_refl _, heap_alloc_new w _, Nat.le_refl _, by simp [maxLen], by simp, by simp⟩⟩
theorem rkL_reads {w : World} {a : Addr} {l : List Rk} (h : RdK w (some a) l) : ∀ j u, (rkL l)[j]? = some u → w.cell? (a.add j) = some u := fun j u hj => by
  have hjl := (List.getElem?_eq_some_iff.1 hj).1
  rw [rkL_len] at hjl
  obtain ⟨t, ht⟩ : ∃ t, t = j / 3 := ⟨_, rfl⟩
  obtain ⟨s, hs⟩ : ∃ s, s = j % 3 := ⟨_, rfl⟩
  have hjt : j = t * 3 + s := by omega
  have hk : t < l.length := by omega
  have hs3 : s < 3 := by omega
  clear ht hs hjl
  subst hjt
  obtain ⟨b, hb, _, h0, h1, h2⟩ := h t l[t] (List.getElem?_eq_getElem hk)
  cases hb
  have hc : (rkc l[t])[s]? = some u := by
    have h5 := rkL_at l t s ((rkc l[t])[s]'(by show s < 3; exact hs3)) hk (List.getElem?_eq_getElem _)
    rw [h5] at hj
    rw [← hj, List.getElem?_eq_getElem]
  rcases (show s = 0 ∨ s = 1 ∨ s = 2 by omega) with e | e | e
  · subst e; cases hc; exact h0
  · subst e; cases hc
    rw [add_one3]
    exact h1
  · subst e; cases hc
    rw [show t * 3 + 2 = t * 3 + 1 + 1 by omega, add_one3, add_one3]
    exact h2
theorem own_any (ao : Option Addr) (ac : Nat) (l : List Rk) (w : World) (ha : RdK w ao l) (hcap : ao = none → ac = 0) (hl : l.length ≤ 100000) :
    Calls Try.prog 11 #[.slice ao l.length ac] w fun e w' => ∃ g cap, e = .returned (.slice (some ⟨g, 0, none⟩) l.length cap) ∧ w'.ownsRow w.heap.size 36 3 (.slice (some ⟨g, 0, none⟩) l.length cap) l.length (rkL l) ∧ Below w.heap.size w w' := by
  obtain ⟨i0, hi, hz0, hz1, hz2⟩ := info_parts Try.info36
  have o0 := row_none w
  have hb0 := (Below.refl w.heap.size w).alloc (Nat.le_refl _) (.cells #[] 36)
  have HB0 := hid hb0
  have HE0 := hid (ha.below hb0)
  cases ao with
  | none =>
    have hn : l = [] := by
      cases l with
      | nil => rfl
      | cons y ys => obtain ⟨a', h', _⟩ := ha 0 y rfl; cases h'
    subst hn
    have hc := hcap rfl
    subst hc
    clear ha hcap hb0 HE0
    go_enter Try.func11, Try.ntmps11
    go_wp2_with (at_builtin; refine wpList_append_own_none rfl _ _ 25 rfl w.heap.size 36 i0 3 Try.underlying25 hi (.slice (some ⟨w.heap.size, 0, none⟩) 0 0) 0 [] rfl o0 rfl ?_)
    go_ret
    exact ⟨_, _, rfl, o0, HB0.out⟩
  | some a =>
    have HRD := hid (rkL_reads HE0.out)
    have hll := rkL_len l
    have HON := hid (rkL_one l)
    obtain ⟨n, hn⟩ : ∃ n, n = l.length := ⟨_, rfl⟩
    rw [← hn] at hl hll ⊢
    clear ha hcap hb0 HE0 hn
    cases Nat.eq_zero_or_pos n with
    | inl h0 =>
      subst h0
      have hnil : rkL l = [] := List.length_eq_zero_iff.1 (by omega)
      have HNL := hid hnil
      rw [hnil] at HRD HON
      clear hnil hll
      go_enter Try.func11, Try.ntmps11
      go_wp2_with (at_builtin; refine wpList_append_fits _ rfl _ _ 25 rfl w.heap.size 36 i0 3 Try.underlying25 hi hz1 w.heap.size 0 0 [] rfl o0 a 0 ac [] rfl rfl HRD.out HON.out (Nat.le_refl _) ?_; intro w1 o1 gr1)
      have HB1 := hid (HB0.out.grown gr1 (by simp) (fun k hk => (o0.lt k hk).1))
      have HO1 := hid o1
      clear o1 gr1
      go_ret
      exact ⟨_, _, rfl, by rw [HNL.out]; exact HO1.out, HB1.out⟩
    | inr hp =>
      go_enter Try.func11, Try.ntmps11
      go_wp2_with (at_builtin; refine wpList_append_lies _ rfl _ _ 25 rfl w.heap.size 36 i0 (.agg #[.int .i32 0, .int .i32 0, .int .i64 0]) 3 16 Try.underlying25 hi hz0 hz1 hz2 rfl (by decide) _ 0 [] rfl o0 a n ac (rkL l) rfl hll HRD.out HON.out hp (by unfold maxLen; omega) (by omega) (by simp) (w.heap.size + 1) (by simp) ?_; intro q cap' w1 o1 gr1 hlie hg1)
      have HB1 := hid (HB0.out.grown gr1 (by simp) (fun k hk => (o0.lt k hk).1))
      rw [Nat.zero_add, List.nil_append] at o1
      have HO1 := hid o1
      clear o1 gr1
      go_ret
      exact ⟨q, cap', by simp, HO1.out, HB1.out⟩

theorem step_store_mid {ops : Array Oper} {o : Oper} {a : Act} {w : World} {K : Act → World → Prop} {Q : Exit → Act → World → Prop} {E : Prop}
    (hg : o.guard = none) (ty : TypeId) (x y : Operand) (ho : o.op = .store ty x y) (b f : Nat) (cells : Array Value) (hx : a.eval x = .pointer (some ⟨b, f, none⟩)) (hy : a.eval y = .agg cells)
    (ht : w.there b f cells.size) (hi : (Try.prog.info? ty).map (·.size) = some cells.size) (h1 : cells.all (·.oneCell') = true) (hK : K (a.put o.dst undef) (w.setCells b f cells.toList)) :
    if Region.wanted o (yielded ops a.tmps) = true then Oper.wp Try.prog o a w K Q else E := by
  rw [if_pos (by simp [Region.wanted, hg])]
  exact wp_store_mid ty x y ho b f cells hx hy ht hi h1 hK
/-- A slice of numbers, nil or not, reads as a list. -/
def RdJ (w : World) (ao : Option Addr) (l : List Int) : Prop := ∀ (k : Nat) (z : Int), l[k]? = some z → ∃ a : Addr, ao = some a ∧ a.block < w.heap.size ∧ w.cell? (a.add k) = some (.int .i64 z)
theorem RdJ.below {w w' : World} {ao : Option Addr} {l : List Int} (h : RdJ w ao l) (hb : Below w.heap.size w w') : RdJ w' ao l := fun k c hk => by
  obtain ⟨a, h1, h2, h3⟩ := h k c hk
  exact ⟨a, h1, Nat.lt_of_lt_of_le h2 hb.size, (hb.cell (p := a.add k) (by rw [add_blk]; exact h2)).trans h3⟩
theorem flt_ne : ∀ (l : List Rk) (D : List Tr) (i : Nat) (c : Int) (k : Nat), flt D i l = some (c, k) → c ≠ 0
  | [], _, _, _, _, h => by cases h
  | g :: l, D, i, c, k, h => by
    unfold flt at h
    split at h
    · split at h
      · cases h; decide
      · exact flt_ne l _ _ c k h
    · cases h; decide
theorem bo_ne {l : List Rk} {r c : Int} {k : Nat} (h : bo l r = some (c, k)) : c ≠ 0 := by
  unfold bo at h
  split at h
  · split at h
    · cases h; decide
    · exact flt_ne l _ _ c k h
  · cases h; decide
theorem bo_none {l : List Rk} {r : Int} (h : bo l r = none) : icl r = true ∧ l.length ≤ 4096 ∧ flt [] 0 l = none := by
  unfold bo at h
  split at h
  · rename_i h1
    split at h
    · cases h
    · rename_i h2
      exact ⟨h1, by omega, h⟩
  · cases h
theorem bo_same {l m : List Rk} {r : Int} (h : bo l r = none) (hp : List.Perm l m) : bo m r = none ∧ srt [] m = srt [] l := by
  obtain ⟨h1, h2, h3⟩ := bo_none h
  obtain ⟨h4, h5⟩ := srt_same h3 hp
  refine ⟨?_, h5⟩
  unfold bo
  rw [if_pos h1, if_neg (by rw [← hp.length_eq]; omega), h4]
theorem bo_self {A : List Tr} {r : Int} (hr : icl r = true) (h : Ris 0 A) (hl : A.length ≤ 4096) : bo (A.map rkT) r = none ∧ srt [] (A.map rkT) = A := by
  obtain ⟨h4, h5⟩ := srt_self A h
  refine ⟨?_, h5⟩
  unfold bo
  rw [if_pos hr, if_neg (by rw [List.length_map]; omega), h4]

theorem below_drew (B : Nat) (w : World) : Below B w w.drew := ⟨rfl, rfl, rfl, Nat.le_refl _, fun _ _ => rfl⟩
theorem six_cells (w : World) (g k : Nat) (a b c d e f : Value) : ((((((w.setCell ⟨g, 0, none⟩ a).setCell ⟨g, 1, none⟩ b).setCell ⟨g, 2, none⟩ c).setCell ⟨g, k * 3, none⟩ d).setCell ⟨g, k * 3 + 1, none⟩ e).setCell ⟨g, k * 3 + 2, none⟩ f).drew = ((w.setCells g 0 [a, b, c]).setCells g (k * 3) [d, e, f]).drew := rfl
theorem six_zero (w : World) (g : Nat) (a b c d e f : Value) : ((((((w.setCell ⟨g, 0, none⟩ a).setCell ⟨g, 1, none⟩ b).setCell ⟨g, 2, none⟩ c).setCell ⟨g, 0, none⟩ d).setCell ⟨g, 1, none⟩ e).setCell ⟨g, 2, none⟩ f).drew = ((w.setCells g 0 [a, b, c]).setCells g 0 [d, e, f]).drew := rfl
set_option maxHeartbeats 8000000 in
set_option maxRecDepth 100000 in
theorem order_walk (ao to : Option Addr) (ac tc : Nat) (l : List Rk) (r : Int) (t : List Int) (w : World) (ha : RdK w ao l) (hna : ao = none → ac = 0) (hl0 : l.length ≤ 9223372036854775807) (ht : RdJ w to t) (htl0 : t.length ≤ 9223372036854775807) :
    Calls Try.prog 8 #[.slice ao l.length ac, .int .i64 r, .slice to t.length tc] w fun e w' => e = .returned (.bool true) ∧ Below w.heap.size w w' := by
  have HA := hid ha
  have HTU := hid ht
  obtain ⟨n, hn⟩ : ∃ n, n = l.length := ⟨_, rfl⟩
  obtain ⟨m, hm⟩ : ∃ m, m = t.length := ⟨_, rfl⟩
  rw [← hn, ← hm]
  have HN := hid hn
  have HM := hid hm
  clear ha ht
  by_cases c1 : 300 < n
  · have c1' : (300 : Int) < (n : Int) := by omega
    clear hn hm
    go_enter Try.func8, Try.ntmps8
    go_wp2_with fail
    refine (live_any _).mono ?_
    rintro e w1 ⟨rfl, b1⟩
    have HB1 := hid b1
    clear b1
    go_wp2
    go_ret
    exact ⟨rfl, HB1.out⟩
  by_cases c2 : 300 < m
  · have c1' : ¬ (300 : Int) < (n : Int) := by omega
    have c2' : (300 : Int) < (m : Int) := by omega
    clear hn hm
    go_enter Try.func8, Try.ntmps8
    go_wp2_with fail
    refine (live_any _).mono ?_
    rintro e w1 ⟨rfl, b1⟩
    have HB1 := hid b1
    clear b1
    go_wp2
    go_ret
    exact ⟨rfl, HB1.out⟩
  have c1' : ¬ (300 : Int) < (n : Int) := by omega
  have c2' : ¬ (300 : Int) < (m : Int) := by omega
  have HO := hid (own_any ao ac l w HA.out hna (by omega))
  rw [← hn] at HO
  have hn3 : n ≤ 300 := by omega
  have hm3 : m ≤ 300 := by omega
  clear hn hm
  go_enter Try.func8, Try.ntmps8
  go_wp2_with fail
  refine HO.out.mono ?_
  rintro e w1 ⟨g1, p1, rfl, o1, b1⟩
  have HB1 := hid b1
  have HBU := hid (build_any (some ⟨g1, 0, none⟩) p1 l r w1 (rd_ownL o1) (by have h5 := HN.out; omega))
  rw [← HN.out] at HBU
  clear o1 b1 HO
  go_wp2_with fail
  refine HBU.out.mono ?_
  rintro e w2 ⟨b2, hc⟩
  have HB2 := hid (HB1.out.trans (b2.mono HB1.out.size))
  clear b2 HBU
  rcases hc with ⟨c, k, hc, rfl⟩ | ⟨hbo, T, F, rfl, hTs, hF, hsl, hTb⟩
  · have hc0 : (c == 0) = false := by simpa using bo_ne hc
    have hc1 : ¬ (c = 0) := bo_ne hc
    clear hc
    go_wp2_with (first | (go_at_call 9; refine (num_any _ _).mono ?_; rintro e w9 ⟨rfl, h9⟩; obtain rfl := h9.symm) | fail)
    refine (live_any _).mono ?_
    rintro e w3 ⟨rfl, b3⟩
    have HB3 := hid (HB2.out.trans (b3.mono HB2.out.size))
    clear b3
    go_wp2
    go_ret
    exact ⟨rfl, HB3.out⟩
  have HBO := hid hbo
  have HF := hid hF
  have HTb := hid hTb
  have HO2 := hid (own_any ao ac l w2 (HA.out.below HB2.out) hna (by have h5 := HN.out; omega))
  rw [← HN.out] at HO2
  clear hbo hF hTb hTs
  go_wp2_with (first | (go_at_call 9; refine (num_any _ _).mono ?_; rintro e w9 ⟨rfl, h9⟩; obtain rfl := h9.symm) | fail)
  refine HO2.out.mono ?_
  rintro e w3 ⟨g3, p3, rfl, o3, b3⟩
  obtain ⟨B3, hB3⟩ : ∃ B3, B3 = w2.heap.size := ⟨_, rfl⟩
  rw [← hB3] at o3 b3
  have HBE3 := hid hB3
  have HO3 := hid o3
  have HB3 := hid b3
  clear o3 b3 HO2 hB3
  go_wp2
  have HP0 := hid (List.Perm.refl l)
  have HNL := hid (show l.length = n from HN.out.symm)
  go_loopw [11] (fun x wr => ∃ (i : Nat) (M : List Rk), x = .int .i64 (i : Int) ∧ i ≤ m ∧ Hid (M.length = n) ∧ Hid (List.Perm l M) ∧ Hid (wr.ownsRow B3 36 3 (.slice (some ⟨g3, 0, none⟩) n p3) n (rkL M)) ∧ Hid (Below B3 w2 wr)) (fun x _ => m - (intOf x).toNat)
  case atStart => exact ⟨0, l, rfl, by omega, HNL, HP0, HO3, HB3⟩
  case round =>
    obtain ⟨i, M, rfl, hi, HML, HPM, HOM, HBM⟩ := hrel
    by_cases hgo : i < m ∧ 0 < n
    · obtain ⟨him, hn0⟩ := hgo
      have hw2 := HB2.out.size
      have HBW := hid (show Below w.heap.size w wr from HB2.out.trans (HBM.out.mono (by have h5 := HBE3.out; omega)))
      have hit : i < t.length := by have h5 := HM.out; omega
      obtain ⟨a, rfl, _, at0⟩ := (HTU.out.below HBW.out) i t[i] (List.getElem?_eq_getElem hit)
      obtain ⟨z, hz⟩ : ∃ z, z = t[i] := ⟨_, rfl⟩
      rw [← hz] at at0
      obtain ⟨y, hy⟩ : ∃ y, y = z.tmod (n : Int) := ⟨_, rfl⟩
      have hy1 : y < (n : Int) := by rw [hy]; exact Int.tmod_lt_of_pos z (by omega)
      have hy2 : -(n : Int) < y := by rw [hy]; exact Int.lt_tmod_of_pos z (by omega)
      obtain ⟨s, hs⟩ : ∃ s : Nat, (s : Int) = y + (n : Int) := ⟨(y + n).toNat, by omega⟩
      obtain ⟨k, hk⟩ : ∃ k, k = s % n := ⟨_, rfl⟩
      have hkn : k < n := by rw [hk]; exact Nat.mod_lt _ hn0
      have e1 : z.tmod (n : Int) = y := hy.symm
      have e2 : IntKind.i64.wrap y = y := by rw [IntKind.wrap_i64]; omega
      have e3 : y + (n : Int) = (s : Int) := hs.symm
      have e4 : IntKind.i64.wrap (s : Int) = (s : Int) := by rw [IntKind.wrap_i64]; omega
      have e5 : (s : Int).tmod (n : Int) = (k : Int) := by rw [Int.tmod_eq_emod_of_nonneg (by omega), hk]; omega
      have e6 : IntKind.i64.wrap (k : Int) = (k : Int) := by rw [IntKind.wrap_i64]; omega
      have nz : ¬ ((n : Int) = 0) := by omega
      have nz2 : ((n : Int) == 0) = false := by simp; omega
      have i3 : (i : Int) < (m : Int) := by omega
      have i0 : (0 : Int) ≤ (i : Int) := by omega
      have n0 : (0 : Int) < (n : Int) := by omega
      have k3 : (k : Int) < (n : Int) := by omega
      have k0 : (0 : Int) ≤ (k : Int) := by omega
      have hML := HML.out
      have hkM : k < M.length := by omega
      have h0M : 0 < M.length := by omega
      have HSW := hid (HPM.out.trans (swap_perm M k h0M hkM))
      have ck : ∀ c v, (rkc M[k])[c]? = some v → wr.cell? ⟨g3, k * 3 + c, none⟩ = some v := fun c v hv => by
        have h3 : c < 3 := (List.getElem?_eq_some_iff.1 hv).1
        rw [HOM.out.cellAt _ (by omega)]
        exact rkL_at M k c v hkM hv
      have c0 : ∀ c v, (rkc M[0])[c]? = some v → wr.cell? ⟨g3, c, none⟩ = some v := fun c v hv => by
        have h3 : c < 3 := (List.getElem?_eq_some_iff.1 hv).1
        rw [HOM.out.cellAt _ (by omega)]
        have h5 := rkL_at M 0 c v h0M hv
        rw [Nat.zero_mul, Nat.zero_add] at h5
        exact h5
      have x0 : wr.cell? ⟨g3, k * 3, none⟩ = some (.int .i32 M[k].1) := ck 0 _ rfl
      have x1 : wr.cell? ⟨g3, k * 3 + 1, none⟩ = some (.int .i32 M[k].2.1) := ck 1 _ rfl
      have x2 : wr.cell? ⟨g3, k * 3 + 2, none⟩ = some (.int .i64 M[k].2.2) := ck 2 _ rfl
      have y0 : wr.cell? ⟨g3, 0, none⟩ = some (.int .i32 M[0].1) := c0 0 _ rfl
      have y1 : wr.cell? ⟨g3, 1, none⟩ = some (.int .i32 M[0].2.1) := c0 1 _ rfl
      have y2 : wr.cell? ⟨g3, 2, none⟩ = some (.int .i64 M[0].2.2) := c0 2 _ rfl
      obtain ⟨o4, b4⟩ := own_sets (rkc M[k]) (0 * 3) (rkL M) wr HOM.out
      rw [rkL_set M 0 M[k] h0M] at o4
      obtain ⟨o5, b5⟩ := own_sets (rkc M[0]) (k * 3) _ _ o4
      rw [rkL_set (M.set 0 M[k]) k M[0] (by rw [List.length_set]; exact hkM)] at o5
      rw [Nat.zero_mul] at o4 b4 o5 b5
      have HO5 := hid o5.drew
      have HB5 := hid ((HBM.out.trans (b4.trans b5)).trans (below_drew B3 _))
      have HML5 := hid (show ((M.set 0 M[k]).set k M[0]).length = n by rw [List.length_set, List.length_set]; exact hML)
      have fz : ∀ c, wr.frozen? ⟨g3, c, none⟩ = false := fun c => HOM.out.frozenAt c
      have mixed : Try.prog.follows .mixedOrders = true := by kernel_rfl
      rcases Nat.eq_zero_or_pos k with hk0 | hk0
      · subst hk0
        obtain ⟨m0, hm0⟩ : ∃ m0, m0 = M[0] := ⟨_, rfl⟩
        rw [← hm0] at y0 y1 y2 HO5 HB5 HML5 HSW
        obtain ⟨z1, z2, zc⟩ := m0
        rw [Nat.zero_mul] at HO5 HB5
        dsimp only at y0 y1 y2
        have u0 := fz 0
        have u1 := fz 1
        have u2 := fz 2
        have e5' : (s : Int).tmod (n : Int) = 0 := by simpa using e5
        have HO6' := hid (show Hid ((((wr.setCells g3 0 [.int .i32 z1, .int .i32 z2, .int .i64 zc]).setCells g3 0 [.int .i32 z1, .int .i32 z2, .int .i64 zc]).drew).ownsRow B3 36 3 (.slice (some ⟨g3, 0, none⟩) n p3) n _) from HO5)
        have HB6' := hid (show Hid (Below B3 w2 (((wr.setCells g3 0 [.int .i32 z1, .int .i32 z2, .int .i64 zc]).setCells g3 0 [.int .i32 z1, .int .i32 z2, .int .i64 zc]).drew)) from HB5)
        obtain ⟨WX, hWX⟩ : ∃ WX, WX = ((wr.setCells g3 0 [.int .i32 z1, .int .i32 z2, .int .i64 zc]).setCells g3 0 [.int .i32 z1, .int .i32 z2, .int .i64 zc]).drew := ⟨_, rfl⟩
        rw [← hWX] at HO6' HB6'
        have HO6 := HO6'.out
        have HB6 := HB6'.out
        have HWX := hid hWX
        clear hWX HO5 HB5 HO6' HB6'
        clear ck c0 o4 o5 b4 b5 hm0 hy hz hk hs hy1 hy2 hML fz e5 e6 k3 k0 x0 x1 x2
        go_wp2_with fail
        go_region_law_o (fail)
        · rw [six_zero, ← HWX.out]
          go_wp2
          go_roundw
          case rel => exact ⟨i + 1, _, by go_num, by omega, HML5, HSW, HO6, HB6⟩
          case measure => simp [intOf]; omega
        · rw [six_zero, ← HWX.out]
          go_wp2
          go_roundw
          case rel => exact ⟨i + 1, _, by go_num, by omega, HML5, HSW, HO6, HB6⟩
          case measure => simp [intOf]; omega
      · obtain ⟨mk, hmk⟩ : ∃ mk, mk = M[k] := ⟨_, rfl⟩
        obtain ⟨m0, hm0⟩ : ∃ m0, m0 = M[0] := ⟨_, rfl⟩
        rw [← hmk] at x0 x1 x2 HO5 HB5 HML5 HSW
        rw [← hm0] at y0 y1 y2 HO5 HB5 HML5 HSW
        obtain ⟨k1, k2, kc⟩ := mk
        obtain ⟨z1, z2, zc⟩ := m0
        dsimp only at x0 x1 x2 y0 y1 y2
        have q0 : ¬ (k = 0) := by omega
        have q1 : ¬ (k * 3 = 1) := by omega
        have q2 : ¬ (k * 3 = 2) := by omega
        have u0 := fz 0
        have u1 := fz 1
        have u2 := fz 2
        have u3 := fz (k * 3)
        have u4 := fz (k * 3 + 1)
        have u5 := fz (k * 3 + 2)
        have HO6' := hid (show Hid ((((wr.setCells g3 0 [.int .i32 k1, .int .i32 k2, .int .i64 kc]).setCells g3 (k * 3) [.int .i32 z1, .int .i32 z2, .int .i64 zc]).drew).ownsRow B3 36 3 (.slice (some ⟨g3, 0, none⟩) n p3) n _) from HO5)
        have HB6' := hid (show Hid (Below B3 w2 (((wr.setCells g3 0 [.int .i32 k1, .int .i32 k2, .int .i64 kc]).setCells g3 (k * 3) [.int .i32 z1, .int .i32 z2, .int .i64 zc]).drew)) from HB5)
        obtain ⟨WX, hWX⟩ : ∃ WX, WX = ((wr.setCells g3 0 [.int .i32 k1, .int .i32 k2, .int .i64 kc]).setCells g3 (k * 3) [.int .i32 z1, .int .i32 z2, .int .i64 zc]).drew := ⟨_, rfl⟩
        rw [← hWX] at HO6' HB6'
        have HO6 := HO6'.out
        have HB6 := HB6'.out
        have HWX := hid hWX
        clear hWX HO5 HB5 HO6' HB6'
        clear ck c0 o4 o5 b4 b5 hmk hm0 hy hz hk hs hy1 hy2 hML fz
        go_wp2_with fail
        go_region_law_o (fail)
        · rw [six_cells, ← HWX.out]
          go_wp2
          go_roundw
          case rel => exact ⟨i + 1, _, by go_num, by omega, HML5, HSW, HO6, HB6⟩
          case measure => simp [intOf]; omega
        · rw [six_cells, ← HWX.out]
          go_wp2
          go_roundw
          case rel => exact ⟨i + 1, _, by go_num, by omega, HML5, HSW, HO6, HB6⟩
          case measure => simp [intOf]; omega
    · obtain ⟨hb2, hs2⟩ := bo_same HBO.out HPM.out
      obtain ⟨hic, hl4, hfl⟩ := bo_none HBO.out
      have hw2 := HB2.out.size
      have HBW := hid (show Below w.heap.size w wr from HB2.out.trans (HBM.out.mono (by have h5 := HBE3.out; omega)))
      have HT3 := hid (show TbAt w1.heap.size T F r.toNat wr from HTb.out.below (by have h5 := HBE3.out; rw [← h5]; exact HBM.out))
      have HBU2 := hid (build_any (some ⟨g3, 0, none⟩) p3 M r wr (rd_ownL HOM.out) (by have h5 := HML.out; omega))
      rw [HML.out] at HBU2
      have HB2N := hid hb2
      have HS2 := hid hs2
      have HRS := hid (srt_ris l [] 0 trivial hfl)
      have HAL := hid (show (srt [] l).length ≤ 300 by
        have h5 := (srt_perm l []).length_eq
        rw [List.nil_append, List.length_map] at h5
        have h6 := HN.out
        omega)
      obtain ⟨r0, hr0⟩ : ∃ r0 : Nat, r = (r0 : Int) := ⟨r.toNat, by unfold icl at hic; have := of_decide_eq_true hic; omega⟩
      subst hr0
      have hr1 : r0 < 256 := by unfold icl at hic; have := of_decide_eq_true hic; omega
      have hrt : ((r0 : Int)).toNat = r0 := by omega
      rw [hrt] at HT3
      have HF2 := hid HF.out
      rw [hrt] at HF2
      have HIC := hid hic
      have HC8 := hid (show ∀ c ∈ F.flatten, c < 256 by rw [HF2.out]; exact clA_256 r0 _ hr1 HRS.out)
      have HCL := hid (show F.flatten.length = 1114112 by rw [HF2.out]; exact clA_len r0 _ HRS.out)
      clear hb2 hs2 hic hl4 hfl
      have hexit : ¬ i < m ∨ (i < m ∧ n = 0) := by omega
      rcases hexit with hx | ⟨hx, hx0⟩
      · have i3 : ¬ (i : Int) < (m : Int) := by omega
        clear hgo hx
        go_wp2_with fail
        refine HBU2.out.mono ?_
        rintro e w5 ⟨b5, hc⟩
        rw [HB2N.out, HS2.out] at hc
        rcases hc with ⟨c, k, hc, _⟩ | ⟨_, T2, F2, rfl, _, hF5, _, hT5⟩
        · cases hc
        rw [hrt] at hF5 hT5
        have hFF : F2 = F := by
          obtain ⟨_, _, _, _, ho5, _⟩ := hT5
          obtain ⟨_, _, _, _, ho, _⟩ := HT3.out
          exact flat_one ho5 ho (hF5.trans HF2.out.symm)
        subst hFF
        have HB5 := hid (HBW.out.trans (b5.mono HBW.out.size))
        have HT5 := hid (HT3.out.below b5)
        have HX5 := hid hT5
        have HRA := hid (ranges_any _ T r0 F2 w5 HT5.out hr1)
        have HRI := hid (rgs_ris r0 F2.flatten HCL.out HC8.out)
        have HRL := hid (show (rgs r0 F2.flatten).length ≤ 4096 by
          have h5 := rgs_len r0 (srt [] l)
          rw [← HF2.out] at h5
          have h6 := HAL.out
          omega)
        have HBK := hid (clA_rgs r0 F2.flatten HCL.out HC8.out)
        clear b5 hF5 hT5 HBU2
        go_wp2_with fail
        refine HRA.out.mono ?_
        rintro e w6 ⟨v6, rfl, o6, b6⟩
        obtain ⟨yo, yc, rfl⟩ := own_form o6
        have HB6 := hid (HB5.out.trans (b6.mono HB5.out.size))
        have HT6 := hid (HT5.out.below b6)
        have HX6 := hid (HX5.out.below b6)
        have HRE := hid (rest_any _ T r0 F2 w6 HT6.out hr1)
        have HBU3 := hid (build_any yo yc ((rgs r0 F2.flatten).map rkT) (r0 : Int) w6 (rd_own o6) (by rw [List.length_map]; have h5 := HRL.out; omega))
        rw [List.length_map] at HBU3
        obtain ⟨rl, hrl⟩ : ∃ rl, rl = (rgs r0 F2.flatten).length := ⟨_, rfl⟩
        rw [← hrl] at HBU3 ⊢
        obtain ⟨hb3, hs3⟩ := bo_self (A := rgs r0 F2.flatten) (r := (r0 : Int)) HIC.out HRI.out HRL.out
        have HB3N := hid hb3
        have HS3 := hid hs3
        clear o6 b6 HRA hrl hb3 hs3
        go_wp2_with (first | (go_at_call 33; refine HRE.out.mono ?_; rintro e w9 ⟨rfl, h9⟩; obtain rfl := h9.symm) | fail)
        refine HBU3.out.mono ?_
        rintro e w7 ⟨b7, hc⟩
        rw [HB3N.out, HS3.out] at hc
        rcases hc with ⟨c, k, hc, _⟩ | ⟨_, T3, F3, rfl, _, hF7, _, hT7⟩
        · cases hc
        rw [hrt] at hF7 hT7
        have hFF3 : F3 = F2 := by
          obtain ⟨_, _, _, _, ho7, _⟩ := hT7
          obtain ⟨_, _, _, _, ho, _⟩ := HT6.out
          exact flat_one ho7 ho (hF7.trans HBK.out)
        subst hFF3
        have HB7 := hid (HB6.out.trans (b7.mono HB6.out.size))
        have HT7 := hid (HT6.out.below b7)
        have HX7 := hid (HX6.out.below b7)
        have HY7 := hid hT7
        have HCZ := hid (cb_zero F3.flatten)
        clear b7 hF7 hT7 HBU3 HRE
        go_wp2
        go_loopw [20, 19] (fun x y wz => ∃ c : Nat, x = .int .i64 (c : Int) ∧ y = .int .i64 ((cb c F3.flatten : Nat) : Int) ∧ c ≤ 256 ∧ Hid (Below w7.heap.size w7 wz)) (fun x _ _ => 256 - (intOf x).toNat)
        case atStart => exact ⟨0, rfl, by rw [HCZ.out]; rfl, by omega, Below.refl _ _⟩
        case round =>
          obtain ⟨c, rfl, rfl, hc, HBC⟩ := hrel
          by_cases hcl : c < 256
          · have c3 : (c : Int) ≤ 255 := by omega
            have HCN := hid (count_any _ T r0 F3 (c : Int) wr (HT7.out.below HBC.out))
            have HNX := hid (cb_next c F3.flatten)
            have HLE := hid (show cb (c + 1) F3.flatten ≤ 1114112 by rw [← HCL.out]; exact List.countP_le_length)
            obtain ⟨s1, hs1⟩ : ∃ s1, s1 = cb c F3.flatten := ⟨_, rfl⟩
            obtain ⟨s2, hs2⟩ : ∃ s2, s2 = cz (c : Int) F3.flatten := ⟨_, rfl⟩
            rw [← hs1, ← hs2] at HNX
            rw [← hs2] at HCN
            rw [← hs1]
            have hsum : s1 + s2 ≤ 1114112 := by rw [← HNX.out]; exact HLE.out
            have es : IntKind.i64.wrap ((s1 : Int) + (s2 : Int)) = (s1 : Int) + (s2 : Int) := by rw [IntKind.wrap_i64]; omega
            have HSS := hid (show ((cb (c + 1) F3.flatten : Nat) : Int) = (s1 : Int) + (s2 : Int) by rw [HNX.out]; omega)
            clear hs1 hs2
            go_wp2_with fail
            refine HCN.out.mono ?_
            rintro e w8 ⟨rfl, b8⟩
            have HB8 := hid (HBC.out.trans (b8.mono HBC.out.size))
            clear b8 HCN
            go_wp2
            go_roundw
            case rel => exact ⟨c + 1, by go_num, by rw [HSS.out], by omega, HB8⟩
            case measure => simp [intOf]; omega
          · have c3 : ¬ (c : Int) ≤ 255 := by omega
            have hce : c = 256 := by omega
            have HCA := hid (show cb c F3.flatten = 1114112 by rw [hce, cb_all _ HC8.out]; exact HCL.out)
            rw [HCA.out]
            have HTz := hid (HT7.out.below HBC.out)
            have HXz := hid (HX7.out.below HBC.out)
            have HYz := hid (HY7.out.below HBC.out)
            have HBz := hid (HB7.out.trans (HBC.out.mono HB7.out.size))
            have HE1 := hid (equal_any _ _ T T2 r0 r0 F3 F3 wr HTz.out HXz.out)
            rw [decide_eq_true (show r0 = r0 ∧ F3 = F3 from ⟨rfl, rfl⟩)] at HE1
            clear hce
            go_wp2_with (first | (go_at_call 9; refine (num_any _ _).mono ?_; rintro e w9 ⟨rfl, h9⟩; obtain rfl := h9.symm) | fail)
            refine HE1.out.mono ?_
            rintro e wa ⟨rfl, ba⟩
            have HTa := hid (HTz.out.below ba)
            have HYa := hid (HYz.out.below ba)
            have HBa := hid (HBz.out.trans (ba.mono HBz.out.size))
            have HE2 := hid (equal_any _ _ T T3 r0 r0 F3 F3 wa HTa.out HYa.out)
            rw [decide_eq_true (show r0 = r0 ∧ F3 = F3 from ⟨rfl, rfl⟩)] at HE2
            clear ba HE1
            go_wp2_with fail
            refine HE2.out.mono ?_
            rintro e wb ⟨rfl, bb⟩
            have HBb := hid (HBa.out.trans (bb.mono HBa.out.size))
            clear bb HE2
            go_wp2_with fail
            refine (live_any _).mono ?_
            rintro e wc ⟨rfl, bc⟩
            have HBc := hid (HBb.out.trans (bc.mono HBb.out.size))
            clear bc
            go_wp2
            go_ret
            exact ⟨rfl, HBc.out⟩
      · have i3 : (i : Int) < (m : Int) := by omega
        have n0 : ¬ (0 : Int) < (n : Int) := by omega
        have HX0 := hid hx0
        clear hgo hx0
        go_wp2_with fail
        refine HBU2.out.mono ?_
        rintro e w5 ⟨b5, hc⟩
        rw [HB2N.out, HS2.out] at hc
        rcases hc with ⟨c, k, hc, _⟩ | ⟨_, T2, F2, rfl, _, hF5, _, hT5⟩
        · cases hc
        rw [hrt] at hF5 hT5
        have hFF : F2 = F := by
          obtain ⟨_, _, _, _, ho5, _⟩ := hT5
          obtain ⟨_, _, _, _, ho, _⟩ := HT3.out
          exact flat_one ho5 ho (hF5.trans HF2.out.symm)
        subst hFF
        have HB5 := hid (HBW.out.trans (b5.mono HBW.out.size))
        have HT5 := hid (HT3.out.below b5)
        have HX5 := hid hT5
        have HRA := hid (ranges_any _ T r0 F2 w5 HT5.out hr1)
        have HRI := hid (rgs_ris r0 F2.flatten HCL.out HC8.out)
        have HRL := hid (show (rgs r0 F2.flatten).length ≤ 4096 by
          have h5 := rgs_len r0 (srt [] l)
          rw [← HF2.out] at h5
          have h6 := HAL.out
          omega)
        have HBK := hid (clA_rgs r0 F2.flatten HCL.out HC8.out)
        clear b5 hF5 hT5 HBU2
        go_wp2_with fail
        refine HRA.out.mono ?_
        rintro e w6 ⟨v6, rfl, o6, b6⟩
        obtain ⟨yo, yc, rfl⟩ := own_form o6
        have HB6 := hid (HB5.out.trans (b6.mono HB5.out.size))
        have HT6 := hid (HT5.out.below b6)
        have HX6 := hid (HX5.out.below b6)
        have HRE := hid (rest_any _ T r0 F2 w6 HT6.out hr1)
        have HBU3 := hid (build_any yo yc ((rgs r0 F2.flatten).map rkT) (r0 : Int) w6 (rd_own o6) (by rw [List.length_map]; have h5 := HRL.out; omega))
        rw [List.length_map] at HBU3
        obtain ⟨rl, hrl⟩ : ∃ rl, rl = (rgs r0 F2.flatten).length := ⟨_, rfl⟩
        rw [← hrl] at HBU3 ⊢
        obtain ⟨hb3, hs3⟩ := bo_self (A := rgs r0 F2.flatten) (r := (r0 : Int)) HIC.out HRI.out HRL.out
        have HB3N := hid hb3
        have HS3 := hid hs3
        clear o6 b6 HRA hrl hb3 hs3
        go_wp2_with (first | (go_at_call 33; refine HRE.out.mono ?_; rintro e w9 ⟨rfl, h9⟩; obtain rfl := h9.symm) | fail)
        refine HBU3.out.mono ?_
        rintro e w7 ⟨b7, hc⟩
        rw [HB3N.out, HS3.out] at hc
        rcases hc with ⟨c, k, hc, _⟩ | ⟨_, T3, F3, rfl, _, hF7, _, hT7⟩
        · cases hc
        rw [hrt] at hF7 hT7
        have hFF3 : F3 = F2 := by
          obtain ⟨_, _, _, _, ho7, _⟩ := hT7
          obtain ⟨_, _, _, _, ho, _⟩ := HT6.out
          exact flat_one ho7 ho (hF7.trans HBK.out)
        subst hFF3
        have HB7 := hid (HB6.out.trans (b7.mono HB6.out.size))
        have HT7 := hid (HT6.out.below b7)
        have HX7 := hid (HX6.out.below b7)
        have HY7 := hid hT7
        have HCZ := hid (cb_zero F3.flatten)
        clear b7 hF7 hT7 HBU3 HRE
        go_wp2
        go_loopw [20, 19] (fun x y wz => ∃ c : Nat, x = .int .i64 (c : Int) ∧ y = .int .i64 ((cb c F3.flatten : Nat) : Int) ∧ c ≤ 256 ∧ Hid (Below w7.heap.size w7 wz)) (fun x _ _ => 256 - (intOf x).toNat)
        case atStart => exact ⟨0, rfl, by rw [HCZ.out]; rfl, by omega, Below.refl _ _⟩
        case round =>
          obtain ⟨c, rfl, rfl, hc, HBC⟩ := hrel
          by_cases hcl : c < 256
          · have c3 : (c : Int) ≤ 255 := by omega
            have HCN := hid (count_any _ T r0 F3 (c : Int) wr (HT7.out.below HBC.out))
            have HNX := hid (cb_next c F3.flatten)
            have HLE := hid (show cb (c + 1) F3.flatten ≤ 1114112 by rw [← HCL.out]; exact List.countP_le_length)
            obtain ⟨s1, hs1⟩ : ∃ s1, s1 = cb c F3.flatten := ⟨_, rfl⟩
            obtain ⟨s2, hs2⟩ : ∃ s2, s2 = cz (c : Int) F3.flatten := ⟨_, rfl⟩
            rw [← hs1, ← hs2] at HNX
            rw [← hs2] at HCN
            rw [← hs1]
            have hsum : s1 + s2 ≤ 1114112 := by rw [← HNX.out]; exact HLE.out
            have es : IntKind.i64.wrap ((s1 : Int) + (s2 : Int)) = (s1 : Int) + (s2 : Int) := by rw [IntKind.wrap_i64]; omega
            have HSS := hid (show ((cb (c + 1) F3.flatten : Nat) : Int) = (s1 : Int) + (s2 : Int) by rw [HNX.out]; omega)
            clear hs1 hs2
            go_wp2_with fail
            refine HCN.out.mono ?_
            rintro e w8 ⟨rfl, b8⟩
            have HB8 := hid (HBC.out.trans (b8.mono HBC.out.size))
            clear b8 HCN
            go_wp2
            go_roundw
            case rel => exact ⟨c + 1, by go_num, by rw [HSS.out], by omega, HB8⟩
            case measure => simp [intOf]; omega
          · have c3 : ¬ (c : Int) ≤ 255 := by omega
            have hce : c = 256 := by omega
            have HCA := hid (show cb c F3.flatten = 1114112 by rw [hce, cb_all _ HC8.out]; exact HCL.out)
            rw [HCA.out]
            have HTz := hid (HT7.out.below HBC.out)
            have HXz := hid (HX7.out.below HBC.out)
            have HYz := hid (HY7.out.below HBC.out)
            have HBz := hid (HB7.out.trans (HBC.out.mono HB7.out.size))
            have HE1 := hid (equal_any _ _ T T2 r0 r0 F3 F3 wr HTz.out HXz.out)
            rw [decide_eq_true (show r0 = r0 ∧ F3 = F3 from ⟨rfl, rfl⟩)] at HE1
            clear hce
            go_wp2_with (first | (go_at_call 9; refine (num_any _ _).mono ?_; rintro e w9 ⟨rfl, h9⟩; obtain rfl := h9.symm) | fail)
            refine HE1.out.mono ?_
            rintro e wa ⟨rfl, ba⟩
            have HTa := hid (HTz.out.below ba)
            have HYa := hid (HYz.out.below ba)
            have HBa := hid (HBz.out.trans (ba.mono HBz.out.size))
            have HE2 := hid (equal_any _ _ T T3 r0 r0 F3 F3 wa HTa.out HYa.out)
            rw [decide_eq_true (show r0 = r0 ∧ F3 = F3 from ⟨rfl, rfl⟩)] at HE2
            clear ba HE1
            go_wp2_with fail
            refine HE2.out.mono ?_
            rintro e wb ⟨rfl, bb⟩
            have HBb := hid (HBa.out.trans (bb.mono HBa.out.size))
            clear bb HE2
            go_wp2_with fail
            refine (live_any _).mono ?_
            rintro e wc ⟨rfl, bc⟩
            have HBc := hid (HBb.out.trans (bc.mono HBb.out.size))
            clear bc
            go_wp2
            go_ret
            exact ⟨rfl, HBc.out⟩
end Go.Proofs.Ytljlhlcoaajggaa
/- The contract of asks (the statements' own): a table that tells what the document's does is found so. -/
namespace Go.Proofs.Ytljlhlcoaajggaa
open Go.RowKit

/-- Runes as they can be read. -/
def RdZ (w : World) (ao : Option Addr) (l : List Int) : Prop := ∀ (k : Nat) (z : Int), l[k]? = some z → ∃ a : Addr, ao = some a ∧ a.block < w.heap.size ∧ w.cell? (a.add k) = some (.int .i32 z)
theorem RdZ.below {w w' : World} {ao : Option Addr} {l : List Int} (h : RdZ w ao l) (hb : Below w.heap.size w w') : RdZ w' ao l := fun k c hk => by
  obtain ⟨a, h1, h2, h3⟩ := h k c hk
  exact ⟨a, h1, Nat.lt_of_lt_of_le h2 hb.size, (hb.cell (p := a.add k) (by rw [add_blk]; exact h2)).trans h3⟩
theorem RdZ.nil (w : World) (ao : Option Addr) : RdZ w ao [] := fun k z h => by simp at h
theorem TbAt.heap {B T r : Nat} {F : List (List Nat)} {w w' : World} (h : TbAt B T F r w) (e : w'.heap = w.heap) : TbAt B T F r w' := by
  obtain ⟨g, cap, hT, hr, ho, h8, hF⟩ := h
  refine ⟨g, cap, by rw [e]; exact hT, ⟨hr.1, ?_⟩, ho, h8, hF⟩
  rw [e]; exact hr.2
theorem RtAt.heap {B P r : Nat} {L : List Tr} {w w' : World} (h : RtAt B P L r w) (e : w'.heap = w.heap) : RtAt B P L r w' := by
  obtain ⟨v, h1, h2⟩ := h
  exact ⟨v, by rw [e]; exact h1, h2.1, by rw [e]; exact h2.2⟩
/-- A range of rising ranges has its class at both its ends. -/
theorem gtR_mem (r : Nat) : ∀ (A : List Tr) (b : Nat), Ris b A → ∀ g ∈ A, gtR r (g.1 : Int) A = g.2.2 ∧ gtR r (g.2.1 : Int) A = g.2.2
  | [], _, _, g, h => by cases h
  | x :: A, b, hR, g, h => by
    obtain ⟨h1, h2, h3, h4, h5⟩ := hR
    have e : ∀ z : Int, gtR r z (x :: A) = if ((x.1 : Int) ≤ z ∧ z ≤ (x.2.1 : Int)) then x.2.2 else gtR r z A := fun z => rfl
    rcases List.mem_cons.1 h with rfl | h
    · rw [e, e, if_pos (by omega), if_pos (by omega)]; exact ⟨rfl, rfl⟩
    · have ih := gtR_mem r A (x.2.1 + 1) h5 g h
      obtain ⟨k1, k2, k3, k4⟩ := ris_mem h5 g h
      rw [e, e, if_neg (by omega), if_neg (by omega)]; exact ih

set_option maxHeartbeats 6000000 in
set_option maxRecDepth 100000 in
theorem asks_any (B T r B' P : Nat) (F : List (List Nat)) (L : List Tr) (ro : Option Addr) (rc : Nat) (zs : List Int) (l : List UInt8) (w : World) (h : TbAt B T F r w) (hF : F.flatten = clA r L) (hr : r < 256) (hR : Ris 0 L) (hN : rgs r (clA r L) = L) (hP : RtAt B' P L r w) (hz : RdZ w ro zs) (hzl : zs.length ≤ 1000000000) (hl : l.length ≤ 1000000000) :
    Calls Try.prog 19 #[.pointer (some ⟨T, 0, none⟩), .pointer (some ⟨P, 0, none⟩), .slice ro zs.length rc, .string ⟨l.toArray⟩] w fun e w' => e = .returned (.bool true) ∧ Below w.heap.size w w' := by
  obtain ⟨N, hNE⟩ : ∃ N, N = w.heap.size := ⟨_, rfl⟩
  have hlen := ris_len L 0 (by omega) hR
  have HTB := hid (show ∀ W, Below N w W → TbAt B T F r W from fun W hW => h.below (by rw [← hNE]; exact hW))
  have HPB := hid (show ∀ W, Below N w W → RtAt B' P L r W from fun W hW => hP.below (by rw [← hNE]; exact hW))
  have HZB := hid (show ∀ W, Below N w W → RdZ W ro zs from fun W hW => hz.below (by rw [← hNE]; exact hW))
  obtain ⟨gz, hgz⟩ : ∃ gz : Int → Int, gz = fun z => ((gtR r z L : Nat) : Int) := ⟨_, rfl⟩
  have HG := hid (show ∀ (z : Int) (V W : World), Below N w V → W.heap = V.heap → Calls Try.prog 34 #[.pointer (some ⟨T, 0, none⟩), .int .i32 z] W fun e w' => e = .returned (.int .i64 (gz z)) ∧ ∃ n, w' = W.drewN n from fun z V W hV hW => by
    rw [hgz]; exact getZ B T r F L z W ((HTB.out V hV).heap hW) hF hr hR)
  have HH := hid (show ∀ (z : Int) (V W : World), Below N w V → W.heap = V.heap → Calls Try.prog 45 #[.pointer (some ⟨P, 0, none⟩), .int .i32 z] W fun e w' => e = .returned (.int .i64 (gz z)) ∧ w' = W from fun z V W hV hW => by
    rw [hgz]; exact rget_any B' P L r z W ((HPB.out V hV).heap hW) (by omega))
  have HGM := hid (show ∀ g ∈ L, gz (g.1 : Int) = (g.2.2 : Int) ∧ gz (g.2.1 : Int) = (g.2.2 : Int) from fun g hg => by
    obtain ⟨a, b⟩ := gtR_mem r L 0 hR g hg
    rw [hgz]; dsimp only; rw [a, b]; exact ⟨rfl, rfl⟩)
  have HRN := hid hN
  have HR := hid hR
  have HFL := hid hF
  obtain ⟨n, hn⟩ : ∃ n, n = zs.length := ⟨_, rfl⟩
  have HNZ := hid hn
  rw [← hn] at hzl ⊢
  rw [← hNE]
  have HNE := hid hNE
  have HRG := hid (show ∀ W, Below N w W → Calls Try.prog 32 #[.pointer (some ⟨T, 0, none⟩)] W fun e w' => ∃ vo vc, e = .returned (.slice vo L.length vc) ∧ w'.ownsRow W.heap.size 36 3 (.slice vo L.length vc) L.length (rks L) ∧ Below W.heap.size W w' from fun W hW => by
    refine (ranges_any B T r F W (HTB.out W hW) hr).mono ?_
    rintro e w' ⟨v', rfl, o1, b1⟩
    rw [hF, hN] at o1
    obtain ⟨vo, vc, rfl⟩ := own_form o1
    exact ⟨vo, vc, rfl, o1, b1⟩)
  have HRS := hid (show ∀ W, Below N w W → Calls Try.prog 33 #[.pointer (some ⟨T, 0, none⟩)] W fun e w' => e = .returned (.int .i64 (r : Int)) ∧ w' = W from fun W hW => rest_any B T r F W (HTB.out W hW) hr)
  have HCL := hid (show ∀ W, Below N w W → Calls Try.prog 47 #[.pointer (some ⟨T, 0, none⟩), .string ⟨l.toArray⟩] W fun e w' => ∃ v, e = .returned v ∧ w'.ownsRow W.heap.size 3 1 v (prs l).length (g64 r L (prs l)) ∧ Below W.heap.size W w' from fun W hW => classes_any B T r F L l W (HTB.out W hW) hF hr hR (by omega))
  have HRC := hid (show ∀ W, Below N w W → Calls Try.prog 48 #[.pointer (some ⟨P, 0, none⟩), .string ⟨l.toArray⟩] W fun e w' => ∃ v, e = .returned v ∧ w'.ownsRow W.heap.size 3 1 v (prs l).length (g64 r L (prs l)) ∧ Below W.heap.size W w' from fun W hW => rclasses_any B' P r L l W (HPB.out W hW) (by omega) (by omega))
  have HPL := hid (show ∀ (W1 W2 : World) (u v : Value) (B1 B2 : Nat), W1.ownsRow B1 3 1 u (prs l).length (g64 r L (prs l)) → Below W1.heap.size W1 W2 → W2.ownsRow B2 3 1 v (prs l).length (g64 r L (prs l)) → Calls Try.prog 46 #[u, v] W2 fun e w' => e = .returned (.bool true) ∧ Below W2.heap.size W2 w' from fun W1 W2 u v B1 B2 h1 h2 h3 => by
    have e1 : (prs l).length = ((prs l).map fun x => ((gtR r x.2 L : Nat) : Int)).length := by simp
    have e2 : g64 r L (prs l) = ((prs l).map fun x => ((gtR r x.2 L : Nat) : Int)).map (Value.int .i64) := by simp [g64]
    rw [e1, e2] at h1 h3
    have hpl := prs_len l
    exact places_any u v _ W2 (by simp; omega) ((Reads.of_row h1).below h2) (Reads.of_row h3))
  obtain ⟨ao, ac, d0, d1, hPs, ho⟩ := hP.row
  obtain ⟨nL, hnL⟩ : ∃ nL, nL = L.length := ⟨_, rfl⟩
  rw [← hnL] at d0 hlen HRG
  have HNL := hid hnL
  have HPC := hid (show ∀ W, Below N w W → W.cell? ⟨P, 0, none⟩ = some (.slice ao nL ac) ∧ W.cell? ⟨P, 1, none⟩ = some (.int .i64 (r : Int)) from fun W hW => ⟨(hW.cell (p := ⟨P, 0, none⟩) (by rw [hNE]; exact hPs)).trans d0, (hW.cell (p := ⟨P, 1, none⟩) (by rw [hNE]; exact hPs)).trans d1⟩)
  have HRK := hid (show ∀ W, Below N w W → RdK W ao (L.map rkT) from fun W hW => (rd_own ho).below (by rw [← hNE]; exact hW))
  have hB0 : Below N w w := by rw [hNE]; exact Below.refl _ _
  have HB00 := hid hB0
  clear h hF hR hN hP hz hgz hn hnL d0 d1 hPs ho hB0 hNE
  go_enter Try.func19, Try.ntmps19
  go_wp2
  go_loopw [9] (fun x wr => ∃ (i : Nat), x = .int .i64 (i : Int) ∧ i ≤ n ∧ Hid (Below N w wr)) (fun x _ => n - (intOf x).toNat)
  case atStart => exact ⟨0, rfl, by omega, HB00⟩
  case round =>
    obtain ⟨i, rfl, hi, HB⟩ := hrel
    by_cases hlt : i < n
    · have hiz : i < zs.length := by have h5 := HNZ.out; omega
      obtain ⟨a, rfl, ha, a0⟩ := HZB.out wr HB.out i zs[i] (List.getElem?_eq_getElem hiz)
      obtain ⟨z, hze⟩ : ∃ z, z = zs[i] := ⟨_, rfl⟩
      rw [← hze] at a0
      have i3 : (i : Int) < (n : Int) := by omega
      have i0 : (0 : Int) ≤ (i : Int) := by omega
      have HG1 := hid (fun W (hW : W.heap = wr.heap) => HG.out z wr W HB.out hW)
      have HH1 := hid (fun W (hW : W.heap = wr.heap) => HH.out z wr W HB.out hW)
      clear hze hiz
      go_wp2_with fail
      go_region_held3 (fun w' => w'.cell? (a.add i) = some (.int .i32 z)) (go_keep) (first | (go_at_call 34; refine (HG1.out _ (by rfl)).mono ?_; rintro e w5 ⟨rfl, n5, rfl⟩) | (go_at_call 45; refine (HH1.out _ (by rfl)).mono ?_; rintro e w6 ⟨rfl, hw6⟩; obtain rfl := hw6.symm))
      have HBN := hid (HB.out.trans (below_drewN N wr (1 + n5)))
      go_wp2
      go_roundw
      case rel => exact ⟨i + 1, by go_num, by omega, HBN⟩
      case measure => simp [intOf]; omega
    · have i3 : ¬ (i : Int) < (n : Int) := by omega
      go_wp2
      go_loopw [10] (fun x wr => ∃ (k : Nat), x = .int .i64 (k : Int) ∧ k ≤ nL ∧ Hid (Below N w wr)) (fun x _ => nL - (intOf x).toNat)
      case atStart => exact ⟨0, rfl, by omega, HB⟩
      case round =>
        obtain ⟨k, rfl, hk, HB2⟩ := hrel
        obtain ⟨d0, d1⟩ := HPC.out wr HB2.out
        have hwN : N ≤ wr.heap.size := by have h5 := HNE.out; have h6 := HB2.out.size; omega
        by_cases hlt2 : k < nL
        · have hkL : k < L.length := by have h5 := HNL.out; omega
          obtain ⟨a, rfl, ha, c0, c1, c2⟩ := HRK.out wr HB2.out k (rkT L[k]) (by rw [List.getElem?_map, List.getElem?_eq_getElem hkL]; rfl)
          obtain ⟨g1, g2⟩ := HGM.out L[k] (List.getElem_mem hkL)
          obtain ⟨h1, h2, h3, h4⟩ := ris_mem HR.out L[k] (List.getElem_mem hkL)
          unfold rkT at c0 c1 c2
          obtain ⟨gx, hx⟩ : ∃ gx, L[k] = gx := ⟨_, rfl⟩
          rw [hx] at c0 c1 c2 g1 g2 h1 h2 h3 h4
          obtain ⟨lo, hh, cl⟩ := gx
          dsimp only at c0 c1 c2 g1 g2 h1 h2 h3 h4
          obtain ⟨lm, hlm⟩ : ∃ lm : Int, lm = (lo : Int) - 1 := ⟨_, rfl⟩
          obtain ⟨hp, hhp⟩ : ∃ hp : Int, hp = (hh : Int) + 1 := ⟨_, rfl⟩
          have k1 : IntKind.i32.wrap ((lo : Int) - 1) = lm := by rw [IntKind.wrap_i32]; omega
          have k2 : IntKind.i32.wrap ((hh : Int) + 1) = hp := by rw [IntKind.wrap_i32]; omega
          have t1 : (gz (lo : Int) != (cl : Int)) = false := by rw [g1]; simp
          have t2 : (gz (hh : Int) != (cl : Int)) = false := by rw [g2]; simp
          have i3' : (k : Int) < (nL : Int) := by omega
          have i0' : (0 : Int) ≤ (k : Int) := by omega
          have HBV := hid (HB2.out.alloc hwN (.cells #[.int .i32 (lo : Int), .int .i32 (hh : Int), .int .i64 (cl : Int)] 36))
          have HGX := hid (heap_alloc_new wr (.cells #[.int .i32 (lo : Int), .int .i32 (hh : Int), .int .i64 (cl : Int)] 36))
          have HG2 := hid (fun z W (hW : W.heap = (wr.alloc (.cells #[.int .i32 (lo : Int), .int .i32 (hh : Int), .int .i64 (cl : Int)] 36)).heap) => HG.out z _ W HBV.out hW)
          have HH2 := hid (fun z W (hW : W.heap = (wr.alloc (.cells #[.int .i32 (lo : Int), .int .i32 (hh : Int), .int .i64 (cl : Int)] 36)).heap) => HH.out z _ W HBV.out hW)
          clear hx hkL g1 g2 hlm hhp h1
          go_wp2_with fail
          have HBQ := hid (fun q => HBV.out.trans (below_drewN N (wr.alloc (.cells #[.int .i32 (lo : Int), .int .i32 (hh : Int), .int .i64 (cl : Int)] 36)) q))
          go_region_held3 (fun w' => w'.cell? ⟨wr.heap.size, 0, none⟩ = some (.int .i32 (lo : Int)) ∧ w'.cell? ⟨wr.heap.size, 1, none⟩ = some (.int .i32 (hh : Int)) ∧ w'.cell? ⟨wr.heap.size, 2, none⟩ = some (.int .i64 (cl : Int))) (go_keep) (first | (go_at_call 34; refine (HG2.out _ _ (by rfl)).mono ?_; rintro e w5 ⟨rfl, n5, rfl⟩) | (go_at_call 45; refine (HH2.out _ _ (by rfl)).mono ?_; rintro e w6 ⟨rfl, hw6⟩; obtain rfl := hw6.symm))
          go_wp2
          go_roundw
          case rel => exact ⟨k + 1, by go_num, by omega, HBQ.out _⟩
          case measure => simp [intOf]; omega
        · have i3' : ¬ (k : Int) < (nL : Int) := by omega
          go_wp2_with fail
          refine (HRG.out wr HB2.out).mono ?_
          rintro e w1 ⟨vo, vc, rfl, o1, b1⟩
          obtain ⟨N1, hN1⟩ : ∃ N1, N1 = wr.heap.size := ⟨_, rfl⟩
          rw [← hN1] at o1 b1 hwN
          have HO1 := hid o1
          have HB1 := hid (HB2.out.trans (b1.mono hwN))
          have HRV := hid (show RdK w1 vo (L.map rkT) by have h5 := HNL.out; rw [h5] at o1; exact rd_own o1)
          have hN1s : N1 ≤ w1.heap.size := by have h5 := b1.size; omega
          have HSM := hid (show ∀ W, Below w1.heap.size w1 W → Calls Try.prog 14 #[.slice vo nL vc, .slice ao nL ac] W fun e w' => e = .returned (.bool true) ∧ Below W.heap.size W w' from fun W hW => by
            have h5 := same3_any vo ao vc ac (L.map rkT) (L.map rkT) W (HRV.out.below hW) (HRK.out W (HB1.out.trans (hW.mono (Nat.le_trans hwN hN1s)))) (by have h6 := HNL.out; rw [List.length_map]; omega)
            rw [List.length_map, ← HNL.out] at h5
            refine h5.mono ?_
            rintro e w' ⟨rfl, h6⟩
            exact ⟨by simp, h6⟩)
          have HBD := hid (show Below N w w1.drew from HB1.out.trans ⟨rfl, rfl, rfl, Nat.le_refl _, fun _ _ => rfl⟩)
          have HDD := hid (show Below w1.heap.size w1 w1.drew from ⟨rfl, rfl, rfl, Nat.le_refl _, fun _ _ => rfl⟩)
          have hNw : N ≤ w1.heap.size := Nat.le_trans hwN hN1s
          obtain ⟨e0, e1⟩ := HPC.out w1 HB1.out
          clear o1 b1 hN1 d0 d1
          go_wp2_with fail
          go_region_held3 (fun w' => w'.cell? ⟨P, 0, none⟩ = some (.slice ao nL ac) ∧ w'.cell? ⟨P, 1, none⟩ = some (.int .i64 (r : Int))) (first | exact HSS.out | exact HSC.out | exact HSD.out | exact HSP.out | go_keep) (first | (go_at_call 14; refine (HSM.out _ HDD.out).mono ?_; rintro e wS ⟨rfl, bS⟩; have HBS := hid (HBD.out.trans (bS.mono hNw)); have HDS := hid (HDD.out.trans bS); have HSS := hid (HPC.out wS HBS.out)) | (go_at_call 33; refine (HRS.out _ HBS.out).mono ?_; rintro e w9 ⟨rfl, hw9⟩; obtain rfl := hw9.symm) | (go_at_call 47; refine (HCL.out _ HBS.out).mono ?_; rintro e wC ⟨vC, rfl, oC, bC⟩; have hSs := HDS.out.size; have HBC := hid (HBS.out.trans (bC.mono (by omega))); have HDC := hid (HDS.out.trans (bC.mono hSs)); have HOC := hid oC; have HSC := hid (HPC.out wC HBC.out)) | (go_at_call 48; refine (HRC.out _ HBC.out).mono ?_; rintro e wD ⟨vD, rfl, oD, bD⟩; have hCs := HDC.out.size; have HBE := hid (HBC.out.trans (bD.mono (by omega))); have HDE := hid (HDC.out.trans (bD.mono hCs)); have HOD := hid oD; have HbD := hid bD; have HSD := hid (HPC.out wD HBE.out)) | (go_at_call 46; refine (HPL.out _ _ _ _ _ _ HOC.out HbD.out HOD.out).mono ?_; rintro e wP ⟨rfl, bP⟩; have hDs := HDE.out.size; have HBP := hid (HBE.out.trans (bP.mono (by omega))); have HDP := hid (HDE.out.trans (bP.mono hDs)); have HSP := hid (HPC.out wP HBP.out)))
          have HOP := hid (own_keep HO1.out HDP.out)
          have hN1P : N1 ≤ wP.heap.size := by have h5 := HDP.out.size; omega
          clear bS oC bC oD bD bP e0 e1 HBS HDS HSS HBC HDC HOC HSC HBE HDE HOD HbD HSD hSs hCs hDs HSM HBD HDD HRV HO1 HB1
          go_wp2
          go_loopw [13] (fun x wr => ∃ (j : Nat) (U : List Value), x = .int .i64 (j : Int) ∧ j ≤ nL ∧ Hid (wr.ownsRow N1 36 3 (.slice vo nL vc) nL U) ∧ Hid (Below N w wr)) (fun x _ => nL - (intOf x).toNat)
          case atStart => exact ⟨0, _, rfl, by omega, HOP, HBP⟩
          case round =>
            obtain ⟨j, U, rfl, hj, HOJ, HBJ⟩ := hrel
            by_cases hlt3 : j < nL
            · obtain ⟨q, cap', hve, hqB, hqw⟩ := HOJ.out.form (by omega)
              cases hve
              have hU : U.length = nL * 3 := HOJ.out.1
              have cc : ∀ c, c < 3 → ∃ u, wr.cell? ⟨q, j * 3 + c, none⟩ = some u := fun c hc => by
                rw [HOJ.out.cellAt _ (by omega)]
                exact ⟨_, List.getElem?_eq_getElem (by omega)⟩
              obtain ⟨u0, f0⟩ := cc 0 (by omega)
              obtain ⟨u1, f1⟩ := cc 1 (by omega)
              obtain ⟨u2, f2⟩ := cc 2 (by omega)
              have z0 : wr.frozen? ⟨q, j * 3, none⟩ = false := HOJ.out.frozenAt _
              have z1 : wr.frozen? ⟨q, j * 3 + 1, none⟩ = false := HOJ.out.frozenAt _
              have z2 : wr.frozen? ⟨q, j * 3 + 2, none⟩ = false := HOJ.out.frozenAt _
              have j3 : (j : Int) < (nL : Int) := by omega
              have j0 : (0 : Int) ≤ (j : Int) := by omega
              rw [Nat.add_zero] at f0
              clear cc
              have HSJ := hid (own_sets [.int .i32 0, .int .i32 0, .int .i64 99] (j * 3) U wr HOJ.out)
              have HBJ2 := hid (HBJ.out.trans (HSJ.out.2.mono hwN))
              go_wp2
              go_roundw
              case rel => exact ⟨j + 1, _, by go_num, by omega, HSJ.out.1, HBJ2⟩
              case measure => simp [intOf]; omega
            · have j3 : ¬ (j : Int) < (nL : Int) := by omega
              obtain ⟨e0, e1⟩ := HPC.out wr HBJ.out
              have HBD := hid (show Below N w wr.drew from HBJ.out.trans ⟨rfl, rfl, rfl, Nat.le_refl _, fun _ _ => rfl⟩)
              have hNr : N ≤ wr.drew.heap.size := by have h5 := HNE.out; have h6 := HBD.out.size; omega
              have HLS := hid (show ∀ (W1 : World) (vo : Option Addr) (vc B0 : Nat), W1.ownsRow B0 36 3 (.slice vo nL vc) nL (rks L) → Below N w W1 → Calls Try.prog 14 #[.slice vo nL vc, .slice ao nL ac] W1 fun e w' => e = .returned (.bool true) ∧ Below W1.heap.size W1 w' from fun W1 vo vc B0 h1 h2 => by
                rw [HNL.out] at h1
                have h5 := same3_any vo ao vc ac (L.map rkT) (L.map rkT) W1 (rd_own h1) (HRK.out W1 h2) (by have h6 := HNL.out; rw [List.length_map]; omega)
                rw [List.length_map, ← HNL.out] at h5
                refine h5.mono ?_
                rintro e w' ⟨rfl, h6⟩
                exact ⟨by simp, h6⟩)
              clear HOJ HOP
              go_wp2_with fail
              go_region_held3 (fun w' => w'.cell? ⟨P, 0, none⟩ = some (.slice ao nL ac)) (first | exact HSS.out | exact HSP.out | go_keep) (first | (go_at_call 32; refine (HRG.out _ HBD.out).mono ?_; rintro e wS ⟨vo2, vc2, rfl, oS, bS⟩; have HBS := hid (HBD.out.trans (bS.mono hNr)); have HOS := hid oS; have HSS := hid (HPC.out wS HBS.out).1) | (go_at_call 14; refine (HLS.out _ _ _ _ HOS.out HBS.out).mono ?_; rintro e wP ⟨rfl, bP⟩; have hNS : N ≤ wS.heap.size := (by have h5 := HNE.out; have h6 := HBS.out.size; omega); have HBP := hid (HBS.out.trans (bP.mono hNS)); have HSP := hid (HPC.out wP HBP.out).1))
              go_wp2
              go_ret
              exact ⟨rfl, HBP.out⟩
end Go.Proofs.Ytljlhlcoaajggaa
/- The contract of both (the statements' own): the program's table and the document's. -/
namespace Go.Proofs.Ytljlhlcoaajggaa
open Go.RowKit

/-- The program's table at T and the document's at P are the same: of the ranges L, in their normal form. -/
structure Twin (B T P r : Nat) (F : List (List Nat)) (L : List Tr) (w : World) : Prop where
  t : TbAt B T F r w
  p : RtAt B P L r w
  f : F.flatten = clA r L
  lt : r < 256
  ris : Ris 0 L
  nrm : rgs r (clA r L) = L
theorem Twin.below {B T P r : Nat} {F : List (List Nat)} {L : List Tr} {w w' : World} (h : Twin B T P r F L w) (hb : Below w.heap.size w w') : Twin B T P r F L w' := ⟨h.t.below hb, h.p.below hb, h.f, h.lt, h.ris, h.nrm⟩
theorem RtAt.mono {B B' P r : Nat} {L : List Tr} {w : World} (h : RtAt B P L r w) (hb : B' ≤ B) : RtAt B' P L r w := by
  obtain ⟨v, h1, h2⟩ := h
  exact ⟨v, h1, own_mono h2 hb⟩
theorem Twin.mono {B B' T P r : Nat} {F : List (List Nat)} {L : List Tr} {w : World} (h : Twin B T P r F L w) (hb : B' ≤ B) : Twin B' T P r F L w := ⟨h.t.mono hb, h.p.mono hb, h.f, h.lt, h.ris, h.nrm⟩
theorem icl_lt {r : Int} (h : icl r = true) : r.toNat < 256 ∧ ((r.toNat : Nat) : Int) = r := by
  unfold icl at h
  have := of_decide_eq_true h
  omega
theorem twin_of (l : List Rk) (r : Int) (hb : bo l r = none) : r.toNat < 256 ∧ Ris 0 (nrA r.toNat [] (srt [] l)) ∧ clA r.toNat (nrA r.toNat [] (srt [] l)) = clA r.toNat (srt [] l) ∧ rgs r.toNat (clA r.toNat (nrA r.toNat [] (srt [] l))) = nrA r.toNat [] (srt [] l) := by
  obtain ⟨h1, _, h2⟩ := bo_none hb
  have h3 := (icl_lt h1).1
  have h4 := srt_ris l [] 0 trivial h2
  have h5 := nrA_rgs r.toNat h3 _ h4
  have h6 := clA_len r.toNat _ h4
  have h7 := clA_256 r.toNat _ h3 h4
  have h8 := clA_rgs r.toNat _ h6 h7
  rw [h5]
  refine ⟨h3, rgs_ris _ _ h6 h7, h8, by rw [h8]⟩

theorem results_tmp4 {fn : Func} {t u v x : Tmp} (h : fn.results = #[.tmp t, .tmp u, .tmp v, .tmp x]) (tmps : Array Value) (P : Program) (w : World) :
    (results fn tmps).run P w = .ok (.tuple #[tmps.getD t undef, tmps.getD u undef, tmps.getD v undef, tmps.getD x undef]) w := by
  simp [results, h]
set_option maxHeartbeats 2000000 in
set_option maxRecDepth 100000 in
theorem both_any (ao : Option Addr) (ac : Nat) (l : List Rk) (r : Int) (w : World) (ha : RdK w ao l) (hna : ao = none → ac = 0) (hl : l.length ≤ 100000) :
    Calls Try.prog 20 #[.slice ao l.length ac, .int .i64 r] w fun e w' => Below w.heap.size w w' ∧
      ((bo l r ≠ none ∧ e = .returned (.tuple #[.pointer none, .pointer none, .bool false, .bool true])) ∨
       (bo l r = none ∧ ∃ T P F L, e = .returned (.tuple #[.pointer (some ⟨T, 0, none⟩), .pointer (some ⟨P, 0, none⟩), .bool true, .bool true]) ∧ Twin w.heap.size T P r.toNat F L w')) := by
  have HA := hid ha
  have HO := hid (own_any ao ac l w ha hna (by omega))
  obtain ⟨n, hn⟩ : ∃ n, n = l.length := ⟨_, rfl⟩
  have HN := hid hn
  rw [← hn] at HO ⊢
  clear ha hn
  go_enter Try.func20, Try.ntmps20
  go_wp2_with fail
  refine HO.out.mono ?_
  rintro e w1 ⟨g1, p1, rfl, o1, b1⟩
  have HB1 := hid b1
  have HBU := hid (build_any (some ⟨g1, 0, none⟩) p1 l r w1 (rd_ownL o1) (by have h5 := HN.out; omega))
  rw [← HN.out] at HBU
  clear o1 b1 HO
  go_wp2_with fail
  refine HBU.out.mono ?_
  rintro e w2 ⟨b2, hc⟩
  have HB2 := hid (HB1.out.trans (b2.mono HB1.out.size))
  have hs1 := HB1.out.size
  have hs2 := HB2.out.size
  have HRB := hid (rbuild_any ao ac l r w2 (HA.out.below HB2.out) (by have h5 := HN.out; omega))
  rw [← HN.out] at HRB
  clear b2 HBU
  rcases hc with ⟨c, k, hc, rfl⟩ | ⟨hbo, T, F, rfl, hTs, hF, hsl, hTb⟩
  · have HC := hid hc
    clear hc
    go_wp2_with fail
    refine HRB.out.mono ?_
    rintro e w3 ⟨b3, hd⟩
    have HB3 := hid (HB2.out.trans (b3.mono hs2))
    clear b3 HRB
    rcases hd with ⟨c', k', hc', rfl⟩ | ⟨hbo, _⟩
    · rw [HC.out] at hc'
      cases hc'
      have HNO := hid (show bo l r ≠ none by rw [HC.out]; simp)
      go_wp2_with (first | (go_at_call 9; refine (num_any _ _).mono ?_; rintro e w9 ⟨rfl, h9⟩; obtain rfl := h9.symm) | fail)
      refine bodyPost_ret (results_tmp4 rfl _ _ _) rfl ?_
      exact ⟨HB3.out, .inl ⟨HNO.out, rfl⟩⟩
    · rw [HC.out] at hbo
      cases hbo
  · have HBO := hid hbo
    have HF := hid hF
    have HTb := hid hTb
    clear hbo hF hTb
    go_wp2_with fail
    refine HRB.out.mono ?_
    rintro e w3 ⟨b3, hd⟩
    have HB3 := hid (HB2.out.trans (b3.mono hs2))
    have HT3 := hid ((HTb.out.below b3).mono hs1)
    clear b3 HRB
    rcases hd with ⟨c', k', hc', rfl⟩ | ⟨hbo, P, rfl, hPs, hPt⟩
    · rw [HBO.out] at hc'
      cases hc'
    · have HPT := hid (hPt.mono hs2)
      clear hbo hPt
      go_wp2_with (first | (go_at_call 9; refine (num_any _ _).mono ?_; rintro e w9 ⟨rfl, h9⟩; obtain rfl := h9.symm) | fail)
      refine bodyPost_ret (results_tmp4 rfl _ _ _) rfl ?_
      obtain ⟨q1, q2, q3, q4⟩ := twin_of l r HBO.out
      exact ⟨HB3.out, .inr ⟨HBO.out, T, P, F, _, rfl, HT3.out, HPT.out, by rw [q3]; exact HF.out, q1, q2, q4⟩⟩
end Go.Proofs.Ytljlhlcoaajggaa
/- The contract of take (package kerfref03). -/
namespace Go.Proofs.Ytljlhlcoaajggaa
open Go.RowKit

/-- A number of a few bytes: it, where it ends, and whether there is one. -/
def tkF (t : Nat) : Nat → Nat → Nat → List Nat → Nat × Nat × Bool
  | 0, _, _, _ => (0, 0, false)
  | _ + 1, _, _, [] => (0, 0, false)
  | f + 1, i, n, c :: r => if c < 128 then (n + c % 128 * 2 ^ (7 * i), t + i + 1, decide (i = 0) || decide (0 < c)) else tkF t f (i + 1) (n + c % 128 * 2 ^ (7 * i)) r
def tkR (b : List Nat) (t : Nat) : Nat × Nat × Bool := tkF t 4 0 0 (b.drop t)
def tkV (x : Nat × Nat × Bool) : Value := .tuple #[.int .i64 (x.1 : Int), .int .i64 (x.2.1 : Int), .bool x.2.2]

set_option maxHeartbeats 4000000 in
set_option maxRecDepth 100000 in
theorem take_any (ao : Option Addr) (ac : Nat) (b : List Nat) (t : Nat) (w : World) (hb : RdU w ao b) (h8 : ∀ c ∈ b, c < 256) (hl : b.length ≤ 1000000000) (ht : t ≤ 1000000000) :
    Calls Try.prog 59 #[.slice ao b.length ac, .int .i64 (t : Int)] w fun e w' => e = .returned (tkV (tkR b t)) ∧ w' = w := by
  have HR := hid hb
  have H8 := hid h8
  obtain ⟨n, hn⟩ : ∃ n, n = b.length := ⟨_, rfl⟩
  rw [← hn] at hl ⊢
  have HN := hid hn
  have HT0 := hid (show tkR b t = tkF t (4 - 0) 0 0 (b.drop (t + 0)) from rfl)
  clear hb h8 hn
  go_enter Try.func59, Try.ntmps59
  go_wp2
  go_loopw [8, 7] (fun x y wr => ∃ (i s : Nat), x = .int .i64 (i : Int) ∧ y = .int .i64 (s : Int) ∧ i ≤ 4 ∧ s < 2 ^ (7 * i) ∧ Hid (tkR b t = tkF t (4 - i) i s (b.drop (t + i))) ∧ Hid (wr = w)) (fun x _ _ => 4 - (intOf x).toNat)
  case atStart => exact ⟨0, 0, rfl, rfl, by omega, by decide, HT0, rfl⟩
  case round =>
    obtain ⟨i, s, rfl, rfl, hi, hs, HT, HWW⟩ := hrel
    obtain rfl := HWW.out.symm
    have h5 : i = 0 ∨ i = 1 ∨ i = 2 ∨ i = 3 ∨ i = 4 := by omega
    clear hi
    rcases h5 with rfl | rfl | rfl | rfl | rfl
    · obtain rfl : s = 0 := by have h6 : s < 1 := hs; omega
      clear hs
      by_cases hlt : t < n
      · have hib : t < b.length := by have h5 := HN.out; omega
        obtain ⟨a, rfl, _, a0⟩ := HR.out (t) b[t] (List.getElem?_eq_getElem hib)
        have h256 := H8.out b[t] (List.getElem_mem hib)
        have HDR := hid (show b.drop (t) = b[t] :: b.drop (t + 1) from List.drop_eq_getElem_cons hib)
        obtain ⟨c, hc⟩ : ∃ c, c = b[t] := ⟨_, rfl⟩
        rw [← hc] at a0 h256 HDR
        have HT1 := hid (show tkR b t = if c < 128 then (0 + c % 128, t + 1, decide (0 = 0) || decide (0 < c)) else tkF t (4 - 1) 1 (0 + c % 128) (b.drop (t + 1)) by rw [HT.out, Nat.add_zero, HDR.out]; show (if c < 128 then (0 + c % 128 * 2 ^ (7 * 0), t + 0 + 1, decide (0 = 0) || decide (0 < c)) else tkF t 3 (0 + 1) (0 + c % 128 * 2 ^ (7 * 0)) (b.drop (t + 1))) = _; simp)
        obtain ⟨d, hd⟩ : ∃ d, d = c % 128 := ⟨_, rfl⟩
        rw [← hd] at HT1
        have e1 : (c : Int) % 128 = (d : Int) := by omega
        have e2 : IntKind.i64.wrap (c : Int) = (c : Int) := by rw [IntKind.wrap_i64]; omega
        have hd2 : d < 128 := by omega
        have e3 : IntKind.i64.wrap (d : Int) = (d : Int) := by rw [IntKind.wrap_i64]; omega
        have e4 : IntKind.i64.wrap ((t : Int) + 1) = ((t + 1 : Nat) : Int) := by rw [IntKind.wrap_i64]; omega
        have j3 : ¬ (n : Int) ≤ (t : Int) := by omega
        have j4 : (t : Int) < (n : Int) := by omega
        have j0 : (0 : Int) ≤ (t : Int) := by omega
        have hs2 : d < 2 ^ (7 * 1) := by show d < 128; omega
        rw [Nat.zero_add] at HT1
        clear hc hd HT HDR
        by_cases hc : c < 128
        · have hc' : (c : Int) < 128 := by omega
          rw [if_pos hc] at HT1
          clear hc
          go_wp2
          go_ret3
          exact ⟨by rw [HT1.out]; rfl, rfl⟩
        · have hc' : ¬ (c : Int) < 128 := by omega
          rw [if_neg hc] at HT1
          have HT2 := hid (show tkR b t = tkF t (4 - 1) 1 d (b.drop (t + 1)) from HT1.out)
          clear hc
          go_wp2
          go_roundw
          case rel => exact ⟨1, d, by go_num, rfl, by omega, hs2, HT2, by first | exact (trivial : True) | rfl⟩
          case measure => simp [intOf]
      · have HTE := hid (show tkR b t = (0, 0, false) by rw [HT.out, List.drop_of_length_le (by have h5 := HN.out; omega)]; rfl)
        have j3 : (n : Int) ≤ ((t : Nat) : Int) := by omega
        go_wp2
        go_ret3
        exact ⟨by rw [HTE.out]; rfl, rfl⟩
    · have hs' : s < 128 := hs
      have i1 : IntKind.i64.wrap ((t : Int) + 1) = ((t + 1 : Nat) : Int) := by rw [IntKind.wrap_i64]; omega
      clear hs
      by_cases hlt : t + 1 < n
      · have hib : t + 1 < b.length := by have h5 := HN.out; omega
        obtain ⟨a, rfl, _, a0⟩ := HR.out (t + 1) b[t + 1] (List.getElem?_eq_getElem hib)
        have h256 := H8.out b[t + 1] (List.getElem_mem hib)
        have HDR := hid (show b.drop (t + 1) = b[t + 1] :: b.drop (t + 1 + 1) from List.drop_eq_getElem_cons hib)
        obtain ⟨c, hc⟩ : ∃ c, c = b[t + 1] := ⟨_, rfl⟩
        rw [← hc] at a0 h256 HDR
        have HT1 := hid (show tkR b t = if c < 128 then (s + c % 128 * 128, t + 1 + 1, decide (1 = 0) || decide (0 < c)) else tkF t (4 - 2) 2 (s + c % 128 * 128) (b.drop (t + 1 + 1)) by rw [HT.out, HDR.out]; rfl)
        obtain ⟨j, hj⟩ : ∃ j, j = t + 1 := ⟨_, rfl⟩
        rw [← hj] at a0 i1 hlt
        have HJ := hid hj
        obtain ⟨d, hd⟩ : ∃ d, d = c % 128 := ⟨_, rfl⟩
        rw [← hd] at HT1
        have e1 : (c : Int) % 128 = (d : Int) := by omega
        have e2 : IntKind.i64.wrap (c : Int) = (c : Int) := by rw [IntKind.wrap_i64]; omega
        have hd2 : d < 128 := by omega
        have ew : wrap64 ((d : Int) * 128) = (d : Int) * 128 := by unfold wrap64; omega
        have e3 : IntKind.i64.wrap ((s : Int) + (d : Int) * 128) = ((s + d * 128 : Nat) : Int) := by rw [IntKind.wrap_i64]; omega
        have e4 : IntKind.i64.wrap ((j : Int) + 1) = ((j + 1 : Nat) : Int) := by rw [IntKind.wrap_i64]; omega
        have j3 : ¬ (n : Int) ≤ (j : Int) := by omega
        have j4 : (j : Int) < (n : Int) := by omega
        have j0 : (0 : Int) ≤ (j : Int) := by omega
        have hs2 : s + d * 128 < 2 ^ (7 * 2) := Nat.lt_of_lt_of_eq (Nat.add_lt_add_of_lt_of_le hs' (Nat.mul_le_mul_right 128 (show d ≤ 127 by omega))) (show 128 + 127 * 128 = 2 ^ (7 * 2) by decide)
        obtain ⟨s2, hse⟩ : ∃ s2, s2 = s + d * 128 := ⟨_, rfl⟩
        rw [← hse] at HT1 e3 hs2
        clear hc hd hj hse HT HDR
        by_cases hc : c < 128
        · have hc' : (c : Int) < 128 := by omega
          rw [if_pos hc] at HT1
          clear hc
          go_wp2
          go_ret3
          exact ⟨by rw [HT1.out]; have h5 := HJ.out; subst h5; simp [tkV], rfl⟩
        · have hc' : ¬ (c : Int) < 128 := by omega
          rw [if_neg hc] at HT1
          have HT2 := hid (show tkR b t = tkF t (4 - 2) 2 s2 (b.drop (t + 2)) from HT1.out)
          clear hc
          go_wp2
          go_roundw
          case rel => exact ⟨2, s2, by go_num, rfl, by omega, hs2, HT2, by first | exact (trivial : True) | rfl⟩
          case measure => simp [intOf]
      · have HTE := hid (show tkR b t = (0, 0, false) by rw [HT.out, List.drop_of_length_le (by have h5 := HN.out; omega)]; rfl)
        have j3 : (n : Int) ≤ ((t + 1 : Nat) : Int) := by omega
        go_wp2
        go_ret3
        exact ⟨by rw [HTE.out]; rfl, rfl⟩
    · have hs' : s < 16384 := hs
      have i1 : IntKind.i64.wrap ((t : Int) + 2) = ((t + 2 : Nat) : Int) := by rw [IntKind.wrap_i64]; omega
      clear hs
      by_cases hlt : t + 2 < n
      · have hib : t + 2 < b.length := by have h5 := HN.out; omega
        obtain ⟨a, rfl, _, a0⟩ := HR.out (t + 2) b[t + 2] (List.getElem?_eq_getElem hib)
        have h256 := H8.out b[t + 2] (List.getElem_mem hib)
        have HDR := hid (show b.drop (t + 2) = b[t + 2] :: b.drop (t + 2 + 1) from List.drop_eq_getElem_cons hib)
        obtain ⟨c, hc⟩ : ∃ c, c = b[t + 2] := ⟨_, rfl⟩
        rw [← hc] at a0 h256 HDR
        have HT1 := hid (show tkR b t = if c < 128 then (s + c % 128 * 16384, t + 2 + 1, decide (2 = 0) || decide (0 < c)) else tkF t (4 - 3) 3 (s + c % 128 * 16384) (b.drop (t + 2 + 1)) by rw [HT.out, HDR.out]; rfl)
        obtain ⟨j, hj⟩ : ∃ j, j = t + 2 := ⟨_, rfl⟩
        rw [← hj] at a0 i1 hlt
        have HJ := hid hj
        obtain ⟨d, hd⟩ : ∃ d, d = c % 128 := ⟨_, rfl⟩
        rw [← hd] at HT1
        have e1 : (c : Int) % 128 = (d : Int) := by omega
        have e2 : IntKind.i64.wrap (c : Int) = (c : Int) := by rw [IntKind.wrap_i64]; omega
        have hd2 : d < 128 := by omega
        have ew : wrap64 ((d : Int) * 16384) = (d : Int) * 16384 := by unfold wrap64; omega
        have e3 : IntKind.i64.wrap ((s : Int) + (d : Int) * 16384) = ((s + d * 16384 : Nat) : Int) := by rw [IntKind.wrap_i64]; omega
        have e4 : IntKind.i64.wrap ((j : Int) + 1) = ((j + 1 : Nat) : Int) := by rw [IntKind.wrap_i64]; omega
        have j3 : ¬ (n : Int) ≤ (j : Int) := by omega
        have j4 : (j : Int) < (n : Int) := by omega
        have j0 : (0 : Int) ≤ (j : Int) := by omega
        have hs2 : s + d * 16384 < 2 ^ (7 * 3) := Nat.lt_of_lt_of_eq (Nat.add_lt_add_of_lt_of_le hs' (Nat.mul_le_mul_right 16384 (show d ≤ 127 by omega))) (show 16384 + 127 * 16384 = 2 ^ (7 * 3) by decide)
        obtain ⟨s2, hse⟩ : ∃ s2, s2 = s + d * 16384 := ⟨_, rfl⟩
        rw [← hse] at HT1 e3 hs2
        clear hc hd hj hse HT HDR
        by_cases hc : c < 128
        · have hc' : (c : Int) < 128 := by omega
          rw [if_pos hc] at HT1
          clear hc
          go_wp2
          go_ret3
          exact ⟨by rw [HT1.out]; have h5 := HJ.out; subst h5; simp [tkV], rfl⟩
        · have hc' : ¬ (c : Int) < 128 := by omega
          rw [if_neg hc] at HT1
          have HT2 := hid (show tkR b t = tkF t (4 - 3) 3 s2 (b.drop (t + 3)) from HT1.out)
          clear hc
          go_wp2
          go_roundw
          case rel => exact ⟨3, s2, by go_num, rfl, by omega, hs2, HT2, by first | exact (trivial : True) | rfl⟩
          case measure => simp [intOf]
      · have HTE := hid (show tkR b t = (0, 0, false) by rw [HT.out, List.drop_of_length_le (by have h5 := HN.out; omega)]; rfl)
        have j3 : (n : Int) ≤ ((t + 2 : Nat) : Int) := by omega
        go_wp2
        go_ret3
        exact ⟨by rw [HTE.out]; rfl, rfl⟩
    · have hs' : s < 2097152 := hs
      have i1 : IntKind.i64.wrap ((t : Int) + 3) = ((t + 3 : Nat) : Int) := by rw [IntKind.wrap_i64]; omega
      clear hs
      by_cases hlt : t + 3 < n
      · have hib : t + 3 < b.length := by have h5 := HN.out; omega
        obtain ⟨a, rfl, _, a0⟩ := HR.out (t + 3) b[t + 3] (List.getElem?_eq_getElem hib)
        have h256 := H8.out b[t + 3] (List.getElem_mem hib)
        have HDR := hid (show b.drop (t + 3) = b[t + 3] :: b.drop (t + 3 + 1) from List.drop_eq_getElem_cons hib)
        obtain ⟨c, hc⟩ : ∃ c, c = b[t + 3] := ⟨_, rfl⟩
        rw [← hc] at a0 h256 HDR
        have HT1 := hid (show tkR b t = if c < 128 then (s + c % 128 * 2097152, t + 3 + 1, decide (3 = 0) || decide (0 < c)) else tkF t (4 - 4) 4 (s + c % 128 * 2097152) (b.drop (t + 3 + 1)) by rw [HT.out, HDR.out]; rfl)
        obtain ⟨j, hj⟩ : ∃ j, j = t + 3 := ⟨_, rfl⟩
        rw [← hj] at a0 i1 hlt
        have HJ := hid hj
        obtain ⟨d, hd⟩ : ∃ d, d = c % 128 := ⟨_, rfl⟩
        rw [← hd] at HT1
        have e1 : (c : Int) % 128 = (d : Int) := by omega
        have e2 : IntKind.i64.wrap (c : Int) = (c : Int) := by rw [IntKind.wrap_i64]; omega
        have hd2 : d < 128 := by omega
        have ew : wrap64 ((d : Int) * 2097152) = (d : Int) * 2097152 := by unfold wrap64; omega
        have e3 : IntKind.i64.wrap ((s : Int) + (d : Int) * 2097152) = ((s + d * 2097152 : Nat) : Int) := by rw [IntKind.wrap_i64]; omega
        have e4 : IntKind.i64.wrap ((j : Int) + 1) = ((j + 1 : Nat) : Int) := by rw [IntKind.wrap_i64]; omega
        have j3 : ¬ (n : Int) ≤ (j : Int) := by omega
        have j4 : (j : Int) < (n : Int) := by omega
        have j0 : (0 : Int) ≤ (j : Int) := by omega
        have hs2 : s + d * 2097152 < 2 ^ (7 * 4) := Nat.lt_of_lt_of_eq (Nat.add_lt_add_of_lt_of_le hs' (Nat.mul_le_mul_right 2097152 (show d ≤ 127 by omega))) (show 2097152 + 127 * 2097152 = 2 ^ (7 * 4) by decide)
        obtain ⟨s2, hse⟩ : ∃ s2, s2 = s + d * 2097152 := ⟨_, rfl⟩
        rw [← hse] at HT1 e3 hs2
        clear hc hd hj hse HT HDR
        by_cases hc : c < 128
        · have hc' : (c : Int) < 128 := by omega
          rw [if_pos hc] at HT1
          clear hc
          go_wp2
          go_ret3
          exact ⟨by rw [HT1.out]; have h5 := HJ.out; subst h5; simp [tkV], rfl⟩
        · have hc' : ¬ (c : Int) < 128 := by omega
          rw [if_neg hc] at HT1
          have HT2 := hid (show tkR b t = tkF t (4 - 4) 4 s2 (b.drop (t + 4)) from HT1.out)
          clear hc
          go_wp2
          go_roundw
          case rel => exact ⟨4, s2, by go_num, rfl, by omega, hs2, HT2, by first | exact (trivial : True) | rfl⟩
          case measure => simp [intOf]
      · have HTE := hid (show tkR b t = (0, 0, false) by rw [HT.out, List.drop_of_length_le (by have h5 := HN.out; omega)]; rfl)
        have j3 : (n : Int) ≤ ((t + 3 : Nat) : Int) := by omega
        go_wp2
        go_ret3
        exact ⟨by rw [HTE.out]; rfl, rfl⟩
    · have HTE := hid (show tkR b t = (0, 0, false) from HT.out.trans rfl)
      clear hs
      go_wp2
      go_ret3
      exact ⟨by rw [HTE.out]; rfl, rfl⟩
end Go.Proofs.Ytljlhlcoaajggaa
/- The contract of Load (package kerfref03): what it takes is what rl takes. -/
namespace Go.Proofs.Ytljlhlcoaajggaa
open Go.RowKit

theorem tkF_is (t : Nat) : ∀ (f i n : Nat) (bs : List Nat), match tkq f bs with
    | none => (tkF t f i n bs).2.2 = false
    | some (v, r) => if i = 0 ∨ 0 < v then tkF t f i n bs = (n + v * 2 ^ (7 * i), t + i + (bs.length - r.length), true) else (tkF t f i n bs).2.2 = false
  | 0, i, n, bs => rfl
  | f + 1, i, n, [] => rfl
  | f + 1, i, n, c :: rs => by
    by_cases hc : c < 128
    · have e1 : tkq (f + 1) (c :: rs) = some (c, rs) := by unfold tkq; rw [if_pos hc]
      have e2 : tkF t (f + 1) i n (c :: rs) = (n + c % 128 * 2 ^ (7 * i), t + i + 1, decide (i = 0) || decide (0 < c)) := by unfold tkF; rw [if_pos hc]
      rw [e1]
      dsimp only
      rw [e2, Nat.mod_eq_of_lt hc]
      split
      · rename_i h
        have h5 : (decide (i = 0) || decide (0 < c)) = true := by simpa using h
        rw [h5, List.length_cons, show rs.length + 1 - rs.length = 1 by omega]
      · rename_i h
        show (decide (i = 0) || decide (0 < c)) = false
        rw [← Bool.not_eq_true]
        intro h5
        exact h (by simpa using h5)
    · have e2 : tkF t (f + 1) i n (c :: rs) = tkF t f (i + 1) (n + c % 128 * 2 ^ (7 * i)) rs := by
        conv => lhs; unfold tkF
        rw [if_neg hc]
      have ih := tkF_is t f (i + 1) (n + c % 128 * 2 ^ (7 * i)) rs
      rw [e2]
      cases hq : tkq f rs with
      | none =>
        have e1 : tkq (f + 1) (c :: rs) = none := by unfold tkq; rw [if_neg hc, hq]
        rw [hq] at ih
        rw [e1]
        exact ih
      | some y =>
        obtain ⟨v, r⟩ := y
        rw [hq] at ih
        dsimp only at ih
        by_cases hv : v = 0
        · have e1 : tkq (f + 1) (c :: rs) = none := by unfold tkq; rw [if_neg hc, hq]; dsimp only; rw [if_pos hv]
          rw [e1]
          dsimp only
          rw [if_neg (by omega)] at ih
          exact ih
        · have e1 : tkq (f + 1) (c :: rs) = some (c % 128 + 128 * v, r) := by unfold tkq; rw [if_neg hc, hq]; dsimp only; rw [if_neg hv]
          rw [e1]
          dsimp only
          rw [if_pos (by omega)] at ih
          obtain ⟨_, k, k1, k2, k3⟩ := tkq_lt f rs v r hq
          have hl : r.length ≤ rs.length := by rw [k3, List.length_drop]; omega
          rw [if_pos (by omega), ih, List.length_cons]
          have p1 : 2 ^ (7 * (i + 1)) = 2 ^ (7 * i) * 128 := by rw [show 7 * (i + 1) = 7 * i + 7 by omega, Nat.pow_add]
          rw [p1]
          have p2 : v * (2 ^ (7 * i) * 128) = 128 * v * 2 ^ (7 * i) := by rw [Nat.mul_comm (2 ^ (7 * i)) 128, ← Nat.mul_assoc, Nat.mul_comm v 128]
          rw [p2, Nat.add_mul, Nat.add_assoc, show t + (i + 1) + (rs.length - r.length) = t + i + (rs.length + 1 - r.length) by omega]
theorem tkR_cases (b : List Nat) (t : Nat) (ht : t ≤ b.length) : (tk (b.drop t) = none ∧ (tkR b t).2.2 = false) ∨ ∃ v t', tk (b.drop t) = some (v, b.drop t') ∧ tkR b t = (v, t', true) ∧ t < t' ∧ t' ≤ b.length ∧ v < 268435456 := by
  have h := tkF_is t 4 0 0 (b.drop t)
  cases hq : tkq 4 (b.drop t) with
  | none => rw [hq] at h; exact .inl ⟨hq, h⟩
  | some y =>
    obtain ⟨v, r⟩ := y
    rw [hq] at h
    dsimp only at h
    rw [if_pos (.inl rfl)] at h
    obtain ⟨h1, k, k1, k2, k3⟩ := tkq_lt 4 (b.drop t) v r hq
    rw [List.length_drop] at k2
    have hr : r = b.drop (t + k) := by rw [k3, List.drop_drop]
    refine .inr ⟨v, t + k, by show tkq 4 _ = _; rw [hq, hr], ?_, by omega, by omega, h1⟩
    show tkF t 4 0 0 (b.drop t) = _
    rw [h, k3]
    simp only [List.length_drop]
    rw [show t + 0 + (b.length - t - (b.length - t - k)) = t + k by omega]
    simp
theorem take_c (ao : Option Addr) (ac : Nat) (b : List Nat) (t : Nat) (w : World) (hb : RdU w ao b) (h8 : ∀ c ∈ b, c < 256) (hl : b.length ≤ 1000000000) (ht : t ≤ b.length) :
    Calls Try.prog 59 #[.slice ao b.length ac, .int .i64 (t : Int)] w fun e w' => w' = w ∧ ((tk (b.drop t) = none ∧ ∃ x y : Nat, e = .returned (.tuple #[.int .i64 (x : Int), .int .i64 (y : Int), .bool false])) ∨ ∃ v t' : Nat, tk (b.drop t) = some (v, b.drop t') ∧ e = .returned (.tuple #[.int .i64 (v : Int), .int .i64 (t' : Int), .bool true]) ∧ t < t' ∧ t' ≤ b.length ∧ v < 268435456) := by
  refine (take_any ao ac b t w hb h8 hl (by omega)).mono ?_
  rintro e w' ⟨rfl, rfl⟩
  refine ⟨rfl, ?_⟩
  rcases tkR_cases b t ht with ⟨h1, h2⟩ | ⟨v, t', h1, h2, h3, h4, h5⟩
  · exact .inl ⟨h1, _, _, by unfold tkV; rw [h2]⟩
  · exact .inr ⟨v, t', h1, by rw [h2]; rfl, h3, h4, h5⟩

theorem rdL_n1 {r n nx : Nat} {p : Option Nat} {c : List Nat} (h : tk c = none) : rdL r (n + 1) nx p c = none := by unfold rdL; rw [h]
theorem rdL_n2 {r n nx g : Nat} {p : Option Nat} {c c1 : List Nat} (h : tk c = some (g, c1)) (h2 : tk c1 = none) : rdL r (n + 1) nx p c = none := by unfold rdL; rw [h]; dsimp only; rw [h2]
theorem rdL_n3 {r n nx g m : Nat} {p : Option Nat} {c c1 c2 : List Nat} (h : tk c = some (g, c1)) (h2 : tk c1 = some (m, c2)) (h3 : c2 = []) : rdL r (n + 1) nx p c = none := by unfold rdL; rw [h]; dsimp only; rw [h2]; dsimp only; rw [h3]
theorem rdL_go {r n nx g m k : Nat} {p : Option Nat} {c c1 c2 c3 : List Nat} (h : tk c = some (g, c1)) (h2 : tk c1 = some (m, c2)) (h3 : c2 = k :: c3) : rdL r (n + 1) nx p c = if 1114111 < nx + g + m then none else if k = r ∨ (g = 0 ∧ p = some k) then none else (rdL r n (nx + g + m + 1) (some k) c3).map ((nx + g, nx + g + m, k) :: ·) := by
  conv => lhs; unfold rdL
  rw [h]; dsimp only; rw [h2]; dsimp only; rw [h3]
theorem map_none' {L : List Tr} {o q : Option (List Tr)} (h : o.map (L ++ ·) = q) (ho : o = none) : q = none := by rw [← h, ho]; rfl
theorem map_go {L : List Tr} {x : Tr} {o o' q : Option (List Tr)} (h : o.map (L ++ ·) = q) (ho : o = o'.map (x :: ·)) : o'.map ((L ++ [x]) ++ ·) = q := by
  rw [← h, ho, Option.map_map]
  congr 1
  funext y
  simp
theorem QAt.set {P : Nat} {v c : Value} {w : World} (h : w.heap[P]? = some (.cells #[v, c] 74 (0, 0))) (u : Value) : (w.setCell ⟨P, 0, none⟩ u).heap[P]? = some (.cells #[u, c] 74 (0, 0)) ∧ Sx P w (w.setCell ⟨P, 0, none⟩ u) := by
  refine ⟨?_, ?_⟩
  · have := heap_setCell_same w P 0 #[v, c] 74 u h
    exact this
  · have hb := (Below.refl P w).setCell (p := ⟨P, 0, none⟩) (Nat.le_refl P) u
    refine ⟨hb.os, hb.tape, hb.output, ?_, fun k hk => ?_⟩
    · exact World.size_setCell _ _ _
    · exact Below.heap_setCell w _ _ _ (by show k ≠ P; exact hk)
/-- The document's table, its rows above it. -/
def QtAt (P : Nat) (L : List Tr) (r : Nat) (w : World) : Prop := ∃ v, w.heap[P]? = some (.cells #[v, .int .i64 (r : Int)] 74 (0, 0)) ∧ w.ownsRow (P + 1) 36 3 v L.length (rks L)
theorem QtAt.rt {P r : Nat} {L : List Tr} {w : World} (h : QtAt P L r w) : RtAt P P L r w := by
  obtain ⟨v, h1, h2⟩ := h
  refine ⟨v, h1, h2.1, ?_⟩
  rcases h2.2 with h' | ⟨q, cap, cur, hv, hB, rest⟩
  · exact .inl h'
  · exact .inr ⟨q, cap, cur, hv, by omega, rest⟩
set_option maxHeartbeats 6000000 in
set_option maxRecDepth 100000 in
theorem rload_any (ao : Option Addr) (ac : Nat) (b : List Nat) (w : World) (hb : RdU w ao b) (h8 : ∀ c ∈ b, c < 256) (hl : b.length ≤ 100000000) :
    Calls Try.prog 29 #[.slice ao b.length ac] w fun e w' => Below w.heap.size w w' ∧
      ((rl b = none ∧ e = .returned (.tuple #[.pointer none, .int .i64 31])) ∨
       (∃ P L, rl b = some L ∧ e = .returned (.tuple #[.pointer (some ⟨P, 0, none⟩), .int .i64 0]) ∧ w.heap.size ≤ P ∧ RtAt w.heap.size P L (ldr b) w')) := by
  obtain ⟨i0, hi36, hz0, hz1, hz2⟩ := info_parts Try.info36
  by_cases hbn : b = []
  · subst hbn
    have HZ := hid (show rl [] = none from rfl)
    clear hb h8 hl
    go_enter Try.func29, Try.ntmps29
    go_wp2
    go_ret2
    exact ⟨Below.refl _ _, .inl ⟨HZ.out, rfl⟩⟩
  · have hrr : ∃ r, b[0]? = some r ∧ r < 256 ∧ ldr b = r ∧ rl b = match tk (b.drop 1) with | none => none | some (n, c1) => rdL r n 0 none c1 := by
      cases b with
      | nil => exact absurd rfl hbn
      | cons r c => exact ⟨r, rfl, h8 r (by simp), rfl, rfl⟩
    obtain ⟨r, hr0, hr, hlr, hrl⟩ := hrr
    have HLR := hid hlr
    have HRL := hid hrl
    have hn1 : 1 ≤ b.length := by
      cases b with
      | nil => exact absurd rfl hbn
      | cons r c => simp
    have HRB := hid hb
    have HTK := hid (fun (t : Nat) (W : World) (hW : RdU W ao b) (ht : t ≤ b.length) => take_c ao ac b t W hW h8 (by omega) ht)
    obtain ⟨a, rfl, ha, a0⟩ := hb 0 r hr0
    rw [add_nil] at a0
    obtain ⟨n, hn⟩ : ∃ n, n = b.length := ⟨_, rfl⟩
    rw [← hn] at hl hn1 HTK ⊢
    have HN := hid hn
    obtain ⟨P, hP⟩ : ∃ P, P = w.heap.size := ⟨_, rfl⟩
    have HPE := hid hP
    have H8 := hid h8
    have HRA := hid (show ∀ W, Below P w W → RdU W (some a) b from fun W hW => HRB.out.below (by rw [← hP]; exact hW))
    rw [← hP]
    have e1 : IntKind.i64.wrap (r : Int) = (r : Int) := by rw [IntKind.wrap_i64]; omega
    have n0 : ((n : Int) == 0) = false := by simp; omega
    have n1 : (0 : Int) < (n : Int) := by omega
    clear hb h8 hr0 hlr hrl hbn hn
    go_enter Try.func29, Try.ntmps29
    go_wp2_with fail
    refine (HTK.out 1 w HRB.out hn1).mono ?_
    rintro e w' ⟨hw, hcs⟩
    obtain rfl := hw.symm
    have HBA := hid (show Below P w (w.alloc (.cells #[.slice none 0 0, .int .i64 (r : Int)] 74)) by rw [hP]; exact (Below.refl _ _).alloc (Nat.le_refl _) _)
    have HPA := hid (show QtAt P [] r (w.alloc (.cells #[.slice none 0 0, .int .i64 (r : Int)] 74)) from ⟨_, by rw [hP]; exact heap_alloc_new w _, World.ownsRow_nil _ _ _ _⟩)
    have HSA := hid (show P < (w.alloc (.cells #[.slice none 0 0, .int .i64 (r : Int)] 74)).heap.size by rw [hP]; simp)
    clear hP
    rcases hcs with ⟨hk, xv, yv, rfl⟩ | ⟨v, t1, hk, rfl, hk1, hk2, hk3⟩
    · have HNO := hid (show rl b = none by rw [HRL.out, hk])
      clear hk
      go_wp2
      rw [← HPE.out]
      go_loopw [5, 6, 8, 9] (fun x y z u wr => x = .int .i64 (yv : Int) ∧ y = .bool false ∧ z = .int .i64 0 ∧ u = .int .i64 0 ∧ Hid (Below P w wr)) (fun _ _ _ _ _ => 0)
      case atStart => exact ⟨rfl, rfl, rfl, rfl, HBA⟩
      case round =>
        obtain ⟨rfl, rfl, rfl, rfl, HB⟩ := hrel
        by_cases hx : 0 < xv
        · have hx' : (0 : Int) < (xv : Int) := by omega
          go_wp2
          go_ret2
          exact ⟨HB.out, .inl ⟨HNO.out, rfl⟩⟩
        · have hx' : ¬ (0 : Int) < (xv : Int) := by omega
          go_wp2
          go_ret2
          exact ⟨HB.out, .inl ⟨HNO.out, rfl⟩⟩
    · have HR1 := hid (show (rdL r (v - 0) 0 (lcl []) (b.drop t1)).map (([] : List Tr) ++ ·) = rl b by
        rw [HRL.out, hk]; simp [lcl])
      clear hk
      go_wp2
      rw [← HPE.out]
      go_loopw [5, 6, 8, 9] (fun x y z u wr => ∃ (t i nx : Nat) (L : List Tr), x = .int .i64 (t : Int) ∧ y = .bool true ∧ z = .int .i64 (nx : Int) ∧ u = .int .i64 (i : Int) ∧ i ≤ v ∧ t ≤ n ∧ nx ≤ 1114112 ∧ i ≤ nx ∧ Hid (L.length = i) ∧ Hid ((rdL r (v - i) nx (lcl L) (b.drop t)).map (L ++ ·) = rl b) ∧ Hid (QtAt P L r wr) ∧ Hid (Below P w wr) ∧ Hid (P < wr.heap.size)) (fun _ _ _ u _ => v - (intOf u).toNat)
      case atStart => exact ⟨t1, 0, 0, [], rfl, rfl, rfl, rfl, by omega, hk2, by omega, by omega, rfl, HR1, HPA, HBA, HSA⟩
      case round =>
        obtain ⟨t, i, nx, L, rfl, rfl, rfl, rfl, hi, ht, hnx, hinx, HLI, HLD, HPT, HB, HS⟩ := hrel
        by_cases hlt : i < v
        · have i3 : (i : Int) < (v : Int) := by omega
          obtain ⟨f, hf⟩ : ∃ f, v - i = f + 1 := ⟨v - i - 1, by omega⟩
          rw [hf] at HLD
          have HF := hid (show v - (i + 1) = f by omega)
          clear hf
          go_wp2_with fail
          refine (HTK.out t wr (HRA.out wr HB.out) ht).mono ?_
          rintro e w' ⟨hw, hcs⟩
          obtain rfl := hw.symm
          rcases hcs with ⟨hk, xv, yv, rfl⟩ | ⟨g, t2, hk, rfl, hk4, hk5, hk6⟩
          · have HNO := hid (map_none' HLD.out (rdL_n1 hk))
            clear hk
            go_wp2
            go_ret2
            exact ⟨HB.out, .inl ⟨HNO.out, rfl⟩⟩
          · have HK1 := hid hk
            clear hk
            go_wp2_with fail
            refine (HTK.out t2 wr (HRA.out wr HB.out) hk5).mono ?_
            rintro e w' ⟨hw, hcs⟩
            obtain rfl := hw.symm
            rcases hcs with ⟨hk, xv, yv, rfl⟩ | ⟨m, t3, hk, rfl, hk7, hk8, hk9⟩
            · have HNO := hid (map_none' HLD.out (rdL_n2 HK1.out hk))
              clear hk
              go_wp2
              go_ret2
              exact ⟨HB.out, .inl ⟨HNO.out, rfl⟩⟩
            · have HK2 := hid hk
              clear hk
              by_cases hte : t3 < n
              · have hte' : ¬ (n : Int) ≤ (t3 : Int) := by omega
                have hte2 : (t3 : Int) < (n : Int) := by omega
                have hte3 : (0 : Int) ≤ (t3 : Int) := by omega
                have hib : t3 < b.length := by have h5 := HN.out; omega
                have HDR := hid (show b.drop t3 = b[t3] :: b.drop (t3 + 1) from List.drop_eq_getElem_cons hib)
                obtain ⟨a', ea, _, b0⟩ := HRA.out wr HB.out t3 b[t3] (List.getElem?_eq_getElem hib)
                cases ea
                have hk256 := H8.out b[t3] (List.getElem_mem hib)
                obtain ⟨k, hk⟩ : ∃ k, k = b[t3] := ⟨_, rfl⟩
                rw [← hk] at HDR b0 hk256
                have HGO := hid (rdL_go (r := r) (n := f) (nx := nx) (p := lcl L) HK1.out HK2.out HDR.out)
                obtain ⟨lo, hlo⟩ : ∃ lo, lo = nx + g := ⟨_, rfl⟩
                obtain ⟨hh, hhh⟩ : ∃ hh, hh = lo + m := ⟨_, rfl⟩
                rw [← hlo, ← hhh] at HGO
                have q1 : IntKind.i64.wrap ((nx : Int) + (g : Int)) = (lo : Int) := by rw [IntKind.wrap_i64]; omega
                have q2 : IntKind.i64.wrap ((lo : Int) + (m : Int)) = (hh : Int) := by rw [IntKind.wrap_i64]; omega
                have q3 : IntKind.i64.wrap (k : Int) = (k : Int) := by rw [IntKind.wrap_i64]; omega
                have hnl : nx ≤ lo := by omega
                have hlh : lo ≤ hh := by omega
                have HGZ := hid (show g = 0 ↔ lo = nx by omega)
                have hg28 : g < 268435456 := hk6
                clear hk hlo hhh hib
                by_cases hM : 1114111 < hh
                · have hM' : (1114111 : Int) < (hh : Int) := by omega
                  have HNO := hid (map_none' HLD.out (HGO.out.trans (if_pos hM)))
                  go_wp2
                  go_ret2
                  exact ⟨HB.out, .inl ⟨HNO.out, rfl⟩⟩
                · have hM' : ¬ (1114111 : Int) < (hh : Int) := by omega
                  rw [if_neg hM] at HGO
                  have q4 : IntKind.i32.wrap (lo : Int) = (lo : Int) := by rw [IntKind.wrap_i32]; omega
                  have q5 : IntKind.i32.wrap (hh : Int) = (hh : Int) := by rw [IntKind.wrap_i32]; omega
                  have q6 : IntKind.i64.wrap ((t3 : Int) + 1) = ((t3 + 1 : Nat) : Int) := by rw [IntKind.wrap_i64]; omega
                  have q7 : IntKind.i64.wrap ((hh : Int) + 1) = ((hh + 1 : Nat) : Int) := by rw [IntKind.wrap_i64]; omega
                  obtain ⟨vv, p0, o0⟩ := HPT.out
                  obtain ⟨vo, vc, rfl⟩ := own_form o0
                  have hps := HS.out
                  have p1 : wr.cell? ⟨P, 0, none⟩ = some (.slice vo L.length vc) := by rw [cell_of_row wr P 0 _ 74 (0, 0) p0]; rfl
                  have p2 : wr.cell? ⟨P, 1, none⟩ = some (.int .i64 (r : Int)) := by rw [cell_of_row wr P 1 _ 74 (0, 0) p0]; rfl
                  obtain ⟨X, hX⟩ : ∃ X, X = wr.heap.size := ⟨_, rfl⟩
                  have HXE := hid hX
                  obtain ⟨ml, hml⟩ : ∃ ml, ml = L.length := ⟨_, rfl⟩
                  rw [← hml] at p0 o0 p1
                  have hmi : ml ≤ 1114112 := by have h5 := HLI.out; omega
                  have HML := hid hml.symm
                  have HXN := hid (show (Value.slice vo ml vc).ownBlock ≠ some X from fun e => by have := (o0.lt X e).2; omega)
                  have HPA1 := hid (show (wr.alloc (.cells #[.int .i32 (lo : Int), .int .i32 (hh : Int), .int .i64 (k : Int)] 36)).heap[P]? = some (.cells #[.slice vo ml vc, .int .i64 (r : Int)] 74 (0, 0)) by show (wr.heap.push _)[P]? = _; rw [Array.getElem?_push, if_neg (by omega)]; exact p0)
                  have HXA1 := hid (show (wr.alloc (.cells #[.int .i32 (lo : Int), .int .i32 (hh : Int), .int .i64 (k : Int)] 36)).heap[X]? = some (.cells #[.int .i32 (lo : Int), .int .i32 (hh : Int), .int .i64 (k : Int)] 36 (0, 0)) by rw [hX]; exact heap_alloc_new wr _)
                  have HOA1 := hid (o0.alloc (.cells #[.int .i32 (lo : Int), .int .i32 (hh : Int), .int .i64 (k : Int)] 36))
                  have HBA1 := hid (HB.out.alloc (Nat.le_of_lt hps) (.cells #[.int .i32 (lo : Int), .int .i32 (hh : Int), .int .i64 (k : Int)] 36))
                  have hXA1 : X < (wr.alloc (.cells #[.int .i32 (lo : Int), .int .i32 (hh : Int), .int .i64 (k : Int)] 36)).heap.size := by rw [hX]; simp
                  have hPX : P < X := by omega
                  have HO0 := hid o0
                  clear hX hml p0 o0 HPT
                  by_cases hkr : k = r
                  · have tt1 : ((k : Int) == (r : Int)) = true := by simp; omega
                    have HNO := hid (map_none' HLD.out (HGO.out.trans (if_pos (.inl hkr))))
                    have HBF := hid (show ∀ q, Below P w ((wr.alloc (.cells #[.int .i32 (lo : Int), .int .i32 (hh : Int), .int .i64 (k : Int)] 36)).drewN q) from fun q => HBA1.out.trans (below_drewN P _ q))
                    clear hkr
                    go_wp2_with fail
                    go_quiet (fail)
                    go_wp2
                    go_ret2
                    exact ⟨HBF.out _, .inl ⟨HNO.out, rfl⟩⟩
                  · have tt1 : ((k : Int) == (r : Int)) = false := by simp; omega
                    have HKR := hid hkr
                    clear hkr
                    rcases List.eq_nil_or_concat L with hL0 | ⟨Q, z, hL0⟩
                    · have HG2 := hid (HGO.out.trans (if_neg (fun h => h.elim HKR.out (fun h => by rw [hL0] at h; simp [lcl] at h))))
                      have hm0 : ml = 0 := by have h5 := HML.out; rw [hL0] at h5; exact h5.symm
                      subst hm0
                      clear hL0
                      go_wp2_with fail
                      go_quiet (fail)

                      have HPW := hid (show ((wr.alloc (.cells #[.int .i32 (lo : Int), .int .i32 (hh : Int), .int .i64 (k : Int)] 36)).drewN nq).heap[P]? = some (.cells #[.slice vo 0 vc, .int .i64 (r : Int)] 74 (0, 0)) from HPA1.out)
                      have HXW := hid (show ((wr.alloc (.cells #[.int .i32 (lo : Int), .int .i32 (hh : Int), .int .i64 (k : Int)] 36)).drewN nq).heap[X]? = some (.cells #[.int .i32 (lo : Int), .int .i32 (hh : Int), .int .i64 (k : Int)] 36 (0, 0)) from HXA1.out)
                      have HOW := hid (show ((wr.alloc (.cells #[.int .i32 (lo : Int), .int .i32 (hh : Int), .int .i64 (k : Int)] 36)).drewN nq).ownsRow (P + 1) 36 3 (.slice vo 0 vc) 0 (rks L) from HOA1.out)
                      have HBW := hid (HBA1.out.trans (below_drewN P (wr.alloc (.cells #[.int .i32 (lo : Int), .int .i32 (hh : Int), .int .i64 (k : Int)] 36)) nq))
                      have hXW : X < ((wr.alloc (.cells #[.int .i32 (lo : Int), .int .i32 (hh : Int), .int .i64 (k : Int)] 36)).drewN nq).heap.size := hXA1
                      obtain ⟨W, hW⟩ : ∃ W, W = (wr.alloc (.cells #[.int .i32 (lo : Int), .int .i32 (hh : Int), .int .i64 (k : Int)] 36)).drewN nq := ⟨_, rfl⟩
                      rw [← hW] at HPW HXW HOW HBW hXW ⊢
                      rw [← HXE.out]
                      have x0 : W.cell? ⟨P, 0, none⟩ = some (.slice vo 0 vc) := by rw [cell_of_row W P 0 _ 74 (0, 0) HPW.out]; rfl
                      have x1 : W.cell? ⟨X, 0, none⟩ = some (.int .i32 (lo : Int)) := by rw [cell_of_row W X 0 _ 36 (0, 0) HXW.out]; rfl
                      have x2 : W.cell? ⟨X, 1, none⟩ = some (.int .i32 (hh : Int)) := by rw [cell_of_row W X 1 _ 36 (0, 0) HXW.out]; rfl
                      have x3 : W.cell? ⟨X, 2, none⟩ = some (.int .i64 (k : Int)) := by rw [cell_of_row W X 2 _ 36 (0, 0) HXW.out]; rfl
                      clear hW p1 p2 HPA1 HXA1 HOA1 HBA1 hXA1

                      go_wp2_with fail
                      refine wp_region_noPanic ?_
                      refine wp_region_holdG 6 (fun w' => w'.cell? ⟨P, 0, none⟩ = some (.slice vo 0 vc) ∧ w'.cell? ⟨X, 0, none⟩ = some (.int .i32 (lo : Int)) ∧ w'.cell? ⟨X, 1, none⟩ = some (.int .i32 (hh : Int)) ∧ w'.cell? ⟨X, 2, none⟩ = some (.int .i64 (k : Int))) (fun j => j == 10) (by kernel_rfl) (by kernel_rfl) (by decide) (fun j hj => by rcases (show j = 10 by simpa using hj) with rfl; decide) (by kernel_rfl) (fun _ _ _ _ _ h => h) ⟨x0, x1, x2, x3⟩ ?_
                      dsimp only [List.take, List.drop]
                      iterate 6 (refine wpHold_step ?_ rfl (fun w' hS => ?_) ?_; (rotate_left; (obtain ⟨s1, s2, s3, s4⟩ := hS; go_simp; with_reducible rfl); rotate_left))
                      simp only [Act.put, List.setIfInBounds_toArray, List.set_cons_zero, List.set_cons_succ]
                      show wpTailG _ _ _ _ _ _ _ _ _
                      have HPD := hid (show W.drew.heap[P]? = some (.cells #[.slice vo 0 vc, .int .i64 (r : Int)] 74 (0, 0)) from HPW.out)
                      have HXD := hid (show W.drew.heap[X]? = some (.cells #[.int .i32 (lo : Int), .int .i32 (hh : Int), .int .i64 (k : Int)] 36 (0, 0)) from HXW.out)
                      have HOD := hid (show W.drew.ownsRow (P + 1) 36 3 (.slice vo 0 vc) 0 (rks L) from HOW.out)
                      have HBD := hid (HBW.out.trans (show Below P W W.drew from ⟨rfl, rfl, rfl, Nat.le_refl _, fun _ _ => rfl⟩))
                      have hXD : X < W.drew.heap.size := hXW
                      obtain ⟨V, hV⟩ : ∃ V, V = W.drew := ⟨_, rfl⟩
                      rw [← hV] at HPD HXD HOD HBD hXD ⊢
                      clear hV x0 x1 x2 x3 HPW HXW HOW HBW hXW
                      refine tailG_yes (by kernel_rfl) fun KK hKK => ?_
                      go_simp
                      have HKS := hid (show ∀ V' : World, V'.heap[P]? = some (.cells #[.slice vo 0 vc, .int .i64 (r : Int)] 74 (0, 0)) → V'.heap[X]? = some (.cells #[.int .i32 (lo : Int), .int .i32 (hh : Int), .int .i64 (k : Int)] 36 (0, 0)) → (V'.cell? ⟨P, 0, none⟩ = some (.slice vo 0 vc) ∧ V'.cell? ⟨X, 0, none⟩ = some (.int .i32 (lo : Int)) ∧ V'.cell? ⟨X, 1, none⟩ = some (.int .i32 (hh : Int)) ∧ V'.cell? ⟨X, 2, none⟩ = some (.int .i64 (k : Int))) from fun V' h1 h2 => ⟨by rw [cell_of_row V' P 0 _ 74 (0, 0) h1]; rfl, by rw [cell_of_row V' X 0 _ 36 (0, 0) h2]; rfl, by rw [cell_of_row V' X 1 _ 36 (0, 0) h2]; rfl, by rw [cell_of_row V' X 2 _ 36 (0, 0) h2]; rfl⟩)
                      have HBA2 := hid (HBD.out.alloc (by omega) (.cells #[.int .i32 (lo : Int), .int .i32 (hh : Int), .int .i64 (k : Int)] 36))
                      have HPA2 := hid (show (V.alloc (.cells #[.int .i32 (lo : Int), .int .i32 (hh : Int), .int .i64 (k : Int)] 36)).heap[P]? = some (.cells #[.slice vo 0 vc, .int .i64 (r : Int)] 74 (0, 0)) by show (V.heap.push _)[P]? = _; rw [Array.getElem?_push, if_neg (by omega)]; exact HPD.out)
                      have HXA2 := hid (show (V.alloc (.cells #[.int .i32 (lo : Int), .int .i32 (hh : Int), .int .i64 (k : Int)] 36)).heap[X]? = some (.cells #[.int .i32 (lo : Int), .int .i32 (hh : Int), .int .i64 (k : Int)] 36 (0, 0)) by show (V.heap.push _)[X]? = _; rw [Array.getElem?_push, if_neg (by omega)]; exact HXD.out)
                      refine hKK _ _ (fun _ => HKS.out _ HPA2.out HXA2.out) ?_
                      clear hKK KK
                      try simp only [Act.put, List.setIfInBounds_toArray, List.set_cons_zero, List.set_cons_succ]
                      refine tailG_yes (by kernel_rfl) fun KK hKK => ?_
                      refine wp_append_lies _ _ _ 25 rfl (P + 1) 36 i0 (.agg #[.int .i32 0, .int .i32 0, .int .i64 0]) 3 16 Try.underlying25 hi36 hz0 hz1 hz2 rfl (by decide) _ 0 (rks L) rfl (HOD.out.alloc _) ⟨V.heap.size, 0, none⟩ 1 1 (rkc ((lo : Int), (hh : Int), (k : Int))) rfl rfl (news_k V ((lo : Int), (hh : Int), (k : Int)) 36) (rkc_one _) (by decide) (by unfold maxLen; omega) (by omega) (by simp; omega) (V.heap.size + 1) (by simp) ?_
                      intro q2 cc2 w2 o2 gr2 hl2 hlt2
                      have HB2 := hid (HBA2.out.grown gr2 (by simp; omega) (fun k hk => by have := (HOD.out.lt k hk).1; omega))
                      have HP2 := hid ((gr2.block P (by simp; omega) (fun e => by have := (HOD.out.lt P e.symm).1; omega)).trans HPA2.out)
                      have HX2 := hid ((gr2.block X (by simp; omega) (fun e => HXN.out e.symm)).trans HXA2.out)
                      have HO2 := hid (show w2.ownsRow (P + 1) 36 3 (.slice (some ⟨q2, 0, none⟩) (0 + 1) cc2) (L ++ [(lo, hh, k)]).length (rks (L ++ [(lo, hh, k)])) by rw [show rks (L ++ [(lo, hh, k)]) = rks L ++ rkc ((lo : Int), (hh : Int), (k : Int)) by simp [rks, rkT], List.length_append, HML.out]; exact o2)
                      have hps2 : P < w2.heap.size := lt_of_heap HP2.out
                      have fz2 : w2.frozen? ⟨P, 0, none⟩ = false := frozen_of_row w2 P 0 _ 74 HP2.out
                      refine hKK _ _ (fun _ => HKS.out _ HP2.out HX2.out) ?_
                      clear hKK KK o2 gr2 hl2 hlt2
                      try simp only [Act.put, List.setIfInBounds_toArray, List.set_cons_zero, List.set_cons_succ]
                      refine tailG_yes (by kernel_rfl) fun KK hKK => ?_
                      go_simp
                      refine hKK _ _ (fun _ => HKS.out _ HP2.out HX2.out) ?_
                      clear hKK KK
                      try simp only [Act.put, List.setIfInBounds_toArray, List.set_cons_zero, List.set_cons_succ]
                      refine tailG_yes (by kernel_rfl) fun KK hKK => ?_
                      go_simp
                      refine hKK _ _ (fun _ => HKS.out _ HP2.out HX2.out) ?_
                      clear hKK KK
                      try simp only [Act.put, List.setIfInBounds_toArray, List.set_cons_zero, List.set_cons_succ]
                      have c2 : w2.cell? ⟨P, 0, none⟩ = some (.slice vo 0 vc) := by rw [cell_of_row w2 P 0 _ 74 (0, 0) HP2.out]; rfl
                      refine tailG_yes (by kernel_rfl) fun KK hKK => ?_
                      go_simp
                      refine hKK _ _ (fun h => by cases h) ?_
                      clear hKK KK
                      try simp only [Act.put, List.setIfInBounds_toArray, List.set_cons_zero, List.set_cons_succ]
                      refine tailG_nil (NoPanic.normal ?_)
                      obtain ⟨s1, s2⟩ := QAt.set HP2.out (.slice (some ⟨q2, 0, none⟩) (0 + 1) cc2)
                      have HQ3 := hid (show QtAt P (L ++ [(lo, hh, k)]) r (w2.setCell ⟨P, 0, none⟩ (.slice (some ⟨q2, 0, none⟩) (0 + 1) cc2)) from ⟨_, s1, s2.own HO2.out (Nat.lt_succ_self P)⟩)
                      have HB3 := hid (s2.below HB2.out)
                      have HS3 := hid (show P < (w2.setCell ⟨P, 0, none⟩ (.slice (some ⟨q2, 0, none⟩) (0 + 1) cc2)).heap.size by rw [s2.size]; exact hps2)
                      have HLI3 := hid (show (L ++ [(lo, hh, k)]).length = i + 1 by rw [List.length_append, HLI.out]; rfl)
                      have HLD3 := hid (show (rdL r (v - (i + 1)) (hh + 1) (lcl (L ++ [(lo, hh, k)])) (b.drop (t3 + 1))).map ((L ++ [(lo, hh, k)]) ++ ·) = rl b by rw [HF.out, show lcl (L ++ [(lo, hh, k)]) = some k by simp [lcl]]; exact map_go HLD.out HG2.out)
                      clear s1 s2 HPD HXD HOD HBD HBA2 HPA2 HXA2 HP2 HX2 HO2 c2 fz2
                      go_wp2
                      go_roundw
                      case rel => exact ⟨t3 + 1, i + 1, hh + 1, L ++ [(lo, hh, k)], rfl, rfl, rfl, by go_num, by omega, by omega, by omega, by omega, HLI3, HLD3, HQ3, HB3, HS3⟩
                      case measure => simp [intOf]; omega

                    · rw [List.concat_eq_append] at hL0
                      have hmQ : ml = Q.length + 1 := by have h5 := HML.out; rw [hL0] at h5; simp at h5; omega
                      have HLC := hid (show lcl L = some z.2.2 by rw [hL0]; simp [lcl])
                      obtain ⟨kq, hkq⟩ : ∃ kq, kq = Q.length := ⟨_, rfl⟩
                      obtain ⟨q, cap', hve, hqB, hqw⟩ := HO0.out.form (by omega)
                      cases hve
                      have e2 : wr.cell? ⟨q, kq * 3 + 2, none⟩ = some (.int .i64 (z.2.2 : Int)) := by rw [hkq, HO0.out.cellAt _ (by omega), hL0]; exact rks_at Q z 2 _ rfl
                      have k0 : (0 : Int) < (ml : Int) := by omega
                      have kN : 0 < ml := by omega
                      have k1 : (ml : Int) - 1 = (kq : Int) := by omega
                      have k2 : IntKind.i64.wrap (kq : Int) = (kq : Int) := by rw [IntKind.wrap_i64]; omega
                      have k3 : (kq : Int) < (ml : Int) := by omega
                      have k4 : (0 : Int) ≤ (kq : Int) := by omega
                      obtain ⟨zc, hzc⟩ : ∃ zc, zc = z.2.2 := ⟨_, rfl⟩
                      rw [← hzc] at e2 HLC
                      clear hL0 hmQ hkq hzc
                      by_cases hg0 : g = 0
                      · have g0 : ((g : Int) == 0) = true := by simp; omega
                        by_cases hzk : zc = k
                        · have tt2 : ((zc : Int) == (k : Int)) = true := by simp; omega
                          have HNO := hid (map_none' HLD.out (HGO.out.trans (if_pos (.inr ⟨hg0, by rw [HLC.out, hzk]⟩))))
                          have HBF := hid (show ∀ q, Below P w ((wr.alloc (.cells #[.int .i32 (lo : Int), .int .i32 (hh : Int), .int .i64 (k : Int)] 36)).drewN q) from fun q => HBA1.out.trans (below_drewN P _ q))
                          clear hzk hg0
                          go_wp2_with fail
                          go_quiet (fail)
                          go_wp2
                          go_ret2
                          exact ⟨HBF.out _, .inl ⟨HNO.out, rfl⟩⟩
                        · have tt2 : ((zc : Int) == (k : Int)) = false := by simp; omega
                          have HG2 := hid (HGO.out.trans (if_neg (fun h => h.elim HKR.out (fun h => hzk (by have h5 := h.2; rw [HLC.out] at h5; exact Option.some.inj h5)))))
                          clear hzk hg0
                          go_wp2_with fail
                          go_quiet (fail)

                          have HPW := hid (show ((wr.alloc (.cells #[.int .i32 (lo : Int), .int .i32 (hh : Int), .int .i64 (k : Int)] 36)).drewN nq).heap[P]? = some (.cells #[.slice (some ⟨q, 0, none⟩) ml vc, .int .i64 (r : Int)] 74 (0, 0)) from HPA1.out)
                          have HXW := hid (show ((wr.alloc (.cells #[.int .i32 (lo : Int), .int .i32 (hh : Int), .int .i64 (k : Int)] 36)).drewN nq).heap[X]? = some (.cells #[.int .i32 (lo : Int), .int .i32 (hh : Int), .int .i64 (k : Int)] 36 (0, 0)) from HXA1.out)
                          have HOW := hid (show ((wr.alloc (.cells #[.int .i32 (lo : Int), .int .i32 (hh : Int), .int .i64 (k : Int)] 36)).drewN nq).ownsRow (P + 1) 36 3 (.slice (some ⟨q, 0, none⟩) ml vc) ml (rks L) from HOA1.out)
                          have HBW := hid (HBA1.out.trans (below_drewN P (wr.alloc (.cells #[.int .i32 (lo : Int), .int .i32 (hh : Int), .int .i64 (k : Int)] 36)) nq))
                          have hXW : X < ((wr.alloc (.cells #[.int .i32 (lo : Int), .int .i32 (hh : Int), .int .i64 (k : Int)] 36)).drewN nq).heap.size := hXA1
                          obtain ⟨W, hW⟩ : ∃ W, W = (wr.alloc (.cells #[.int .i32 (lo : Int), .int .i32 (hh : Int), .int .i64 (k : Int)] 36)).drewN nq := ⟨_, rfl⟩
                          rw [← hW] at HPW HXW HOW HBW hXW ⊢
                          rw [← HXE.out]
                          have x0 : W.cell? ⟨P, 0, none⟩ = some (.slice (some ⟨q, 0, none⟩) ml vc) := by rw [cell_of_row W P 0 _ 74 (0, 0) HPW.out]; rfl
                          have x1 : W.cell? ⟨X, 0, none⟩ = some (.int .i32 (lo : Int)) := by rw [cell_of_row W X 0 _ 36 (0, 0) HXW.out]; rfl
                          have x2 : W.cell? ⟨X, 1, none⟩ = some (.int .i32 (hh : Int)) := by rw [cell_of_row W X 1 _ 36 (0, 0) HXW.out]; rfl
                          have x3 : W.cell? ⟨X, 2, none⟩ = some (.int .i64 (k : Int)) := by rw [cell_of_row W X 2 _ 36 (0, 0) HXW.out]; rfl
                          clear hW e2 p1 p2 HPA1 HXA1 HOA1 HBA1 hXA1

                          go_wp2_with fail
                          refine wp_region_noPanic ?_
                          refine wp_region_holdG 6 (fun w' => w'.cell? ⟨P, 0, none⟩ = some (.slice (some ⟨q, 0, none⟩) ml vc) ∧ w'.cell? ⟨X, 0, none⟩ = some (.int .i32 (lo : Int)) ∧ w'.cell? ⟨X, 1, none⟩ = some (.int .i32 (hh : Int)) ∧ w'.cell? ⟨X, 2, none⟩ = some (.int .i64 (k : Int))) (fun j => j == 10) (by kernel_rfl) (by kernel_rfl) (by decide) (fun j hj => by rcases (show j = 10 by simpa using hj) with rfl; decide) (by kernel_rfl) (fun _ _ _ _ _ h => h) ⟨x0, x1, x2, x3⟩ ?_
                          dsimp only [List.take, List.drop]
                          iterate 6 (refine wpHold_step ?_ rfl (fun w' hS => ?_) ?_; (rotate_left; (obtain ⟨s1, s2, s3, s4⟩ := hS; go_simp; with_reducible rfl); rotate_left))
                          simp only [Act.put, List.setIfInBounds_toArray, List.set_cons_zero, List.set_cons_succ]
                          show wpTailG _ _ _ _ _ _ _ _ _
                          have HPD := hid (show W.drew.heap[P]? = some (.cells #[.slice (some ⟨q, 0, none⟩) ml vc, .int .i64 (r : Int)] 74 (0, 0)) from HPW.out)
                          have HXD := hid (show W.drew.heap[X]? = some (.cells #[.int .i32 (lo : Int), .int .i32 (hh : Int), .int .i64 (k : Int)] 36 (0, 0)) from HXW.out)
                          have HOD := hid (show W.drew.ownsRow (P + 1) 36 3 (.slice (some ⟨q, 0, none⟩) ml vc) ml (rks L) from HOW.out)
                          have HBD := hid (HBW.out.trans (show Below P W W.drew from ⟨rfl, rfl, rfl, Nat.le_refl _, fun _ _ => rfl⟩))
                          have hXD : X < W.drew.heap.size := hXW
                          obtain ⟨V, hV⟩ : ∃ V, V = W.drew := ⟨_, rfl⟩
                          rw [← hV] at HPD HXD HOD HBD hXD ⊢
                          clear hV x0 x1 x2 x3 HPW HXW HOW HBW hXW
                          refine tailG_yes (by kernel_rfl) fun KK hKK => ?_
                          go_simp
                          have HKS := hid (show ∀ V' : World, V'.heap[P]? = some (.cells #[.slice (some ⟨q, 0, none⟩) ml vc, .int .i64 (r : Int)] 74 (0, 0)) → V'.heap[X]? = some (.cells #[.int .i32 (lo : Int), .int .i32 (hh : Int), .int .i64 (k : Int)] 36 (0, 0)) → (V'.cell? ⟨P, 0, none⟩ = some (.slice (some ⟨q, 0, none⟩) ml vc) ∧ V'.cell? ⟨X, 0, none⟩ = some (.int .i32 (lo : Int)) ∧ V'.cell? ⟨X, 1, none⟩ = some (.int .i32 (hh : Int)) ∧ V'.cell? ⟨X, 2, none⟩ = some (.int .i64 (k : Int))) from fun V' h1 h2 => ⟨by rw [cell_of_row V' P 0 _ 74 (0, 0) h1]; rfl, by rw [cell_of_row V' X 0 _ 36 (0, 0) h2]; rfl, by rw [cell_of_row V' X 1 _ 36 (0, 0) h2]; rfl, by rw [cell_of_row V' X 2 _ 36 (0, 0) h2]; rfl⟩)
                          have HBA2 := hid (HBD.out.alloc (by omega) (.cells #[.int .i32 (lo : Int), .int .i32 (hh : Int), .int .i64 (k : Int)] 36))
                          have HPA2 := hid (show (V.alloc (.cells #[.int .i32 (lo : Int), .int .i32 (hh : Int), .int .i64 (k : Int)] 36)).heap[P]? = some (.cells #[.slice (some ⟨q, 0, none⟩) ml vc, .int .i64 (r : Int)] 74 (0, 0)) by show (V.heap.push _)[P]? = _; rw [Array.getElem?_push, if_neg (by omega)]; exact HPD.out)
                          have HXA2 := hid (show (V.alloc (.cells #[.int .i32 (lo : Int), .int .i32 (hh : Int), .int .i64 (k : Int)] 36)).heap[X]? = some (.cells #[.int .i32 (lo : Int), .int .i32 (hh : Int), .int .i64 (k : Int)] 36 (0, 0)) by show (V.heap.push _)[X]? = _; rw [Array.getElem?_push, if_neg (by omega)]; exact HXD.out)
                          refine hKK _ _ (fun _ => HKS.out _ HPA2.out HXA2.out) ?_
                          clear hKK KK
                          try simp only [Act.put, List.setIfInBounds_toArray, List.set_cons_zero, List.set_cons_succ]
                          refine tailG_yes (by kernel_rfl) fun KK hKK => ?_
                          refine wp_append_lies _ _ _ 25 rfl (P + 1) 36 i0 (.agg #[.int .i32 0, .int .i32 0, .int .i64 0]) 3 16 Try.underlying25 hi36 hz0 hz1 hz2 rfl (by decide) _ ml (rks L) rfl (HOD.out.alloc _) ⟨V.heap.size, 0, none⟩ 1 1 (rkc ((lo : Int), (hh : Int), (k : Int))) rfl rfl (news_k V ((lo : Int), (hh : Int), (k : Int)) 36) (rkc_one _) (by decide) (by unfold maxLen; omega) (by omega) (by simp; omega) (V.heap.size + 1) (by simp) ?_
                          intro q2 cc2 w2 o2 gr2 hl2 hlt2
                          have HB2 := hid (HBA2.out.grown gr2 (by simp; omega) (fun k hk => by have := (HOD.out.lt k hk).1; omega))
                          have HP2 := hid ((gr2.block P (by simp; omega) (fun e => by have := (HOD.out.lt P e.symm).1; omega)).trans HPA2.out)
                          have HX2 := hid ((gr2.block X (by simp; omega) (fun e => HXN.out e.symm)).trans HXA2.out)
                          have HO2 := hid (show w2.ownsRow (P + 1) 36 3 (.slice (some ⟨q2, 0, none⟩) (ml + 1) cc2) (L ++ [(lo, hh, k)]).length (rks (L ++ [(lo, hh, k)])) by rw [show rks (L ++ [(lo, hh, k)]) = rks L ++ rkc ((lo : Int), (hh : Int), (k : Int)) by simp [rks, rkT], List.length_append, HML.out]; exact o2)
                          have hps2 : P < w2.heap.size := lt_of_heap HP2.out
                          have fz2 : w2.frozen? ⟨P, 0, none⟩ = false := frozen_of_row w2 P 0 _ 74 HP2.out
                          refine hKK _ _ (fun _ => HKS.out _ HP2.out HX2.out) ?_
                          clear hKK KK o2 gr2 hl2 hlt2
                          try simp only [Act.put, List.setIfInBounds_toArray, List.set_cons_zero, List.set_cons_succ]
                          refine tailG_yes (by kernel_rfl) fun KK hKK => ?_
                          go_simp
                          refine hKK _ _ (fun _ => HKS.out _ HP2.out HX2.out) ?_
                          clear hKK KK
                          try simp only [Act.put, List.setIfInBounds_toArray, List.set_cons_zero, List.set_cons_succ]
                          refine tailG_yes (by kernel_rfl) fun KK hKK => ?_
                          go_simp
                          refine hKK _ _ (fun _ => HKS.out _ HP2.out HX2.out) ?_
                          clear hKK KK
                          try simp only [Act.put, List.setIfInBounds_toArray, List.set_cons_zero, List.set_cons_succ]
                          have c2 : w2.cell? ⟨P, 0, none⟩ = some (.slice (some ⟨q, 0, none⟩) ml vc) := by rw [cell_of_row w2 P 0 _ 74 (0, 0) HP2.out]; rfl
                          refine tailG_yes (by kernel_rfl) fun KK hKK => ?_
                          go_simp
                          refine hKK _ _ (fun h => by cases h) ?_
                          clear hKK KK
                          try simp only [Act.put, List.setIfInBounds_toArray, List.set_cons_zero, List.set_cons_succ]
                          refine tailG_nil (NoPanic.normal ?_)
                          obtain ⟨s1, s2⟩ := QAt.set HP2.out (.slice (some ⟨q2, 0, none⟩) (ml + 1) cc2)
                          have HQ3 := hid (show QtAt P (L ++ [(lo, hh, k)]) r (w2.setCell ⟨P, 0, none⟩ (.slice (some ⟨q2, 0, none⟩) (ml + 1) cc2)) from ⟨_, s1, s2.own HO2.out (Nat.lt_succ_self P)⟩)
                          have HB3 := hid (s2.below HB2.out)
                          have HS3 := hid (show P < (w2.setCell ⟨P, 0, none⟩ (.slice (some ⟨q2, 0, none⟩) (ml + 1) cc2)).heap.size by rw [s2.size]; exact hps2)
                          have HLI3 := hid (show (L ++ [(lo, hh, k)]).length = i + 1 by rw [List.length_append, HLI.out]; rfl)
                          have HLD3 := hid (show (rdL r (v - (i + 1)) (hh + 1) (lcl (L ++ [(lo, hh, k)])) (b.drop (t3 + 1))).map ((L ++ [(lo, hh, k)]) ++ ·) = rl b by rw [HF.out, show lcl (L ++ [(lo, hh, k)]) = some k by simp [lcl]]; exact map_go HLD.out HG2.out)
                          clear s1 s2 HPD HXD HOD HBD HBA2 HPA2 HXA2 HP2 HX2 HO2 c2 fz2
                          go_wp2
                          go_roundw
                          case rel => exact ⟨t3 + 1, i + 1, hh + 1, L ++ [(lo, hh, k)], rfl, rfl, rfl, by go_num, by omega, by omega, by omega, by omega, HLI3, HLD3, HQ3, HB3, HS3⟩
                          case measure => simp [intOf]; omega

                      · have g0 : ((g : Int) == 0) = false := by simp; omega
                        have HG2 := hid (HGO.out.trans (if_neg (fun h => h.elim HKR.out (fun h => hg0 h.1))))
                        clear hg0
                        go_wp2_with fail
                        go_quiet (fail)

                        have HPW := hid (show ((wr.alloc (.cells #[.int .i32 (lo : Int), .int .i32 (hh : Int), .int .i64 (k : Int)] 36)).drewN nq).heap[P]? = some (.cells #[.slice (some ⟨q, 0, none⟩) ml vc, .int .i64 (r : Int)] 74 (0, 0)) from HPA1.out)
                        have HXW := hid (show ((wr.alloc (.cells #[.int .i32 (lo : Int), .int .i32 (hh : Int), .int .i64 (k : Int)] 36)).drewN nq).heap[X]? = some (.cells #[.int .i32 (lo : Int), .int .i32 (hh : Int), .int .i64 (k : Int)] 36 (0, 0)) from HXA1.out)
                        have HOW := hid (show ((wr.alloc (.cells #[.int .i32 (lo : Int), .int .i32 (hh : Int), .int .i64 (k : Int)] 36)).drewN nq).ownsRow (P + 1) 36 3 (.slice (some ⟨q, 0, none⟩) ml vc) ml (rks L) from HOA1.out)
                        have HBW := hid (HBA1.out.trans (below_drewN P (wr.alloc (.cells #[.int .i32 (lo : Int), .int .i32 (hh : Int), .int .i64 (k : Int)] 36)) nq))
                        have hXW : X < ((wr.alloc (.cells #[.int .i32 (lo : Int), .int .i32 (hh : Int), .int .i64 (k : Int)] 36)).drewN nq).heap.size := hXA1
                        obtain ⟨W, hW⟩ : ∃ W, W = (wr.alloc (.cells #[.int .i32 (lo : Int), .int .i32 (hh : Int), .int .i64 (k : Int)] 36)).drewN nq := ⟨_, rfl⟩
                        rw [← hW] at HPW HXW HOW HBW hXW ⊢
                        rw [← HXE.out]
                        have x0 : W.cell? ⟨P, 0, none⟩ = some (.slice (some ⟨q, 0, none⟩) ml vc) := by rw [cell_of_row W P 0 _ 74 (0, 0) HPW.out]; rfl
                        have x1 : W.cell? ⟨X, 0, none⟩ = some (.int .i32 (lo : Int)) := by rw [cell_of_row W X 0 _ 36 (0, 0) HXW.out]; rfl
                        have x2 : W.cell? ⟨X, 1, none⟩ = some (.int .i32 (hh : Int)) := by rw [cell_of_row W X 1 _ 36 (0, 0) HXW.out]; rfl
                        have x3 : W.cell? ⟨X, 2, none⟩ = some (.int .i64 (k : Int)) := by rw [cell_of_row W X 2 _ 36 (0, 0) HXW.out]; rfl
                        clear hW e2 p1 p2 HPA1 HXA1 HOA1 HBA1 hXA1

                        go_wp2_with fail
                        refine wp_region_noPanic ?_
                        refine wp_region_holdG 6 (fun w' => w'.cell? ⟨P, 0, none⟩ = some (.slice (some ⟨q, 0, none⟩) ml vc) ∧ w'.cell? ⟨X, 0, none⟩ = some (.int .i32 (lo : Int)) ∧ w'.cell? ⟨X, 1, none⟩ = some (.int .i32 (hh : Int)) ∧ w'.cell? ⟨X, 2, none⟩ = some (.int .i64 (k : Int))) (fun j => j == 10) (by kernel_rfl) (by kernel_rfl) (by decide) (fun j hj => by rcases (show j = 10 by simpa using hj) with rfl; decide) (by kernel_rfl) (fun _ _ _ _ _ h => h) ⟨x0, x1, x2, x3⟩ ?_
                        dsimp only [List.take, List.drop]
                        iterate 6 (refine wpHold_step ?_ rfl (fun w' hS => ?_) ?_; (rotate_left; (obtain ⟨s1, s2, s3, s4⟩ := hS; go_simp; with_reducible rfl); rotate_left))
                        simp only [Act.put, List.setIfInBounds_toArray, List.set_cons_zero, List.set_cons_succ]
                        show wpTailG _ _ _ _ _ _ _ _ _
                        have HPD := hid (show W.drew.heap[P]? = some (.cells #[.slice (some ⟨q, 0, none⟩) ml vc, .int .i64 (r : Int)] 74 (0, 0)) from HPW.out)
                        have HXD := hid (show W.drew.heap[X]? = some (.cells #[.int .i32 (lo : Int), .int .i32 (hh : Int), .int .i64 (k : Int)] 36 (0, 0)) from HXW.out)
                        have HOD := hid (show W.drew.ownsRow (P + 1) 36 3 (.slice (some ⟨q, 0, none⟩) ml vc) ml (rks L) from HOW.out)
                        have HBD := hid (HBW.out.trans (show Below P W W.drew from ⟨rfl, rfl, rfl, Nat.le_refl _, fun _ _ => rfl⟩))
                        have hXD : X < W.drew.heap.size := hXW
                        obtain ⟨V, hV⟩ : ∃ V, V = W.drew := ⟨_, rfl⟩
                        rw [← hV] at HPD HXD HOD HBD hXD ⊢
                        clear hV x0 x1 x2 x3 HPW HXW HOW HBW hXW
                        refine tailG_yes (by kernel_rfl) fun KK hKK => ?_
                        go_simp
                        have HKS := hid (show ∀ V' : World, V'.heap[P]? = some (.cells #[.slice (some ⟨q, 0, none⟩) ml vc, .int .i64 (r : Int)] 74 (0, 0)) → V'.heap[X]? = some (.cells #[.int .i32 (lo : Int), .int .i32 (hh : Int), .int .i64 (k : Int)] 36 (0, 0)) → (V'.cell? ⟨P, 0, none⟩ = some (.slice (some ⟨q, 0, none⟩) ml vc) ∧ V'.cell? ⟨X, 0, none⟩ = some (.int .i32 (lo : Int)) ∧ V'.cell? ⟨X, 1, none⟩ = some (.int .i32 (hh : Int)) ∧ V'.cell? ⟨X, 2, none⟩ = some (.int .i64 (k : Int))) from fun V' h1 h2 => ⟨by rw [cell_of_row V' P 0 _ 74 (0, 0) h1]; rfl, by rw [cell_of_row V' X 0 _ 36 (0, 0) h2]; rfl, by rw [cell_of_row V' X 1 _ 36 (0, 0) h2]; rfl, by rw [cell_of_row V' X 2 _ 36 (0, 0) h2]; rfl⟩)
                        have HBA2 := hid (HBD.out.alloc (by omega) (.cells #[.int .i32 (lo : Int), .int .i32 (hh : Int), .int .i64 (k : Int)] 36))
                        have HPA2 := hid (show (V.alloc (.cells #[.int .i32 (lo : Int), .int .i32 (hh : Int), .int .i64 (k : Int)] 36)).heap[P]? = some (.cells #[.slice (some ⟨q, 0, none⟩) ml vc, .int .i64 (r : Int)] 74 (0, 0)) by show (V.heap.push _)[P]? = _; rw [Array.getElem?_push, if_neg (by omega)]; exact HPD.out)
                        have HXA2 := hid (show (V.alloc (.cells #[.int .i32 (lo : Int), .int .i32 (hh : Int), .int .i64 (k : Int)] 36)).heap[X]? = some (.cells #[.int .i32 (lo : Int), .int .i32 (hh : Int), .int .i64 (k : Int)] 36 (0, 0)) by show (V.heap.push _)[X]? = _; rw [Array.getElem?_push, if_neg (by omega)]; exact HXD.out)
                        refine hKK _ _ (fun _ => HKS.out _ HPA2.out HXA2.out) ?_
                        clear hKK KK
                        try simp only [Act.put, List.setIfInBounds_toArray, List.set_cons_zero, List.set_cons_succ]
                        refine tailG_yes (by kernel_rfl) fun KK hKK => ?_
                        refine wp_append_lies _ _ _ 25 rfl (P + 1) 36 i0 (.agg #[.int .i32 0, .int .i32 0, .int .i64 0]) 3 16 Try.underlying25 hi36 hz0 hz1 hz2 rfl (by decide) _ ml (rks L) rfl (HOD.out.alloc _) ⟨V.heap.size, 0, none⟩ 1 1 (rkc ((lo : Int), (hh : Int), (k : Int))) rfl rfl (news_k V ((lo : Int), (hh : Int), (k : Int)) 36) (rkc_one _) (by decide) (by unfold maxLen; omega) (by omega) (by simp; omega) (V.heap.size + 1) (by simp) ?_
                        intro q2 cc2 w2 o2 gr2 hl2 hlt2
                        have HB2 := hid (HBA2.out.grown gr2 (by simp; omega) (fun k hk => by have := (HOD.out.lt k hk).1; omega))
                        have HP2 := hid ((gr2.block P (by simp; omega) (fun e => by have := (HOD.out.lt P e.symm).1; omega)).trans HPA2.out)
                        have HX2 := hid ((gr2.block X (by simp; omega) (fun e => HXN.out e.symm)).trans HXA2.out)
                        have HO2 := hid (show w2.ownsRow (P + 1) 36 3 (.slice (some ⟨q2, 0, none⟩) (ml + 1) cc2) (L ++ [(lo, hh, k)]).length (rks (L ++ [(lo, hh, k)])) by rw [show rks (L ++ [(lo, hh, k)]) = rks L ++ rkc ((lo : Int), (hh : Int), (k : Int)) by simp [rks, rkT], List.length_append, HML.out]; exact o2)
                        have hps2 : P < w2.heap.size := lt_of_heap HP2.out
                        have fz2 : w2.frozen? ⟨P, 0, none⟩ = false := frozen_of_row w2 P 0 _ 74 HP2.out
                        refine hKK _ _ (fun _ => HKS.out _ HP2.out HX2.out) ?_
                        clear hKK KK o2 gr2 hl2 hlt2
                        try simp only [Act.put, List.setIfInBounds_toArray, List.set_cons_zero, List.set_cons_succ]
                        refine tailG_yes (by kernel_rfl) fun KK hKK => ?_
                        go_simp
                        refine hKK _ _ (fun _ => HKS.out _ HP2.out HX2.out) ?_
                        clear hKK KK
                        try simp only [Act.put, List.setIfInBounds_toArray, List.set_cons_zero, List.set_cons_succ]
                        refine tailG_yes (by kernel_rfl) fun KK hKK => ?_
                        go_simp
                        refine hKK _ _ (fun _ => HKS.out _ HP2.out HX2.out) ?_
                        clear hKK KK
                        try simp only [Act.put, List.setIfInBounds_toArray, List.set_cons_zero, List.set_cons_succ]
                        have c2 : w2.cell? ⟨P, 0, none⟩ = some (.slice (some ⟨q, 0, none⟩) ml vc) := by rw [cell_of_row w2 P 0 _ 74 (0, 0) HP2.out]; rfl
                        refine tailG_yes (by kernel_rfl) fun KK hKK => ?_
                        go_simp
                        refine hKK _ _ (fun h => by cases h) ?_
                        clear hKK KK
                        try simp only [Act.put, List.setIfInBounds_toArray, List.set_cons_zero, List.set_cons_succ]
                        refine tailG_nil (NoPanic.normal ?_)
                        obtain ⟨s1, s2⟩ := QAt.set HP2.out (.slice (some ⟨q2, 0, none⟩) (ml + 1) cc2)
                        have HQ3 := hid (show QtAt P (L ++ [(lo, hh, k)]) r (w2.setCell ⟨P, 0, none⟩ (.slice (some ⟨q2, 0, none⟩) (ml + 1) cc2)) from ⟨_, s1, s2.own HO2.out (Nat.lt_succ_self P)⟩)
                        have HB3 := hid (s2.below HB2.out)
                        have HS3 := hid (show P < (w2.setCell ⟨P, 0, none⟩ (.slice (some ⟨q2, 0, none⟩) (ml + 1) cc2)).heap.size by rw [s2.size]; exact hps2)
                        have HLI3 := hid (show (L ++ [(lo, hh, k)]).length = i + 1 by rw [List.length_append, HLI.out]; rfl)
                        have HLD3 := hid (show (rdL r (v - (i + 1)) (hh + 1) (lcl (L ++ [(lo, hh, k)])) (b.drop (t3 + 1))).map ((L ++ [(lo, hh, k)]) ++ ·) = rl b by rw [HF.out, show lcl (L ++ [(lo, hh, k)]) = some k by simp [lcl]]; exact map_go HLD.out HG2.out)
                        clear s1 s2 HPD HXD HOD HBD HBA2 HPA2 HXA2 HP2 HX2 HO2 c2 fz2
                        go_wp2
                        go_roundw
                        case rel => exact ⟨t3 + 1, i + 1, hh + 1, L ++ [(lo, hh, k)], rfl, rfl, rfl, by go_num, by omega, by omega, by omega, by omega, HLI3, HLD3, HQ3, HB3, HS3⟩
                        case measure => simp [intOf]; omega
              · have hte' : (n : Int) ≤ (t3 : Int) := by omega
                have HNO := hid (map_none' HLD.out (rdL_n3 HK1.out HK2.out (List.drop_of_length_le (by have h5 := HN.out; omega))))
                go_wp2
                go_ret2
                exact ⟨HB.out, .inl ⟨HNO.out, rfl⟩⟩
        · have i3 : ¬ (i : Int) < (v : Int) := by omega
          rw [show v - i = 0 by omega] at HLD
          by_cases hte : t = n
          · have HE := hid (show rl b = some L by
              rw [← HLD.out, List.drop_of_length_le (by have h5 := HN.out; omega)]; simp [rdL])
            have hte' : ((t : Int) != (n : Int)) = false := by simp; omega
            clear hte
            go_wp2
            go_ret2
            exact ⟨HB.out, .inr ⟨P, L, HE.out, rfl, Nat.le_refl _, by rw [HLR.out]; exact HPT.out.rt⟩⟩
          · have HE := hid (show rl b = none from map_none' HLD.out (by
              show (if b.drop t = [] then some [] else none) = none
              rw [if_neg]
              intro h5
              have h6 := congrArg List.length h5
              rw [List.length_drop] at h6
              have h7 := HN.out
              simp at h6; omega))
            have hte' : ((t : Int) != (n : Int)) = true := by simp; omega
            go_wp2
            go_ret2
            exact ⟨HB.out, .inl ⟨HE.out, rfl⟩⟩
end Go.Proofs.Ytljlhlcoaajggaa
/- The contract of put (package kerfref03), and what it leaves alone. -/
namespace Go.Proofs.Ytljlhlcoaajggaa
open Go.RowKit

set_option maxRecDepth 100000 in
set_option maxHeartbeats 3000000 in
theorem put_far (B : Nat) (v : Value) (T : List Nat) (n : Nat) (w : World) (h : w.ownsRow B 5 1 v T.length (u8n T)) (hB : B ≤ w.heap.size) (hT : T.length ≤ 100000000) (hn : n ≤ 100000000) :
    Calls Try.prog 61 #[v, .int .i64 (n : Int)] w fun e w' => ∃ v', e = .returned v' ∧ w'.ownsRow B 5 1 v' (T ++ vn n).length (u8n (T ++ vn n)) ∧ Below B w w' ∧ Oth v w w' ∧ Fro v w v' := by
  obtain ⟨i0, hi, hz0, hz1, hz2⟩ := info_parts Try.info5
  have HO0 := hid h
  clear h
  go_enter Try.func61, Try.ntmps61
  go_wp2
  go_loopw [0, 1] (fun x y wr => ∃ (U : List Nat) (m : Nat), y = .int .i64 (m : Int) ∧ m ≤ n ∧ U.length + m ≤ T.length + n ∧ Hid (wr.ownsRow B 5 1 x U.length (u8n U)) ∧ Hid (T ++ vn n = U ++ vn m) ∧ Hid (Below B w wr) ∧ Hid (Oth v w wr) ∧ Hid (Fro v w x)) (fun _ y _ => (intOf y).toNat)
  case atStart => exact ⟨T, n, rfl, Nat.le_refl _, Nat.le_refl _, HO0, rfl, Below.refl _ _, fun _ _ _ => rfl, Or.inl rfl⟩
  case round =>
    obtain ⟨U, m, rfl, hm, hU, HO, HE, HB, HT, HF⟩ := hrel
    have hwB := HB.out.size
    by_cases c : 128 ≤ m
    · have c' : (128 : Int) ≤ (m : Int) := by omega
      have HV := hid (vn_more m c)
      obtain ⟨d, hd⟩ : ∃ d, d = m % 128 + 128 := ⟨_, rfl⟩
      rw [← hd] at HV
      have hd2 : d < 256 := by omega
      have HD := hid (show (m : Int) % 128 + 128 = (d : Int) by omega)
      clear hd
      go_wp2_with (at_builtin; refine wpList_append_lies _ rfl _ _ 58 rfl B 5 i0 (.int .u8 0) 1 1 Try.underlying58 hi hz0 hz1 hz2 rfl (by decide) _ U.length (u8n U) rfl (HO.out.alloc _) ⟨wr.heap.size, 0, none⟩ 1 1 [.int .u8 ((m : Int) % 128 + 128)] rfl rfl (cell_one_new _ _ _) (by simp [Value.oneCell']) (by decide) (by unfold maxLen; omega) (by omega) (by simp; omega) (wr.heap.size + 1) (by simp) ?_; intro q0 c0 w0 o0 gr0 hlie hlt0)
      rw [HD.out] at o0
      go_roundw
      case rel =>
        refine ⟨U ++ [d], m / 128, congrArg (Value.int .i64) (by omega), by omega, by simp; omega, ?_, ?_, ?_, ?_, ?_⟩
        · rw [u8n_app, List.length_append]; exact o0
        · rw [HE.out, HV.out]; simp [Hid]
        · exact ((HB.out.alloc (by omega) _).grown gr0 (by simp; omega) (fun k hk => (HO.out.lt k hk).1))
        · exact oth_step HT.out HF.out gr0 hwB
        · exact fro_step HF.out hlie hwB
      case measure => simp [intOf]; omega
    · have c' : ¬ (128 : Int) ≤ (m : Int) := by omega
      have e1 : IntKind.u8.wrap (m : Int) = (m : Int) := by rw [IntKind.wrap_u8]; omega
      have HV := hid (vn_last m c)
      go_wp2_with (at_builtin; refine wpList_append_lies _ rfl _ _ 58 rfl B 5 i0 (.int .u8 0) 1 1 Try.underlying58 hi hz0 hz1 hz2 rfl (by decide) _ U.length (u8n U) rfl (HO.out.alloc _) ⟨wr.heap.size, 0, none⟩ 1 1 [.int .u8 (m : Int)] rfl rfl (cell_one_new _ _ _) (by simp [Value.oneCell']) (by decide) (by unfold maxLen; omega) (by omega) (by simp; omega) (wr.heap.size + 1) (by simp) ?_; intro q0 c0 w0 o0 gr0 hlie hlt0)
      go_ret
      refine ⟨_, rfl, ?_, ?_, ?_, ?_⟩
      · have h9 : w0.ownsRow B 5 1 (.slice (some ⟨q0, 0, none⟩) (U.length + 1) c0) (T ++ vn n).length (u8n (T ++ vn n)) := by rw [HE.out, HV.out, u8n_app, List.length_append]; exact o0
        rw [List.length_append] at h9
        exact h9
      · exact ((HB.out.alloc (by omega) _).grown gr0 (by simp; omega) (fun k hk => (HO.out.lt k hk).1))
      · exact oth_step HT.out HF.out gr0 hwB
      · exact fro_step HF.out hlie hwB
set_option maxHeartbeats 4000000 in
set_option maxRecDepth 100000 in
theorem rbytes_any (B' P : Nat) (L : List Tr) (r : Nat) (w : World) (h : RtAt B' P L r w) (hr : r < 256) (hR : Ris 0 L) :
    Calls Try.prog 31 #[.pointer (some ⟨P, 0, none⟩)] w fun e w' => ∃ v', e = .returned v' ∧ w'.ownsRow w.heap.size 5 1 v' (enb r L).length (u8n (enb r L)) ∧ Below w.heap.size w w' := by
  obtain ⟨i0, hi, hz0, hz1, hz2⟩ := info_parts Try.info5
  obtain ⟨ao, ac, d0, d1, hP, ho⟩ := h.row
  have HR0 := hid hR
  have hn9 := ris_len L 0 (by omega) hR
  obtain ⟨n, hn⟩ : ∃ n, n = L.length := ⟨_, rfl⟩
  have HN := hid hn
  rw [← hn] at hn9 d0
  obtain ⟨B, hB⟩ : ∃ B, B = w.heap.size := ⟨_, rfl⟩
  have HBE := hid hB
  have HLB := hid (fun W (hW : Below B w W) => (rd_own ho).below (show Below w.heap.size w W by rw [← hB]; exact hW))
  rw [← hB] at hP ⊢
  have HPC := hid (show ∀ w', Below B w w' → w'.cell? ⟨P, 0, none⟩ = some (.slice ao n ac) ∧ w'.cell? ⟨P, 1, none⟩ = some (.int .i64 (r : Int)) from fun W hW => ⟨(hW.cell (p := ⟨P, 0, none⟩) hP).trans d0, (hW.cell (p := ⟨P, 1, none⟩) hP).trans d1⟩)
  have er : IntKind.u8.wrap (r : Int) = (r : Int) := by rw [IntKind.wrap_u8]; omega
  have HDR := hid (show Below B w w.drew from ⟨rfl, rfl, rfl, Nat.le_refl _, fun _ _ => rfl⟩)
  obtain ⟨w1, hw1⟩ : ∃ w1, w1 = w.drew := ⟨_, rfl⟩
  have hs1 : w1.heap.size = B := by rw [hw1, hB]; rfl
  rw [← hw1] at HDR
  have HO0 := hid (show (w1.alloc (.cells #[.int .u8 (r : Int)] 5)).ownsRow B 5 1 (.slice (some ⟨w1.heap.size, 0, none⟩) 1 1) 1 (u8n [r]) from World.ownsRow_lit w1 #[.int .u8 (r : Int)] 1 (by omega) (by decide) rfl)
  have HA0 := hid (HDR.out.alloc (show B ≤ w1.heap.size by omega) (.cells #[.int .u8 (r : Int)] 5))
  have HWN := hid (put_far B (.slice (some ⟨w1.heap.size, 0, none⟩) 1 1) [r] n _ HO0.out (by simp; omega) (by simp) (by omega))
  have HS0 := hid (show ([r] ++ vn n) ++ enL 0 (L.drop 0) = enb r L by unfold enb; rw [← HN.out]; rfl)
  have HL0 := hid (show ([r] ++ vn n).length ≤ 4 + 7 * 0 by have := vn3 n (by omega); rw [List.length_append]; simp; omega)
  have HSA := hid (HPC.out _ HA0.out)
  rw [hw1] at HWN HA0 HSA
  clear h ho hn hB hR HO0 hs1 hw1
  go_enter Try.func31, Try.ntmps31
  go_wp2_with fail
  go_region_held3 (fun w' => w'.cell? ⟨P, 0, none⟩ = some (.slice ao n ac) ∧ w'.cell? ⟨P, 1, none⟩ = some (.int .i64 (r : Int))) (first | exact HSA.out | exact HS2.out | go_keep) ((go_at_call 61; refine HWN.out.mono ?_; rintro e w2 ⟨v2, rfl, o2, b2, _, _⟩; have HO2 := hid o2; have HB2 := hid (HA0.out.trans b2); have HS2 := hid (HPC.out w2 HB2.out)))
  clear o2 b2 HWN d0 d1
  go_wp2
  go_loopw [5, 3, 4] (fun x y z wr => ∃ (i nx : Nat) (U : List Nat) (v : Value), x = .int .i64 (i : Int) ∧ y = v ∧ z = .int .i32 (nx : Int) ∧ i ≤ n ∧ nx ≤ 1114112 ∧ Hid (Ris nx (L.drop i)) ∧ Hid (U ++ enL nx (L.drop i) = enb r L) ∧ Hid (U.length ≤ 4 + 7 * i) ∧ Hid (wr.ownsRow B 5 1 v U.length (u8n U)) ∧ Hid (Below B w wr)) (fun x _ _ _ => n - (intOf x).toNat)
  case atStart => exact ⟨0, 0, [r] ++ vn n, v2, rfl, rfl, rfl, by omega, by omega, HR0, HS0, HL0, HO2, HB2⟩
  case round =>
    obtain ⟨i, nx, U, v, rfl, hv, rfl, hi', hnx, HRI, HEQ, HUL, HOU, HBU⟩ := hrel
    obtain rfl := hv.symm
    have hbu := HBU.out.size
    have hwB : B ≤ wr.heap.size := by have h5 := HBE.out; omega
    obtain ⟨p0, p1⟩ := HPC.out wr HBU.out
    by_cases hlt : i < n
    · have hiL : i < L.length := by have h5 := HN.out; omega
      obtain ⟨a, rfl, ha, a0, a1, a2⟩ := (HLB.out wr HBU.out) i (rkT L[i]) (by rw [List.getElem?_map, List.getElem?_eq_getElem hiL]; rfl)
      have hdr : L.drop i = L[i] :: L.drop (i + 1) := List.drop_eq_getElem_cons hiL
      rw [hdr] at HRI HEQ
      obtain ⟨r1, r2, r3, r4, r5⟩ := HRI.out
      have HR5 := hid r5
      unfold rkT at a0 a1 a2
      obtain ⟨gx, hx⟩ : ∃ gx, L[i] = gx := ⟨_, rfl⟩
      rw [hx] at a0 a1 a2 HEQ r1 r2 r3 r4 HR5
      obtain ⟨lo, hh, cl⟩ := gx
      dsimp only at a0 a1 a2 r1 r2 r3 r4 HR5
      change Hid (U ++ (vn (lo - nx) ++ (vn (hh - lo) ++ (cl :: enL (hh + 1) (L.drop (i + 1))))) = enb r L) at HEQ
      obtain ⟨d1, hd1⟩ : ∃ d1, d1 = lo - nx := ⟨_, rfl⟩
      obtain ⟨d2, hd2⟩ : ∃ d2, d2 = hh - lo := ⟨_, rfl⟩
      rw [← hd1, ← hd2] at HEQ
      have e1 : IntKind.i32.wrap ((lo : Int) - (nx : Int)) = (d1 : Int) := by rw [IntKind.wrap_i32]; omega
      have e2 : IntKind.i64.wrap (d1 : Int) = (d1 : Int) := by rw [IntKind.wrap_i64]; omega
      have e3 : IntKind.i32.wrap ((hh : Int) - (lo : Int)) = (d2 : Int) := by rw [IntKind.wrap_i32]; omega
      have e4 : IntKind.i64.wrap (d2 : Int) = (d2 : Int) := by rw [IntKind.wrap_i64]; omega
      have e5 : IntKind.u8.wrap (cl : Int) = (cl : Int) := by rw [IntKind.wrap_u8]; omega
      have e6 : IntKind.i32.wrap ((hh : Int) + 1) = ((hh + 1 : Nat) : Int) := by rw [IntKind.wrap_i32]; omega
      have hd1l : d1 ≤ 1114112 := by omega
      have hd2l : d2 ≤ 1114112 := by omega
      have i3 : (i : Int) < (n : Int) := by omega
      have hul := HUL.out
      have HV1 := hid (vn3 d1 (by omega))
      have HV2 := hid (vn3 d2 (by omega))
      have HBA := hid (HBU.out.alloc hwB (.cells #[.int .i32 (lo : Int), .int .i32 (hh : Int), .int .i64 (cl : Int)] 36))
      have HGA := hid (heap_alloc_new wr (.cells #[.int .i32 (lo : Int), .int .i32 (hh : Int), .int .i64 (cl : Int)] 36))
      have HW1 := hid (put_far B v U d1 (wr.alloc (.cells #[.int .i32 (lo : Int), .int .i32 (hh : Int), .int .i64 (cl : Int)] 36)) (HOU.out.alloc _) (by simp; omega) (by omega) (by omega))
      clear hx hdr r5 hd1 hd2
      go_wp2_with fail
      refine HW1.out.mono ?_
      rintro e w3 ⟨v3, rfl, o3, b3, t3, f3⟩
      have hs3 := b3.size
      simp only [World.size_alloc] at hs3
      have hG3 := (t3 wr.heap.size (by simp) (fun e => by have := (HOU.out.lt _ e).2; omega)).trans HGA.out
      have x0 : w3.cell? ⟨wr.heap.size, 0, none⟩ = some (.int .i32 (lo : Int)) := by rw [cell_of_row w3 wr.heap.size 0 _ 36 (0, 0) hG3]; rfl
      have x1 : w3.cell? ⟨wr.heap.size, 1, none⟩ = some (.int .i32 (hh : Int)) := by rw [cell_of_row w3 wr.heap.size 1 _ 36 (0, 0) hG3]; rfl
      have HB3 := hid (HBA.out.trans b3)
      have HG3 := hid hG3
      have HNE3 := hid (f3.ne HOU.out (Nat.le_refl _) (by simp))
      have HW2 := hid (put_far B v3 (U ++ vn d1) d2 w3 o3 (by omega) (by rw [List.length_append]; have h5 := HV1.out; omega) (by omega))
      have HO3 := hid o3
      clear o3 b3 t3 f3 HW1 HGA hG3
      go_wp2_with fail
      refine HW2.out.mono ?_
      rintro e w4 ⟨v4, rfl, o4, b4, t4, f4⟩
      have hs4 := b4.size
      have hG4 := (t4 wr.heap.size (by omega) HNE3.out).trans HG3.out
      have y1 : w4.cell? ⟨wr.heap.size, 1, none⟩ = some (.int .i32 (hh : Int)) := by rw [cell_of_row w4 wr.heap.size 1 _ 36 (0, 0) hG4]; rfl
      have y2 : w4.cell? ⟨wr.heap.size, 2, none⟩ = some (.int .i64 (cl : Int)) := by rw [cell_of_row w4 wr.heap.size 2 _ 36 (0, 0) hG4]; rfl
      have HB4 := hid (HB3.out.trans b4)
      have HO4 := hid o4
      have HG4 := hid hG4
      have HNE4 := hid (show v4.ownBlock ≠ some wr.heap.size from fun hk => by
        rcases f4 with f4 | f4
        · exact HNE3.out (by rw [← f4]; exact hk)
        · have := f4 _ hk; omega)
      have hl4 : (U ++ vn d1 ++ vn d2).length ≤ 10 + 7 * i := by rw [List.length_append, List.length_append]; have h5 := HV1.out; have h6 := HV2.out; omega
      obtain ⟨U4, hU4⟩ : ∃ U4, U4 = U ++ vn d1 ++ vn d2 := ⟨_, rfl⟩
      rw [← hU4] at HO4 hl4
      have HU4 := hid hU4
      clear o4 b4 t4 f4 HW2 hG4 x0 x1 hU4
      go_wp2_with (at_builtin; refine wpList_append_lies _ rfl _ _ 58 rfl B 5 i0 (.int .u8 0) 1 1 Try.underlying58 hi hz0 hz1 hz2 rfl (by decide) _ U4.length (u8n U4) rfl (HO4.out.alloc _) ⟨w4.heap.size, 0, none⟩ 1 1 [.int .u8 (cl : Int)] rfl rfl (cell_one_new _ _ _) (by simp [Value.oneCell']) (by decide) (by unfold maxLen; omega) (by omega) (by simp; omega) (w4.heap.size + 1) (by simp) ?_; intro q5 c5 w5 o5 gr5 hlie5 hlt5; have z1 : w5.cell? ⟨wr.heap.size, 1, none⟩ = some (.int .i32 (hh : Int)) := (World.cell?_of_block (gr5.block wr.heap.size (by simp; omega) (fun e => HNE4.out e.symm))).trans ((World.cell?_of_block (show (w4.alloc (.cells #[.int .u8 (cl : Int)] 5)).heap[wr.heap.size]? = w4.heap[wr.heap.size]? by show (w4.heap.push _)[wr.heap.size]? = _; rw [Array.getElem?_push, if_neg (by omega)])).trans y1))
      have HB5 := hid ((HB4.out.alloc (by omega) (.cells #[.int .u8 (cl : Int)] 5)).grown gr5 (by simp; omega) (fun k hk => (HO4.out.lt k hk).1))
      have HO5 := hid (show w5.ownsRow B 5 1 (.slice (some ⟨q5, 0, none⟩) (U4.length + 1) c5) (U4 ++ [cl]).length (u8n (U4 ++ [cl])) by rw [u8n_app, List.length_append]; exact o5)
      have HE5 := hid (show (U4 ++ [cl]) ++ enL (hh + 1) (L.drop (i + 1)) = enb r L by rw [← HEQ.out, HU4.out]; simp)
      have HL5 := hid (show (U4 ++ [cl]).length ≤ 4 + 7 * (i + 1) by rw [List.length_append]; simp; omega)
      clear o5 gr5
      go_roundw
      case rel => exact ⟨i + 1, hh + 1, U4 ++ [cl], _, by go_num, rfl, by go_num, by omega, by omega, HR5, HE5, HL5, HO5, HB5⟩
      case measure => simp [intOf]; omega
    · have i3 : ¬ (i : Int) < (n : Int) := by omega
      have HE := hid (show U = enb r L by rw [← HEQ.out, List.drop_of_length_le (by have h5 := HN.out; omega)]; simp [enL])
      rw [HE.out] at HOU
      go_wp2
      go_ret
      exact ⟨v, rfl, HOU.out, HBU.out⟩
end Go.Proofs.Ytljlhlcoaajggaa
/- Regions that draw their order, gone through in an order of one's own: each operation is free (it yields the same in every world that the others leave), or nothing else can come up. -/
namespace Go.Proofs.Ytljlhlcoaajggaa

section
variable {P : Program} {ops : Array Oper} {Q : Exit → Act → World → Prop} {md : Region.Mode} {S : World → Prop} {fin : Nat → Bool}

def Region.mixB (md : Region.Mode) (ops : Array Oper) (fin : Nat → Bool) : List (Nat × Bool) → Array Bool → Bool
  | [], listed => Region.ready md ops listed == []
  | (k, true) :: r, listed => (Region.ready md ops listed).contains k && Region.free md ops listed k && Region.finB md ops fin k && Region.mixB md ops fin r (listed.setIfInBounds k true)
  | (k, false) :: r, listed => (Region.ready md ops listed == [k]) && (!fin k || r.all fun x => !x.2) && Region.mixB md ops fin r (listed.setIfInBounds k true)
def wpMix (P : Program) (ops : Array Oper) (Q : Exit → Act → World → Prop) (S : World → Prop) (fin : Nat → Bool) : List (Nat × Bool) → Act → World → Prop
  | [], a, w => Q .normal a w
  | (k, true) :: r, a, w => ∃ o v, ops[k]? = some o ∧ YieldsIf P ops S o v a ∧ wpMix P ops Q S fin r (a.put o.dst v) w
  | (k, false) :: r, a, w => ∃ o, ops[k]? = some o ∧ if Region.wanted o (yielded ops a.tmps) = true then o.wp P a w (fun a' w' => (fin k = false → S w') ∧ wpMix P ops Q S fin r a' w') Q else (fin k = false → S w) ∧ wpMix P ops Q S fin r (a.put o.dst undef) w
theorem anyT_mix (hsel : Region.noSelect ops = true) (hs : ∀ j, fin j = true → j < ops.size) (hQ : ∀ c (a : Act) d v w, Q (.panic c) (a.put d v) w → Q (.panic c) a w) :
    ∀ (l : List (Nat × Bool)) (listed : Array Bool) (a : Act) (w : World), Region.mixB md ops fin l listed = true → (l.any (fun x => x.2) = true → S w) → wpMix P ops Q S fin l a w → anyT P md ops Q S fin l.length listed a w
  | [], listed, a, w, hB, _, h => ⟨by simpa [Region.mixB] using hB, h⟩
  | (k, true) :: r, listed, a, w, hB, hS, h => by
    simp only [Region.mixB, Bool.and_eq_true] at hB
    obtain ⟨⟨⟨hr, hf⟩, hfb⟩, hB'⟩ := hB
    obtain ⟨hf1, hf2⟩ := finB_spec hs hfb
    obtain ⟨o, v, h0, hy, hK⟩ := h
    have hSw : S w := hS (by simp)
    exact anyT_first h0 (Region.noSelect_spec hsel) (fun c a w => hQ c a _ _ w) hf1 hf2 r.length listed a w (Region.free_spec h0 hf) (by simpa using hr) hy hSw
      (anyT_mix hsel hs hQ r _ _ w hB' (fun _ => hSw) hK)
  | (k, false) :: r, listed, a, w, hB, hS, h => by
    simp only [Region.mixB, Bool.and_eq_true, beq_iff_eq] at hB
    obtain ⟨⟨hr, hfr⟩, hB'⟩ := hB
    obtain ⟨o, h0, h⟩ := h
    refine ⟨fun h1 => (by rw [hr] at h1; cases h1), fun i hi => ?_⟩
    rw [hr] at hi
    have hik : i = k := by simpa using hi
    subst hik
    have hw : wpOp P ops Q i (fun a' w' => (fin i = false → S w') ∧ wpMix P ops Q S fin r a' w') a w := by
      unfold wpOp
      simp only [h0]
      split
      · rename_i hc
        rw [if_pos hc] at h
        exact .inl h
      · rename_i hc
        rw [if_neg hc] at h
        exact h
    refine wpOp_mono (fun a' w' h' => ⟨h'.1, anyT_mix hsel hs hQ r _ a' w' hB' (fun hn => ?_) h'.2⟩) hw
    cases hfi : fin i with
    | false => exact h'.1 hfi
    | true =>
      rw [hfi] at hfr
      obtain ⟨x, hx, hx2⟩ := List.any_eq_true.1 hn
      have h5 := List.all_eq_true.1 (show (r.all fun x => !x.2) = true by simpa using hfr) x hx
      rw [hx2] at h5
      cases h5
/-- The law. -/
theorem wp_region_mix {id : Nat} {a : Act} {w : World} {l : List Oper} (ord : List (Nat × Bool)) (S : World → Prop) (fin : Nat → Bool) (hm : P.follows .mixedOrders = true) (hsel : Region.noSelect l.toArray = true) (hs : ∀ j, fin j = true → j < l.length)
    (hlen : ord.length = l.length) (hB : Region.mixB .any l.toArray fin ord (Array.replicate l.length false) = true) (hS : S w.drew)
    (h : wpMix P l.toArray (NoPanic Q) S fin ord a w.drew) : (Code.region id l.toArray true).wp P Q a w := by
  refine wp_region_noPanic (wp_region_any hm (anyT_any (S := S) (fin := fin) _ _ _ _ ?_))
  have H := anyT_mix (P := P) (ops := l.toArray) (Q := NoPanic Q) (md := .any) (S := S) (fin := fin) hsel (by simpa using hs) (fun _ _ _ _ _ h => h) ord (Array.replicate l.length false) a w.drew hB (fun _ => hS) h
  rw [hlen] at H
  simpa using H
theorem mix_free {o : Oper} {k : Nat} {r : List (Nat × Bool)} {a : Act} {w : World} (v : Value) (h0 : ops[k]? = some o) (hw : Region.wanted o (yielded ops a.tmps) = true) (h1 : ∀ w, S w → (execOp a.eval o).run P w = .ok (.value v) w) (h2 : wpMix P ops Q S fin r (a.put o.dst v) w) : wpMix P ops Q S fin ((k, true) :: r) a w :=
  ⟨o, v, h0, .inl ⟨hw, h1⟩, h2⟩
theorem mix_pass {o : Oper} {k : Nat} {r : List (Nat × Bool)} {a : Act} {w : World} (h0 : ops[k]? = some o) (hw : Region.wanted o (yielded ops a.tmps) = false) (h2 : wpMix P ops Q S fin r (a.put o.dst undef) w) : wpMix P ops Q S fin ((k, true) :: r) a w :=
  ⟨o, undef, h0, .inr ⟨hw, rfl⟩, h2⟩
theorem mix_go {o : Oper} {k : Nat} {r : List (Nat × Bool)} {a : Act} {w : World} (h0 : ops[k]? = some o) (hw : Region.wanted o (yielded ops a.tmps) = true) (h : ∀ K : Act → World → Prop, (∀ a w, (fin k = false → S w) → wpMix P ops Q S fin r a w → K a w) → o.wp P a w K Q) : wpMix P ops Q S fin ((k, false) :: r) a w := by
  refine ⟨o, h0, ?_⟩
  rw [if_pos hw]
  exact h _ fun _ _ h1 h2 => ⟨h1, h2⟩
theorem mix_end {a : Act} {w : World} (h : Q .normal a w) : wpMix P ops Q S fin [] a w := h
end
end Go.Proofs.Ytljlhlcoaajggaa
/- The walk of TableBytes. -/
namespace Go.Proofs.Ytljlhlcoaajggaa
open Go.RowKit

theorem row_e5 (w : World) : (w.alloc (.cells #[] 5)).ownsRow w.heap.size 5 1 (.slice (some ⟨w.heap.size, 0, none⟩) 0 0) 0 [] :=
  ⟨by simp, .inr ⟨w.heap.size, 0, #[], rfl, Nat.le_refl _, heap_alloc_new w _, Nat.le_refl _, by simp [maxLen], by simp, by simp⟩⟩
theorem u8n_ones (b : List Nat) : ∀ u ∈ u8n b, u.oneCell' = true := by
  intro u hu
  obtain ⟨c, _, rfl⟩ := List.mem_map.1 hu
  rfl
/-- append of bytes that came in, nil or not. -/
theorem wpList_append_nat {w : World} {ops : Array Oper} {rest : List Oper} {o : Oper} {a : Act} {Q : Exit → Act → World → Prop} (hgd : o.guard = none) (s x : Operand)
    (ho : o.op = .call { callee := .builtin .append, args := #[s, x], argTypes := #[58, 58] }) (base : Nat) (v : Value) (n : Nat) (xs : List Value) (hs : a.eval s = v) (hown : w.ownsRow base 5 1 v n xs)
    (ao : Option Addr) (cap m : Nat) (b : List Nat) (hm : b.length = m) (hx : a.eval x = .slice ao m cap) (hcap : ao = none → cap = 0) (hE : RdU w ao b)
    (h63 : n + m ≤ maxLen) (hbytes : (n + m) * 1 ≤ 140737488355328) (hbase : base ≤ w.heap.size)
    (h : ∀ v' w', w'.ownsRow base 5 1 v' (n + m) (xs ++ u8n b) → w.grownBy w' v.ownBlock → wpList Try.prog ops Q rest (a.put o.dst v') w') : wpList Try.prog ops Q (o :: rest) a w := by
  obtain ⟨i0, hi, hz0, hz1, hz2⟩ := info_parts Try.info5
  subst hm
  cases ao with
  | none =>
    have hn : b = [] := by
      cases b with
      | nil => rfl
      | cons y ys => obtain ⟨a', h', _⟩ := hE 0 y rfl; cases h'
    subst hn
    rw [hcap rfl] at hx
    exact wpList_append_own_none hgd s x 58 ho base 5 i0 1 Try.underlying58 hi v n xs hs hown hx (h v w (by simpa [u8n] using hown) (World.grownBy.refl _ _))
  | some ad =>
    refine wpList_append_own w hgd s x 58 ho base 5 i0 (.int .u8 0) 1 1 Try.underlying58 hi hz0 hz1 hz2 rfl (by decide) v n xs hs hown ad b.length cap (u8n b) hx (by rw [u8n_len]; simp) (fun j u hj => ?_) (u8n_ones b) h63 hbytes hbase (fun v' w' a b _ => h v' w' a b)
    unfold u8n at hj
    rw [List.getElem?_map] at hj
    cases hk : b[j]? with
    | none => rw [hk] at hj; cases hj
    | some z =>
      rw [hk] at hj
      obtain ⟨a', h', _, h2⟩ := hE j z hk
      cases h'; cases hj
      exact h2
/-- Bytes as a text. -/
def by8 (b : List Nat) : List UInt8 := b.map UInt8.ofNat
theorem conv_nil (w : World) : (convert 58 9 (.slice none 0 0)).run Try.prog w = .ok (.string ⟨(by8 []).toArray⟩) w := by kernel_rfl
theorem conv_u8 {w : World} {ao : Option Addr} {b : List Nat} (cap m : Nat) (hm : b.length = m) (h : RdU w ao b) (h8 : ∀ c ∈ b, c < 256) (hn : ao = none → cap = 0) : (convert 58 9 (.slice ao m cap)).run Try.prog w = .ok (.string ⟨(by8 b).toArray⟩) w := by
  subst hm
  cases ao with
  | none =>
    have hB : b = [] := by
      cases b with
      | nil => rfl
      | cons y ys => obtain ⟨a, h1, _⟩ := h 0 y rfl; cases h1
    subst hB
    rw [hn rfl]
    exact conv_nil w
  | some a =>
    have hl : (by8 b).length = b.length := by simp [by8]
    rw [← hl]
    refine run_convert_bytes_back _ 58 9 5 a cap (by8 b) Try.underlying58 Try.underlying5 Try.underlying9 (fun j hj => ?_)
    have hj' : j < b.length := by rw [← hl]; exact hj
    obtain ⟨a', h1, _, h3⟩ := h j b[j] (List.getElem?_eq_getElem hj')
    cases h1
    rw [h3]
    have h256 := h8 b[j] (List.getElem_mem hj')
    have e : (by8 b)[j] = UInt8.ofNat b[j] := by simp [by8]
    rw [e]
    have e2 : (UInt8.ofNat b[j]).toNat = b[j] := by simp; omega
    rw [e2]
theorem Sx.trans {X : Nat} {w w1 w2 : World} (h : Sx X w w1) (k : Sx X w1 w2) : Sx X w w2 :=
  ⟨k.os.trans h.os, k.tape.trans h.tape, k.output.trans h.output, k.size.trans h.size, fun i hi => (k.block i hi).trans (h.block i hi)⟩
theorem sx_setCell (w : World) (X k : Nat) (v : Value) : Sx X w (w.setCell ⟨X, k, none⟩ v) := by
  have hb := (Below.refl X w).setCell (p := ⟨X, k, none⟩) (Nat.le_refl X) v
  exact ⟨hb.os, hb.tape, hb.output, World.size_setCell _ _ _, fun i hi => Below.heap_setCell w _ _ _ (by show i ≠ X; exact hi)⟩
theorem Sx.below_of {X N : Nat} {w0 w w' : World} (h : Sx X w w') (hb : Below N w0 w) (hN : N ≤ X) : Below N w0 w' :=
  ⟨h.os.trans hb.os, h.tape.trans hb.tape, h.output.trans hb.output, by rw [h.size]; exact hb.size, fun k hk => (h.block k (by omega)).trans (hb.block k hk)⟩
theorem Twin.sx {B T P r X : Nat} {F : List (List Nat)} {L : List Tr} {w w' : World} (h : Twin B T P r F L w) (hs : Sx X w w') (hX : X < B) (hT : B ≤ T) (hP : B ≤ P) : Twin B T P r F L w' := by
  obtain ⟨g, cap, h1, h2, h3, h4, h5⟩ := h.t
  obtain ⟨v, k1, k2⟩ := h.p
  exact ⟨⟨g, cap, (hs.block T (by omega)).trans h1, hs.own h2 hX, h3, h4, h5⟩, ⟨v, (hs.block P (by omega)).trans k1, hs.own k2 hX⟩, h.f, h.lt, h.ris, h.nrm⟩
theorem own_cap5 {B g n cap : Nat} {xs : List Value} {w : World} (h : w.ownsRow B 5 1 (.slice (some ⟨g, 0, none⟩) n cap) n xs) : n ≤ cap := by
  rcases h.2 with ⟨h', _⟩ | ⟨g', cap', cur, h', hb, hg, hnc, hcm, hcs, ht⟩
  · simp at h'
  · simp only [Value.slice.injEq, Option.some.injEq, Addr.mk.injEq, and_true, true_and] at h'
    obtain ⟨rfl, rfl⟩ := h'
    exact hnc
theorem own_nilcap {B n cap : Nat} {ao : Option Addr} {xs : List Value} {w : World} (h : w.ownsRow B 5 1 (.slice ao n cap) n xs) : (ao = none → cap = 0) ∧ n ≤ cap := by
  rcases h.2 with ⟨h', h0⟩ | ⟨g', cap', cur, h', hb, hg, hnc, hcm, hcs, ht⟩
  · injection h' with e1 e2 e3
    exact ⟨fun _ => e3, by rw [e3, h0]; exact Nat.le_refl _⟩
  · injection h' with e1 e2 e3
    exact ⟨fun e => (by rw [e1] at e; cases e), (by rw [e3]; exact hnc)⟩
theorem enL_len : ∀ (L : List Tr) (b : Nat), Ris b L → (enL b L).length ≤ 7 * L.length
  | [], _, _ => Nat.le_refl _
  | g :: L, b, h => by
    obtain ⟨h1, h2, h3, h4, h5⟩ := h
    have ih := enL_len L (g.2.1 + 1) h5
    have v1 := vn3 (g.1 - b) (by omega)
    have v2 := vn3 (g.2.1 - g.1) (by omega)
    show (vn (g.1 - b) ++ (vn (g.2.1 - g.1) ++ (g.2.2 :: enL (g.2.1 + 1) L))).length ≤ _
    rw [List.length_append, List.length_append, List.length_cons, List.length_cons]
    omega
theorem rl_enb (r : Nat) (M : List Tr) (r1 : Ris 0 M) (r2 : Nr r none 0 M) : rl (enb r M) = some M := by
  have hlen := ris_len M 0 (by omega) r1
  show (match tk (vn M.length ++ enL 0 M) with | none => none | some (n, c1) => rdL r n 0 none c1) = _
  have t1 : tk (vn M.length ++ enL 0 M) = some (M.length, enL 0 M) := tkq_vn 3 _ _ (show _ < 268435456 by omega)
  rw [t1]
  exact rdL_enL r M 0 none r1 r2
theorem lds_ldR {b : List Nat} {L : List Tr} (h : lds b = some L) : ldR b = some L := by
  unfold lds at h
  cases hl : ldR b with
  | none => rw [hl] at h; cases h
  | some M =>
    rw [hl] at h
    dsimp only at h
    split at h
    · exact h
    · cases h
theorem nr_of_rgs {r : Nat} {L : List Tr} (hr : r < 256) (h : Ris 0 L) (hn : rgs r (clA r L) = L) : Nr r none 0 L := by
  have h5 := rgs_nr r hr (clA r L) (clA_len r L h) (clA_256 r L hr h)
  rw [hn] at h5
  exact h5

set_option maxHeartbeats 12000000 in
set_option maxRecDepth 100000 in
theorem bytes_walk (ao bo' : Option Addr) (ac bc : Nat) (l : List Rk) (r : Int) (b : List Nat) (w : World) (ha : RdK w ao l) (hna : ao = none → ac = 0) (hl0 : l.length ≤ 9223372036854775807) (hb : RdU w bo' b) (h8 : ∀ c ∈ b, c < 256) (hnb : bo' = none → bc = 0) (hb0 : b.length ≤ 9223372036854775807) :
    Calls Try.prog 7 #[.slice ao l.length ac, .int .i64 r, .slice bo' b.length bc] w fun e w' => e = .returned (.bool true) ∧ Below w.heap.size w w' := by
  obtain ⟨i0, hi, hz0, hz1, hz2⟩ := info_parts Try.info5
  have HA := hid ha
  have HRB := hid hb
  have H8 := hid h8
  obtain ⟨n, hn⟩ : ∃ n, n = l.length := ⟨_, rfl⟩
  obtain ⟨m, hm⟩ : ∃ m, m = b.length := ⟨_, rfl⟩
  have HN := hid hn
  have HM := hid hm
  rw [← hn] at hl0 ⊢
  rw [← hm] at hb0 ⊢
  clear ha hb h8
  by_cases c1 : 300 < n
  · have c1' : (300 : Int) < (n : Int) := by omega
    clear hn hm
    go_enter Try.func7, Try.ntmps7
    go_wp2_with fail
    refine (live_any _).mono ?_
    rintro e w1 ⟨rfl, b1⟩
    have HB1 := hid b1
    clear b1
    go_wp2
    go_ret
    exact ⟨rfl, HB1.out⟩
  by_cases c2 : 2000 < m
  · have c1' : ¬ (300 : Int) < (n : Int) := by omega
    have c2' : (2000 : Int) < (m : Int) := by omega
    clear hn hm
    go_enter Try.func7, Try.ntmps7
    go_wp2_with fail
    refine (live_any _).mono ?_
    rintro e w1 ⟨rfl, b1⟩
    have HB1 := hid b1
    clear b1
    go_wp2
    go_ret
    exact ⟨rfl, HB1.out⟩
  have c1' : ¬ (300 : Int) < (n : Int) := by omega
  have c2' : ¬ (2000 : Int) < (m : Int) := by omega
  have hn3 : n ≤ 300 := by omega
  have hm3 : m ≤ 2000 := by omega
  have HBT := hid (show ∀ W, Below w.heap.size w W → Calls Try.prog 20 #[.slice ao n ac, .int .i64 r] W fun e w' => Below W.heap.size W w' ∧ ((bo l r ≠ none ∧ e = .returned (.tuple #[.pointer none, .pointer none, .bool false, .bool true])) ∨ (bo l r = none ∧ ∃ T P F L, e = .returned (.tuple #[.pointer (some ⟨T, 0, none⟩), .pointer (some ⟨P, 0, none⟩), .bool true, .bool true]) ∧ Twin W.heap.size T P r.toNat F L w')) from fun W hW => by
    have h5 := both_any ao ac l r W (HA.out.below hW) hna (by omega)
    rw [← hn] at h5
    exact h5)
  have HRL := hid (show ∀ W, Below w.heap.size w W → Calls Try.prog 29 #[.slice bo' m bc] W fun e w' => Below W.heap.size W w' ∧ ((rl b = none ∧ e = .returned (.tuple #[.pointer none, .int .i64 31])) ∨ (∃ P L, rl b = some L ∧ e = .returned (.tuple #[.pointer (some ⟨P, 0, none⟩), .int .i64 0]) ∧ W.heap.size ≤ P ∧ RtAt W.heap.size P L (ldr b) w')) from fun W hW => by
    have h5 := rload_any bo' bc b W (HRB.out.below hW) H8.out (by omega)
    rw [← hm] at h5
    exact h5)
  have HCV := hid (show ∀ W, Below w.heap.size w W → (convert 58 9 (.slice bo' m bc)).run Try.prog W = .ok (.string ⟨(by8 b).toArray⟩) W from fun W hW => conv_u8 bc m hm.symm (HRB.out.below hW) H8.out hnb)
  have o0 := row_e5 w
  have hb0' := (Below.refl w.heap.size w).alloc (Nat.le_refl _) (.cells #[] 5)
  have HB0 := hid hb0'
  have HE0 := hid (HRB.out.below hb0')
  have HO0 := hid o0
  have HMS := hid hm.symm
  clear hn hm hb0' o0
  go_enter Try.func7, Try.ntmps7
  go_wp2_with (at_builtin; refine wpList_append_nat rfl _ _ rfl w.heap.size (.slice (some ⟨w.heap.size, 0, none⟩) 0 0) 0 [] rfl HO0.out bo' bc m b HMS.out rfl hnb HE0.out (by unfold maxLen; omega) (by omega) (by simp) ?_)
  intro v1 w1 o1 gr1
  have HB1 := hid (HB0.out.grown gr1 (by simp) (fun k hk => (HO0.out.lt k hk).1))
  have hs1 := HB1.out.size
  have HO1 := hid o1
  clear o1 gr1
  go_wp2_with (at_builtin; refine wpList_append_own _ rfl _ _ 58 rfl w.heap.size 5 i0 (.int .u8 0) 1 1 Try.underlying58 hi hz0 hz1 hz2 rfl (by decide) _ _ _ rfl (HO1.out.alloc _) ⟨w1.heap.size, 0, none⟩ 1 1 [.int .u8 9] rfl rfl (cell_one_new _ _ _) (by simp [Value.oneCell']) (by unfold maxLen; omega) (by omega) (by simp; omega) ?_)
  intro v2 w2 o2 gr2 _
  have HB2 := hid ((HB1.out.alloc hs1 (.cells #[.int .u8 9] 5)).grown gr2 (by simp; omega) (fun k hk => (HO1.out.lt k hk).1))
  have hs2 := HB2.out.size
  obtain ⟨M, hM⟩ : ∃ M, M = m + 1 := ⟨_, rfl⟩
  have hM1 : m < M := by omega
  have hM2 : M ≤ 2001 := by omega
  have ho2 : w2.ownsRow w.heap.size 5 1 v2 M (u8n (b ++ [9])) := by rw [hM, u8n_app]; exact o2
  obtain ⟨g, cap2, hve, hgB, hgw⟩ := ho2.form (by omega)
  subst hve
  have hcap := own_cap5 ho2
  have HRG := hid (show RdU w2 (some ⟨g, 0, none⟩) b from fun k c hk => rdu_own ho2 k c (by rw [List.getElem?_append_left (List.getElem?_eq_some_iff.1 hk).1]; exact hk))
  have c9 : w2.cell? ⟨g, m, none⟩ = some (.int .u8 9) := by
    rw [ho2.cellAt m (by omega)]
    unfold u8n
    rw [List.getElem?_map, List.getElem?_append_right (by have h5 := HMS.out; omega)]
    have h5 := HMS.out
    simp [h5]
  have HO2 := hid ho2
  have HLD := hid (load_any (some ⟨g, 0, none⟩) cap2 b w2 HRG.out H8.out (by have h5 := HMS.out; omega) (by have h5 := HMS.out; omega) (fun e => by cases e))
  rw [HMS.out] at HLD
  have k1 : (m : Int) ≤ (cap2 : Int) := by omega
  have k0 : (0 : Int) ≤ (m : Int) := by omega
  clear o2 gr2 ho2 hM HB0 HE0 HO0
  go_wp2_with fail
  refine HLD.out.mono ?_
  rintro e w3 ⟨b3, hc⟩
  have HB3 := hid (HB2.out.trans (b3.mono hs2))
  have hs3 := b3.size
  have hs03 : w.heap.size ≤ w3.heap.size := by omega
  have HG3 := hid (b3.block g hgw)
  have c93 : w3.cell? ⟨g, m, none⟩ = some (.int .u8 9) := (b3.cell (p := ⟨g, m, none⟩) hgw).trans c9
  have HB23 := hid b3
  clear b3 HLD c9
  have hlr8 : ldr b < 256 := headD_256 b H8.out
  rcases hc with ⟨hnl, rfl⟩ | ⟨T, F, L, hls, rfl, hTs, hF, hRi, hTb⟩
  · have HNL := hid hnl
    clear hnl
    go_wp2_with fail
    refine (HRL.out w3 HB3.out).mono ?_
    rintro e w4 ⟨b4, hd⟩
    have HB4 := hid (HB3.out.trans (b4.mono hs03))
    have HB34 := hid b4
    have hs4 := b4.size
    have c94 : w4.cell? ⟨g, m, none⟩ = some (.int .u8 9) := (b4.cell (p := ⟨g, m, none⟩) (by show g < _; omega)).trans c93
    clear b4
    rcases hd with ⟨hrl, rfl⟩ | ⟨P, L, hrl, rfl, hPs, hPt⟩
    · clear hrl
      go_wp2_with (first | (go_at_call 9; refine (num_any _ _).mono ?_; rintro e w9 ⟨rfl, h9⟩; obtain rfl := h9.symm) | fail)
      have HO4 := hid (show w4.ownsRow w.heap.size 5 1 (.slice (some ⟨g, 0, none⟩) M cap2) M (u8n (b ++ [9])) from own_keep (own_keep HO2.out HB23.out) HB34.out)
      have HS0 := hid (Sx.refl g w4)
      go_loopw [12] (fun x wr => ∃ (j : Nat) (U : List Value), x = .int .i64 (j : Int) ∧ j ≤ M ∧ Hid (wr.ownsRow w.heap.size 5 1 (.slice (some ⟨g, 0, none⟩) M cap2) M U) ∧ Hid (Sx g w4 wr)) (fun x _ => M - (intOf x).toNat)
      case atStart => exact ⟨0, _, rfl, by omega, HO4, HS0⟩
      case round =>
        obtain ⟨j, U, rfl, hj, HOJ, HSJ⟩ := hrel
        by_cases hlt3 : j < M
        · have hU : U.length = M := by have h5 := HOJ.out.1; omega
          obtain ⟨u0, f0⟩ : ∃ u, wr.cell? ⟨g, j, none⟩ = some u := by rw [HOJ.out.cellAt _ (by omega)]; exact ⟨_, List.getElem?_eq_getElem (by omega)⟩
          have z0 : wr.frozen? ⟨g, j, none⟩ = false := HOJ.out.frozenAt _
          have j3 : (j : Int) < (M : Int) := by omega
          have j0 : (0 : Int) ≤ (j : Int) := by omega
          have HOK := hid (HOJ.out.stored j (.int .u8 238)).1
          have HSK := hid (HSJ.out.trans (sx_setCell wr g j (.int .u8 238)))
          go_wp2
          go_roundw
          case rel => exact ⟨j + 1, _, by go_num, by omega, HOK, HSK⟩
          case measure => simp [intOf]; omega
        · have j3 : ¬ (j : Int) < (M : Int) := by omega
          have HBJ := hid (HSJ.out.below_of HB4.out hgB)
          have hsj := HBJ.out.size
          clear HOJ HO4 HS0
          go_wp2_with fail
          refine wp_region_noPanic ?_
          refine wp_region_holdG 16 (fun _ => True) (fun _ => false) (by kernel_rfl) (by kernel_rfl) (by decide) (fun j hj => by cases hj) (by kernel_rfl) (fun _ _ _ _ _ h => h) trivial ?_
          dsimp only [List.take, List.drop]
          iterate 3 (refine wpHold_step ?_ rfl (fun w' hS => ?_) ?_; (rotate_left; (go_simp; with_reducible rfl); rotate_left))
          simp only [Act.put, List.setIfInBounds_toArray, List.set_cons_zero, List.set_cons_succ]
          iterate 12 (refine holdG_no (by kernel_rfl) ?_)
          simp only [Act.put, List.setIfInBounds_toArray, List.set_cons_zero, List.set_cons_succ]
          iterate 1 (refine wpHold_step ?_ rfl (fun w' hS => ?_) ?_; (rotate_left; (go_simp; with_reducible rfl); rotate_left))
          simp only [Act.put, List.setIfInBounds_toArray, List.set_cons_zero, List.set_cons_succ]
          show wpTailG _ _ _ _ _ _ _ _ _
          refine tailG_nil (NoPanic.normal ?_)
          have HB6 := hid (HBJ.out.trans (show Below w.heap.size wr wr.drew from ⟨rfl, rfl, rfl, Nat.le_refl _, fun _ _ => rfl⟩))
          obtain ⟨W6, hW6⟩ : ∃ W6, W6 = wr.drew := ⟨_, rfl⟩
          try rw [← hW6]
          rw [← hW6] at HB6
          have hs6 := HB6.out.size
          clear hW6

          go_wp2_with fail
          refine (HBT.out W6 HB6.out).mono ?_
          rintro e w7 ⟨b7, hd⟩
          have HB7 := hid (HB6.out.trans (b7.mono hs6))
          have hs7 := HB7.out.size
          clear b7
          rcases hd with ⟨_, rfl⟩ | ⟨hbo, T2, P2, F2, L2, rfl, tw⟩
          · go_wp2_with fail
            refine (live_any _).mono ?_
            rintro e w8 ⟨rfl, b8⟩
            have HB8 := hid (HB7.out.trans (b8.mono hs7))
            clear b8
            go_wp2
            go_ret
            exact ⟨rfl, HB8.out⟩
          · have HTW := hid tw
            obtain ⟨r2, hr2⟩ : ∃ r2, r2 = r.toNat := ⟨_, rfl⟩
            rw [← hr2] at HTW
            have HBY := hid (bytes_any W6.heap.size T2 r2 F2 w7 HTW.out.t HTW.out.lt)
            rw [HTW.out.f, HTW.out.nrm] at HBY
            have HNR := hid (nr_of_rgs HTW.out.lt HTW.out.ris HTW.out.nrm)
            have HRE := hid (rl_enb r2 L2 HTW.out.ris HNR.out)
            have H8E := hid (enb_256 r2 L2 HTW.out.lt HTW.out.ris)
            have HDS := hid (rl_some (enb r2 L2) H8E.out L2 HRE.out)
            have HEL := hid (show (enb r2 L2).length ≤ 8000000 by
              have h5 := ris_len L2 0 (by omega) HTW.out.ris
              have h6 := enL_len L2 0 HTW.out.ris
              have h7 := vn3 L2.length (by omega)
              unfold enb
              rw [List.length_cons, List.length_append]; omega)
            have HR2 := hid (show ldr (enb r2 L2) = r2 from rfl)
            obtain ⟨eb, heb⟩ : ∃ eb, eb = enb r2 L2 := ⟨_, rfl⟩
            obtain ⟨k8, hk8⟩ : ∃ k8, k8 = eb.length := ⟨_, rfl⟩
            rw [← heb] at HBY HRE H8E HDS HEL HR2
            rw [← hk8] at HBY HEL
            have HKE := hid hk8.symm
            have HEB := hid heb
            clear tw hbo hr2 hk8 heb
            go_wp2_with fail
            refine HBY.out.mono ?_
            rintro e w8 ⟨v8, rfl, o8, b8⟩
            obtain ⟨vo8, vc8, rfl⟩ := own_form o8
            obtain ⟨hn8, hc8⟩ := own_nilcap o8
            have HB8 := hid (HB7.out.trans (b8.mono hs7))
            have hs8 := HB8.out.size
            have HTW8 := hid (HTW.out.below b8)
            have HRU := hid (rdu_own o8)
            have HBD8 := hid (show Below w8.heap.size w8 w8.drew from ⟨rfl, rfl, rfl, Nat.le_refl _, fun _ _ => rfl⟩)
            have HC8 := hid (show ∀ W, Below w8.heap.size w8 W → (convert 58 9 (.slice vo8 k8 vc8)).run Try.prog W = .ok (.string ⟨(by8 eb).toArray⟩) W from fun W hW => conv_u8 vc8 k8 HKE.out (HRU.out.below hW) H8E.out hn8)
            have j8 := HC8.out w8.drew HBD8.out
            have HRY := hid (rbytes_any W6.heap.size P2 L2 r2 w8.drew (HTW8.out.p.below HBD8.out) HTW8.out.lt HTW8.out.ris)
            rw [← HEB.out, HKE.out] at HRY
            clear o8 b8 HBY
            go_wp2_with fail
            refine wp_region_mix [(0, true), (1, true), (2, true), (3, false), (4, false), (5, true)] (fun w' => (convert 58 9 (.slice vo8 k8 vc8)).run Try.prog w' = .ok (.string ⟨(by8 eb).toArray⟩) w') (fun _ => false) (by kernel_rfl) (by kernel_rfl) (fun j hj => by cases hj) rfl (by kernel_rfl) j8 ?_
            iterate 3 (refine mix_free ?_ rfl (by kernel_rfl) (fun w' hS => ?_) ?_; (rotate_left; (go_simp; with_reducible rfl); rotate_left))
            simp only [Act.put, List.setIfInBounds_toArray]
            refine mix_go rfl (by kernel_rfl) fun KK hKK => ?_
            go_simp
            refine HRY.out.mono ?_
            rintro e w9 ⟨v9, rfl, o9, b9⟩
            have HB89 := hid (HBD8.out.trans b9)
            have HS9 := hid (HC8.out w9 HB89.out)
            obtain ⟨vo9, vc9, rfl⟩ := own_form o9
            obtain ⟨hn9, hc9⟩ := own_nilcap o9
            have j9 : (convert 58 9 (.slice vo9 k8 vc9)).run Try.prog w9 = .ok (.string ⟨(by8 eb).toArray⟩) w9 := conv_u8 vc9 k8 HKE.out (rdu_own o9) H8E.out hn9
            refine hKK _ _ (fun _ => HS9.out) ?_
            clear hKK KK
            refine mix_go rfl (by kernel_rfl) fun KK hKK => ?_
            go_simp
            refine hKK _ _ (fun _ => HS9.out) ?_
            clear hKK KK
            iterate 1 (refine mix_free ?_ rfl (by kernel_rfl) (fun w' hS => ?_) ?_; (rotate_left; (go_simp; with_reducible rfl); rotate_left))
            simp only [Act.put, List.setIfInBounds_toArray]
            refine mix_end (NoPanic.normal ?_)
            have HB9 := hid (HB8.out.trans (HB89.out.mono hs8))
            have hs9 := HB9.out.size
            have HL9 := hid (load_any vo8 vc8 eb w9 (HRU.out.below HB89.out) H8E.out (by rw [HKE.out]; exact hc8) (by rw [HKE.out]; have h5 := HEL.out; omega) hn8)
            rw [HKE.out] at HL9
            have HT9 := hid (HTW8.out.t.below HB89.out)
            have HF2 := hid HTW8.out.f
            clear o9 b9 HRY j8 j9
            go_wp2_with fail
            refine HL9.out.mono ?_
            rintro e wa ⟨ba, hc⟩
            have HBa := hid (HB9.out.trans (ba.mono hs9))
            have hsa := HBa.out.size
            have HTa := hid (HT9.out.below ba)
            clear ba HL9
            rcases hc with ⟨hna', _⟩ | ⟨T3, F3, L3, hL3, rfl, hT3, hF3, hR3, hTb3⟩
            · rw [HDS.out.1] at hna'
              cases hna'
            · rw [HDS.out.1] at hL3
              cases hL3
              rw [HR2.out] at hF3 hTb3
              have hFF : F3 = F2 := by
                obtain ⟨_, _, _, _, q1, _, _⟩ := hTb3
                obtain ⟨_, _, _, _, q2, _, _⟩ := HTa.out
                exact flat_one q1 q2 (hF3.trans HF2.out.symm)
              have HEQ := hid (equal_any _ _ T3 T2 r2 r2 F3 F2 wa hTb3 HTa.out)
              rw [show (decide (r2 = r2 ∧ F3 = F2)) = true by simp [hFF]] at HEQ
              clear hF3 hR3 hTb3 hFF hT3
              go_wp2_with (first | (go_at_call 9; refine (num_any _ _).mono ?_; rintro e w9 ⟨rfl, h9⟩; obtain rfl := h9.symm) | fail)
              refine HEQ.out.mono ?_
              rintro e wb ⟨rfl, bb⟩
              have HBb := hid (HBa.out.trans (bb.mono hsa))
              have hsb := HBb.out.size
              clear bb
              go_wp2_with fail
              refine (live_any _).mono ?_
              rintro e wc ⟨rfl, bc'⟩
              have HBc := hid (HBb.out.trans (bc'.mono hsb))
              clear bc'
              go_wp2
              go_ret
              exact ⟨rfl, HBc.out⟩

    · have h5 := (rl_some b H8.out L hrl).1
      rw [HNL.out] at h5
      cases h5
  · have HLS := hid hls
    clear hls
    go_wp2_with fail
    refine (HRL.out w3 HB3.out).mono ?_
    rintro e w4 ⟨b4, hd⟩
    have HB4 := hid (HB3.out.trans (b4.mono hs03))
    have HB34 := hid b4
    have hs4 := b4.size
    have c94 : w4.cell? ⟨g, m, none⟩ = some (.int .u8 9) := (b4.cell (p := ⟨g, m, none⟩) (by show g < _; omega)).trans c93
    rcases hd with ⟨hrl, rfl⟩ | ⟨P, L', hrl, rfl, hPs, hPt⟩
    · have h5 := rl_none b H8.out (fun L' h' => by rw [lds_ldR HLS.out] at h'; cases h'; exact hRi) hrl
      rw [HLS.out] at h5
      cases h5
    · obtain ⟨q1, q2, q3, q4, q5⟩ := rl_some b H8.out L' hrl
      rw [HLS.out] at q1
      cases q1
      have HT4 := hid (show Twin w2.heap.size T P (ldr b) F L w4 from ⟨hTb.below b4, hPt.mono hs3, hF, hlr8, q2, q5⟩)
      have hTs2 : w2.heap.size ≤ T := hTs
      have hPs2 : w2.heap.size ≤ P := by omega
      have hgw2 : g < w2.heap.size := hgw
      have HBE := hid q4
      clear b4 hrl q2 q3 q4 q5 hTb hPt hF hRi
      go_wp2_with (first | (go_at_call 9; refine (num_any _ _).mono ?_; rintro e w9 ⟨rfl, h9⟩; obtain rfl := h9.symm) | fail)
      have HO4 := hid (show w4.ownsRow w.heap.size 5 1 (.slice (some ⟨g, 0, none⟩) M cap2) M (u8n (b ++ [9])) from own_keep (own_keep HO2.out HB23.out) HB34.out)
      have HS0 := hid (Sx.refl g w4)
      go_loopw [12] (fun x wr => ∃ (j : Nat) (U : List Value), x = .int .i64 (j : Int) ∧ j ≤ M ∧ Hid (wr.ownsRow w.heap.size 5 1 (.slice (some ⟨g, 0, none⟩) M cap2) M U) ∧ Hid (Sx g w4 wr)) (fun x _ => M - (intOf x).toNat)
      case atStart => exact ⟨0, _, rfl, by omega, HO4, HS0⟩
      case round =>
        obtain ⟨j, U, rfl, hj, HOJ, HSJ⟩ := hrel
        by_cases hlt3 : j < M
        · have hU : U.length = M := by have h5 := HOJ.out.1; omega
          obtain ⟨u0, f0⟩ : ∃ u, wr.cell? ⟨g, j, none⟩ = some u := by rw [HOJ.out.cellAt _ (by omega)]; exact ⟨_, List.getElem?_eq_getElem (by omega)⟩
          have z0 : wr.frozen? ⟨g, j, none⟩ = false := HOJ.out.frozenAt _
          have j3 : (j : Int) < (M : Int) := by omega
          have j0 : (0 : Int) ≤ (j : Int) := by omega
          have HOK := hid (HOJ.out.stored j (.int .u8 238)).1
          have HSK := hid (HSJ.out.trans (sx_setCell wr g j (.int .u8 238)))
          go_wp2
          go_roundw
          case rel => exact ⟨j + 1, _, by go_num, by omega, HOK, HSK⟩
          case measure => simp [intOf]; omega
        · have j3 : ¬ (j : Int) < (M : Int) := by omega
          have HBJ := hid (HSJ.out.below_of HB4.out hgB)
          have hsj := HBJ.out.size
          clear HOJ HO4 HS0
          have HTJ := hid (HT4.out.sx HSJ.out hgw2 hTs2 hPs2)
          have HBD := hid (show Below wr.heap.size wr wr.drew from ⟨rfl, rfl, rfl, Nat.le_refl _, fun _ _ => rfl⟩)
          have HB5 := hid (HBJ.out.trans (HBD.out.mono hsj))
          have j5 := HCV.out wr.drew HB5.out
          have HTD := hid (HTJ.out.below HBD.out)
          have HASK := hid (asks_any w2.heap.size T (ldr b) w2.heap.size P F L none 0 [] [97] wr.drew HTD.out.t HTD.out.f HTD.out.lt HTD.out.ris HTD.out.nrm HTD.out.p (RdZ.nil _ _) (by simp) (by simp))
          have hs5 := HB5.out.size
          clear HTJ
          go_wp2_with fail
          refine wp_region_mix [(0, true), (1, true), (2, true), (3, true), (4, true), (5, false), (6, true), (7, true), (8, true), (11, true), (12, true), (9, false), (10, false), (13, true), (14, true), (15, true)] (fun w' => (convert 58 9 (.slice bo' m bc)).run Try.prog w' = .ok (.string ⟨(by8 b).toArray⟩) w') (fun _ => false) (by kernel_rfl) (by kernel_rfl) (fun j hj => by cases hj) rfl (by kernel_rfl) j5 ?_
          iterate 5 (refine mix_free ?_ rfl (by kernel_rfl) (fun w' hS => ?_) ?_; (rotate_left; (go_simp; with_reducible rfl); rotate_left))
          simp only [Act.put, List.setIfInBounds_toArray]
          refine mix_go rfl (by kernel_rfl) fun KK hKK => ?_
          go_simp
          refine HASK.out.mono ?_
          rintro e w6 ⟨rfl, b6⟩
          have HB6a := hid (HB5.out.trans (b6.mono hs5))
          have HS6 := hid (HCV.out w6 HB6a.out)
          have HT6 := hid (HTD.out.below b6)
          have hs6a := HB6a.out.size
          refine hKK _ _ (fun _ => HS6.out) ?_
          clear hKK KK
          iterate 5 (refine mix_free ?_ rfl (by kernel_rfl) (fun w' hS => ?_) ?_; (rotate_left; (go_simp; with_reducible rfl); rotate_left))
          simp only [Act.put, List.setIfInBounds_toArray]
          refine mix_go rfl (by kernel_rfl) fun KK hKK => ?_
          go_simp
          refine (bytes_any w2.heap.size T (ldr b) F w6 HT6.out.t HT6.out.lt).mono ?_
          rintro e W6 ⟨v7, rfl, o7, b7⟩
          rw [HT6.out.f, HT6.out.nrm, ← HBE.out] at o7
          have HB6 := hid (HB6a.out.trans (b7.mono hs6a))
          have HS7 := hid (HCV.out W6 HB6.out)
          obtain ⟨vo7, vc7, rfl⟩ := own_form o7
          obtain ⟨hn7, hc7⟩ := own_nilcap o7
          have j7 : (convert 58 9 (.slice vo7 b.length vc7)).run Try.prog W6 = .ok (.string ⟨(by8 b).toArray⟩) W6 := conv_u8 vc7 b.length rfl (rdu_own o7) H8.out hn7
          refine hKK _ _ (fun _ => HS7.out) ?_
          clear hKK KK
          refine mix_go rfl (by kernel_rfl) fun KK hKK => ?_
          go_simp
          refine hKK _ _ (fun _ => HS7.out) ?_
          clear hKK KK
          iterate 3 (refine mix_free ?_ rfl (by kernel_rfl) (fun w' hS => ?_) ?_; (rotate_left; (go_simp; with_reducible rfl); rotate_left))
          simp only [Act.put, List.setIfInBounds_toArray]
          refine mix_end (NoPanic.normal ?_)
          have hs6 := HB6.out.size
          clear o7 b7 b6 j5 j7

          go_wp2_with fail
          refine (HBT.out W6 HB6.out).mono ?_
          rintro e w7 ⟨b7, hd⟩
          have HB7 := hid (HB6.out.trans (b7.mono hs6))
          have hs7 := HB7.out.size
          clear b7
          rcases hd with ⟨_, rfl⟩ | ⟨hbo, T2, P2, F2, L2, rfl, tw⟩
          · go_wp2_with fail
            refine (live_any _).mono ?_
            rintro e w8 ⟨rfl, b8⟩
            have HB8 := hid (HB7.out.trans (b8.mono hs7))
            clear b8
            go_wp2
            go_ret
            exact ⟨rfl, HB8.out⟩
          · have HTW := hid tw
            obtain ⟨r2, hr2⟩ : ∃ r2, r2 = r.toNat := ⟨_, rfl⟩
            rw [← hr2] at HTW
            have HBY := hid (bytes_any W6.heap.size T2 r2 F2 w7 HTW.out.t HTW.out.lt)
            rw [HTW.out.f, HTW.out.nrm] at HBY
            have HNR := hid (nr_of_rgs HTW.out.lt HTW.out.ris HTW.out.nrm)
            have HRE := hid (rl_enb r2 L2 HTW.out.ris HNR.out)
            have H8E := hid (enb_256 r2 L2 HTW.out.lt HTW.out.ris)
            have HDS := hid (rl_some (enb r2 L2) H8E.out L2 HRE.out)
            have HEL := hid (show (enb r2 L2).length ≤ 8000000 by
              have h5 := ris_len L2 0 (by omega) HTW.out.ris
              have h6 := enL_len L2 0 HTW.out.ris
              have h7 := vn3 L2.length (by omega)
              unfold enb
              rw [List.length_cons, List.length_append]; omega)
            have HR2 := hid (show ldr (enb r2 L2) = r2 from rfl)
            obtain ⟨eb, heb⟩ : ∃ eb, eb = enb r2 L2 := ⟨_, rfl⟩
            obtain ⟨k8, hk8⟩ : ∃ k8, k8 = eb.length := ⟨_, rfl⟩
            rw [← heb] at HBY HRE H8E HDS HEL HR2
            rw [← hk8] at HBY HEL
            have HKE := hid hk8.symm
            have HEB := hid heb
            clear tw hbo hr2 hk8 heb
            go_wp2_with fail
            refine HBY.out.mono ?_
            rintro e w8 ⟨v8, rfl, o8, b8⟩
            obtain ⟨vo8, vc8, rfl⟩ := own_form o8
            obtain ⟨hn8, hc8⟩ := own_nilcap o8
            have HB8 := hid (HB7.out.trans (b8.mono hs7))
            have hs8 := HB8.out.size
            have HTW8 := hid (HTW.out.below b8)
            have HRU := hid (rdu_own o8)
            have HBD8 := hid (show Below w8.heap.size w8 w8.drew from ⟨rfl, rfl, rfl, Nat.le_refl _, fun _ _ => rfl⟩)
            have HC8 := hid (show ∀ W, Below w8.heap.size w8 W → (convert 58 9 (.slice vo8 k8 vc8)).run Try.prog W = .ok (.string ⟨(by8 eb).toArray⟩) W from fun W hW => conv_u8 vc8 k8 HKE.out (HRU.out.below hW) H8E.out hn8)
            have j8 := HC8.out w8.drew HBD8.out
            have HRY := hid (rbytes_any W6.heap.size P2 L2 r2 w8.drew (HTW8.out.p.below HBD8.out) HTW8.out.lt HTW8.out.ris)
            rw [← HEB.out, HKE.out] at HRY
            clear o8 b8 HBY
            go_wp2_with fail
            refine wp_region_mix [(0, true), (1, true), (2, true), (3, false), (4, false), (5, true)] (fun w' => (convert 58 9 (.slice vo8 k8 vc8)).run Try.prog w' = .ok (.string ⟨(by8 eb).toArray⟩) w') (fun _ => false) (by kernel_rfl) (by kernel_rfl) (fun j hj => by cases hj) rfl (by kernel_rfl) j8 ?_
            iterate 3 (refine mix_free ?_ rfl (by kernel_rfl) (fun w' hS => ?_) ?_; (rotate_left; (go_simp; with_reducible rfl); rotate_left))
            simp only [Act.put, List.setIfInBounds_toArray]
            refine mix_go rfl (by kernel_rfl) fun KK hKK => ?_
            go_simp
            refine HRY.out.mono ?_
            rintro e w9 ⟨v9, rfl, o9, b9⟩
            have HB89 := hid (HBD8.out.trans b9)
            have HS9 := hid (HC8.out w9 HB89.out)
            obtain ⟨vo9, vc9, rfl⟩ := own_form o9
            obtain ⟨hn9, hc9⟩ := own_nilcap o9
            have j9 : (convert 58 9 (.slice vo9 k8 vc9)).run Try.prog w9 = .ok (.string ⟨(by8 eb).toArray⟩) w9 := conv_u8 vc9 k8 HKE.out (rdu_own o9) H8E.out hn9
            refine hKK _ _ (fun _ => HS9.out) ?_
            clear hKK KK
            refine mix_go rfl (by kernel_rfl) fun KK hKK => ?_
            go_simp
            refine hKK _ _ (fun _ => HS9.out) ?_
            clear hKK KK
            iterate 1 (refine mix_free ?_ rfl (by kernel_rfl) (fun w' hS => ?_) ?_; (rotate_left; (go_simp; with_reducible rfl); rotate_left))
            simp only [Act.put, List.setIfInBounds_toArray]
            refine mix_end (NoPanic.normal ?_)
            have HB9 := hid (HB8.out.trans (HB89.out.mono hs8))
            have hs9 := HB9.out.size
            have HL9 := hid (load_any vo8 vc8 eb w9 (HRU.out.below HB89.out) H8E.out (by rw [HKE.out]; exact hc8) (by rw [HKE.out]; have h5 := HEL.out; omega) hn8)
            rw [HKE.out] at HL9
            have HT9 := hid (HTW8.out.t.below HB89.out)
            have HF2 := hid HTW8.out.f
            clear o9 b9 HRY j8 j9
            go_wp2_with fail
            refine HL9.out.mono ?_
            rintro e wa ⟨ba, hc⟩
            have HBa := hid (HB9.out.trans (ba.mono hs9))
            have hsa := HBa.out.size
            have HTa := hid (HT9.out.below ba)
            clear ba HL9
            rcases hc with ⟨hna', _⟩ | ⟨T3, F3, L3, hL3, rfl, hT3, hF3, hR3, hTb3⟩
            · rw [HDS.out.1] at hna'
              cases hna'
            · rw [HDS.out.1] at hL3
              cases hL3
              rw [HR2.out] at hF3 hTb3
              have hFF : F3 = F2 := by
                obtain ⟨_, _, _, _, q1, _, _⟩ := hTb3
                obtain ⟨_, _, _, _, q2, _, _⟩ := HTa.out
                exact flat_one q1 q2 (hF3.trans HF2.out.symm)
              have HEQ := hid (equal_any _ _ T3 T2 r2 r2 F3 F2 wa hTb3 HTa.out)
              rw [show (decide (r2 = r2 ∧ F3 = F2)) = true by simp [hFF]] at HEQ
              clear hF3 hR3 hTb3 hFF hT3
              go_wp2_with (first | (go_at_call 9; refine (num_any _ _).mono ?_; rintro e w9 ⟨rfl, h9⟩; obtain rfl := h9.symm) | fail)
              refine HEQ.out.mono ?_
              rintro e wb ⟨rfl, bb⟩
              have HBb := hid (HBa.out.trans (bb.mono hsa))
              have hsb := HBb.out.size
              clear bb
              go_wp2_with fail
              refine (live_any _).mono ?_
              rintro e wc ⟨rfl, bc'⟩
              have HBc := hid (HBb.out.trans (bc'.mono hsb))
              clear bc'
              go_wp2
              go_ret
              exact ⟨rfl, HBc.out⟩
end Go.Proofs.Ytljlhlcoaajggaa
/- The contract of Blocks (package kerfref03). -/
namespace Go.Proofs.Ytljlhlcoaajggaa
open Go.RowKit

theorem by8_inj : ∀ (a b : List Nat), (∀ c ∈ a, c < 256) → (∀ c ∈ b, c < 256) → by8 a = by8 b → a = b
  | [], [], _, _, _ => rfl
  | [], _ :: _, _, _, h => by simp [by8] at h
  | _ :: _, [], _, _, h => by simp [by8] at h
  | x :: a, y :: b, ha, hb, h => by
    have h5 : UInt8.ofNat x = UInt8.ofNat y ∧ by8 a = by8 b := by simpa [by8] using h
    have hx := ha x (by simp)
    have hy := hb y (by simp)
    have h6 := congrArg UInt8.toNat h5.1
    simp at h6
    have h7 : x = y := by omega
    rw [h7, by8_inj a b (fun c hc => ha c (by simp [hc])) (fun c hc => hb c (by simp [hc])) h5.2]
/-- A block's runs as a text. -/
def sgS (X : List Nat) : ByteArray := ⟨(by8 (rb 0 X)).toArray⟩
theorem sgS_inj (X Y : List Nat) (hX : X.length = 128 ∧ ∀ c ∈ X, c < 256) (hY : Y.length = 128 ∧ ∀ c ∈ Y, c < 256) (e : sgS X = sgS Y) : X = Y := by
  have e1 : (by8 (rb 0 X)).toArray = (by8 (rb 0 Y)).toArray := congrArg ByteArray.data e
  have e2 : by8 (rb 0 X) = by8 (rb 0 Y) := by simpa using e1
  exact rb_inj X Y 0 (hX.1.trans hY.1.symm) (by8_inj _ _ (rb_256 X 0 hX.2 (by rw [hX.1]; omega)) (rb_256 Y 0 hY.2 (by rw [hY.1]; omega)) e2)
theorem sgS_beq (Y X : List Nat) (hY : Y.length = 128 ∧ ∀ c ∈ Y, c < 256) (hX : X.length = 128 ∧ ∀ c ∈ X, c < 256) : ((sgS Y).toList == (sgS X).toList) = decide (Y = X) := by
  rw [ByteArray.toList_eq, ByteArray.toList_eq]
  by_cases h : Y = X
  · subst h; simp
  · rw [decide_eq_false h, beq_eq_false_iff_ne]
    exact fun e => h (sgS_inj Y X hY hX (ByteArray.ext (by simpa using e)))
theorem con_first (A : List Tr) (hC : Con 0 A) : ∃ h : 0 < A.length, A[0].1 = 0 := by
  cases A with
  | nil => have h5 : (0 : Nat) = 1114112 := hC; omega
  | cons g R => exact ⟨by simp, hC.1⟩
def sgv (U : List (List Nat)) : List Value := U.map fun X => .string (sgS X)
theorem sgv_snoc (U : List (List Nat)) (X : List Nat) : sgv (U ++ [X]) = sgv U ++ [.string (sgS X)] := by simp [sgv]
theorem Try.info9' : (Try.prog.info? 9).map (fun i => (i.zero, i.size, i.bytes)) = some (some (.string ⟨#[]⟩), 1, 16) := by kernel_rfl

set_option maxHeartbeats 8000000 in
set_option maxRecDepth 100000 in
theorem rblocks_any (B' P r : Nat) (L : List Tr) (F : List (List Nat)) (w : World) (h : RtAt B' P L r w) (hr : r < 256) (hR : Ris 0 L) (hN : Nr r none 0 L) (hL : L.length ≤ 1000000) (h128 : ok128 F) (h256 : ∀ X ∈ F, ∀ c ∈ X, c < 256) (hfl : F.flatten = clA r L) (hF : F.length = 8704) :
    Calls Try.prog 16 #[.pointer (some ⟨P, 0, none⟩)] w fun e w' => e = .returned (.int .i64 ((uq F).length : Int)) ∧ Below w.heap.size w w' := by
  obtain ⟨j0, hj9, hy0, hy1, hy2⟩ := info_parts Try.info9'
  obtain ⟨i0, hi5, hz0, hz1, hz2⟩ := info_parts Try.info5
  have HAL := hid (rall_any B' P L r w h hL hR)
  have hC := con_alB r hr L 0 hR (by omega)
  have HSG := hid (sig_is r hr L hR hN F h128 hfl hF)
  have hal := alA_len r L
  have hA : alA r L = alB r 0 L := rfl
  rw [← hA] at hC
  obtain ⟨A, hAE⟩ : ∃ A, A = alA r L := ⟨_, rfl⟩
  simp only [← hAE] at HAL hC hal
  have HSI := hid (show ∀ (i j : Nat) (hi : i < A.length) (X : List Nat), F[j]? = some X → A[i].1 ≤ 128 * j → 128 * j ≤ A[i].2.1 → sgF (128 * j) (A.drop i) = rb 0 X from by
    subst hAE
    intro i j hi X hX h1 h2
    obtain ⟨hj, rfl⟩ := List.getElem?_eq_some_iff.1 hX
    exact HSG.out i j hi (by omega) h1 h2)
  obtain ⟨hA0, hA1⟩ := con_first A hC
  have HST := hid hA1
  have HC := hid hC
  have HFL := hid hF
  have HOK := hid (show ∀ X ∈ F, X.length = 128 ∧ ∀ c ∈ X, c < 256 from fun X hX => ⟨h128 X hX, h256 X hX⟩)
  obtain ⟨nA, hnA⟩ : ∃ nA, nA = A.length := ⟨_, rfl⟩
  have HNA := hid hnA
  have hnA9 : nA ≤ 2000001 := by omega
  have hnA0 : 0 < nA := by omega
  rw [← hnA] at HAL
  obtain ⟨N, hNE⟩ : ∃ N, N = w.heap.size := ⟨_, rfl⟩
  rw [← hNE] at HAL ⊢
  have HNE := hid hNE
  clear h hR hN hL h128 h256 hfl hF hC hal hA hAE HSG hA1 hnA hNE
  go_enter Try.func16, Try.ntmps16
  go_wp2_with fail
  refine HAL.out.mono ?_
  rintro e w1 ⟨v1, rfl, o1, b1⟩
  obtain ⟨vo, vc, rfl⟩ := own_form o1
  have HRK := hid (show RdK w1 vo (A.map rkT) by have h5 := o1; rw [HNA.out] at h5; exact rd_own h5)
  have HB1 := hid b1
  have hs1 : N ≤ w1.heap.size := by have h5 := HNE.out; have h6 := b1.size; omega
  obtain ⟨N1, hN1⟩ : ∃ N1, N1 = w1.heap.size := ⟨_, rfl⟩
  rw [← hN1] at hs1
  have HN1 := hid hN1
  obtain ⟨a, rfl, ha, hx0⟩ := HRK.out 0 (rkT A[0]) (by rw [List.getElem?_map, List.getElem?_eq_getElem hA0]; rfl)
  have HCA := hid (show ∀ W, Below N1 w1 W → ∀ (i : Nat) (g : Tr), A[i]? = some g → W.cell? (a.add (i * 3)) = some (.int .i32 (g.1 : Int)) ∧ W.cell? ⟨(a.add (i * 3)).block, (a.add (i * 3)).off + 1, none⟩ = some (.int .i32 (g.2.1 : Int)) ∧ W.cell? ⟨(a.add (i * 3)).block, (a.add (i * 3)).off + 2, none⟩ = some (.int .i64 (g.2.2 : Int)) from fun W hW i g hg => by
    obtain ⟨a', ea, _, x0, x1, x2⟩ := (HRK.out.below (show Below w1.heap.size w1 W by rw [← hN1]; exact hW)) i (rkT g) (by rw [List.getElem?_map, hg]; rfl)
    cases ea
    exact ⟨x0, x1, x2⟩)
  clear hx0
  have HB11 := hid (show Below N1 w1 w1 by rw [hN1]; exact Below.refl _ _)
  clear o1 b1 hN1 HAL HRK
  go_wp2
  go_loopw [4, 5, 6] (fun x y z wr => ∃ (j at' : Nat) (so : Option Addr) (sl sc : Nat), x = .slice so sl sc ∧ y = .int .i64 (at' : Int) ∧ z = .int .i32 ((128 * j : Nat) : Int) ∧ j ≤ 8704 ∧ at' < nA ∧ sl ≤ j ∧ Hid (∀ h : at' < A.length, A[at'].1 ≤ 128 * j) ∧ Hid (sl = (uq (F.take j)).length) ∧ Hid (wr.ownsRow N1 9 1 (.slice so sl sc) sl (sgv (uq (F.take j)))) ∧ Hid (Below N1 w1 wr)) (fun _ _ z _ => 1114112 - (intOf z).toNat)
  case atStart => exact ⟨0, 0, none, 0, 0, rfl, rfl, rfl, by omega, by omega, by omega, fun h => (by rw [HST.out]; exact Nat.zero_le _), rfl, World.ownsRow_nil w1 N1 9 1, HB11⟩
  case round =>
    obtain ⟨j, at', so, sl, sc, rfl, rfl, rfl, hj, hat, hsl, HLE, HSL, HSO, HB⟩ := hrel
    obtain ⟨lo, hlo⟩ : ∃ lo, lo = 128 * j := ⟨_, rfl⟩
    rw [← hlo] at HLE ⊢
    have HLO := hid hlo
    by_cases hlt : j < 8704
    · have l1 : (lo : Int) ≤ 1114111 := by omega
      have l2 : lo + 127 ≤ 1114111 := by omega
      obtain ⟨hi', hhi⟩ : ∃ hi', hi' = lo + 127 := ⟨_, rfl⟩
      have l3 : IntKind.i32.wrap ((lo : Int) + 128) = (lo : Int) + 128 := by rw [IntKind.wrap_i32]; omega
      have l4 : IntKind.i32.wrap ((lo : Int) + 128 - 1) = (hi' : Int) := by rw [IntKind.wrap_i32]; omega
      have l5 : (lo : Int) + 128 - 1 = (hi' : Int) := by omega
      have HHI := hid hhi
      clear hlo hhi
      obtain ⟨W, rfl⟩ : ∃ W, W = wr := ⟨_, rfl⟩
      obtain ⟨N2, hN2⟩ : ∃ N2, N2 = W.heap.size := ⟨_, rfl⟩
      have HN2 := hid hN2
      have hs2 : N1 ≤ N2 := by have h5 := HN1.out; have h6 := HB.out.size; omega
      have hjF : j < F.length := by have h5 := HFL.out; omega
      have HFJ := hid (List.getElem?_eq_getElem hjF)
      have HTK := hid (List.take_succ_eq_append_getElem hjF)
      obtain ⟨hX1, hX8⟩ := HOK.out F[j] (List.getElem_mem hjF)
      have HUM := hid (show ∀ Y ∈ uq (F.take j), Y.length = 128 ∧ ∀ c ∈ Y, c < 256 from fun Y hY => HOK.out Y (by
        have h5 := (mem_uqF (F.take j) [] Y).1 hY
        rcases h5 with h5 | h5
        · cases h5
        · exact List.mem_of_mem_take h5))
      obtain ⟨X, hX⟩ : ∃ X, X = F[j] := ⟨_, rfl⟩
      rw [← hX] at HFJ HTK hX1 hX8
      have HX1 := hid hX1
      have HX8 := hid hX8
      have HB22 := hid (show Below N2 W W by rw [hN2]; exact Below.refl _ _)
      clear hX hX1 hX8 hjF hN2
      go_wp2
      go_loopw [5] (fun x wr => ∃ a2 : Nat, x = .int .i64 (a2 : Int) ∧ a2 < nA ∧ Hid (∀ h : a2 < A.length, A[a2].1 ≤ lo) ∧ Hid (wr = W)) (fun x _ => nA - (intOf x).toNat)
      case atStart => exact ⟨at', rfl, hat, HLE, rfl⟩
      case round =>
        obtain ⟨a2, rfl, ha2, HLE2, HWW⟩ := hrel
        obtain rfl := HWW.out.symm
        have hA2 : a2 < A.length := by have h5 := HNA.out; omega
        obtain ⟨c0, c1, c2⟩ := HCA.out W HB.out a2 A[a2] (List.getElem?_eq_getElem hA2)
        have HCT := hid (con_at A 0 a2 hA2 HC.out)
        have HLA := hid (HLE2.out hA2)
        have HUP := hid (fun (k : Nat) (hk : k < A.length) (h : a2 ≤ k) => con_up A 0 a2 k hA2 hk HC.out h)
        have HSJ := hid (fun h2 => HSI.out a2 j hA2 X HFJ.out (by rw [← HLO.out]; exact HLE2.out hA2) h2)
        rw [← HLO.out] at HSJ
        obtain ⟨g1, hg1⟩ : ∃ g1, g1 = A[a2].2.1 := ⟨_, rfl⟩
        rw [← hg1] at c1 HCT HUP HSJ
        have i3 : (a2 : Int) < (nA : Int) := by omega
        have i0' : (0 : Int) ≤ (a2 : Int) := by omega
        clear hg1 c0 c2
        by_cases hskip : g1 < lo
        · have hskip' : (g1 : Int) < (lo : Int) := by omega
          obtain ⟨k1, k2⟩ := HCT.out.2.2 (by omega)
          have hk1 : a2 + 1 < nA := by have h5 := HNA.out; omega
          have HLE3 := hid (show ∀ h : a2 + 1 < A.length, A[a2 + 1].1 ≤ lo from fun h => by rw [k2]; omega)
          clear k2
          go_wp2
          go_roundw
          case rel => exact ⟨a2 + 1, by go_num, hk1, HLE3, by first | exact (trivial : True) | rfl⟩
          case measure => simp [intOf]; omega
        · have hskip' : ¬ (g1 : Int) < (lo : Int) := by omega
          have HSS := hid (HSJ.out (by omega))
          have HGE := hid (show ∀ (k : Nat) (hk : k < A.length), a2 ≤ k → lo ≤ A[k].2.1 from fun k hk h => by have h5 := HUP.out k hk h; omega)
          go_wp2
          clear c1
          go_loopw [8, 9] (fun x y wr => ∃ (k : Nat) (U : List Nat) (bo' : Option Addr) (bl' bc : Nat), x = .slice bo' bl' bc ∧ y = .int .i64 (k : Int) ∧ a2 ≤ k ∧ k ≤ nA ∧ bl' ≤ 2 * k ∧ Hid (bl' = U.length) ∧ Hid (U ++ sgF lo (A.drop k) = rb 0 X) ∧ Hid (wr.ownsRow N2 5 1 (.slice bo' bl' bc) bl' (u8n U)) ∧ Hid (Below N2 W wr)) (fun _ y _ => nA - (intOf y).toNat)
          case atStart => exact ⟨a2, [], none, 0, 0, rfl, rfl, by omega, by omega, by omega, rfl, HSS, World.ownsRow_nil W N2 5 1, HB22⟩
          case round =>
            obtain ⟨k, U, bo', bl', bc, rfl, rfl, hka, hkn, hbl, HBL, HUS, HOK2, HBK⟩ := hrel
            by_cases hkl : k < nA
            · have hkA : k < A.length := by have h5 := HNA.out; omega
              have HBW := hid (HB.out.trans (HBK.out.mono hs2))
              obtain ⟨c0, c1, c2⟩ := HCA.out wr HBW.out k A[k] (List.getElem?_eq_getElem hkA)
              have HGK := hid (con_ge A 0 HC.out A[k] (List.getElem_mem hkA))
              have HGL := hid (HGE.out k hkA hka)
              have HDR := hid (List.drop_eq_getElem_cons hkA)
              obtain ⟨g, hg⟩ : ∃ g, g = A[k] := ⟨_, rfl⟩
              rw [← hg] at c0 c1 c2 HGK HGL HDR
              obtain ⟨gl, gh, gc⟩ := g
              dsimp only at c0 c1 c2 HGK HGL
              obtain ⟨_, q2, q3, q4⟩ := HGK.out
              have q5 := HGL.out
              have i4 : (k : Int) < (nA : Int) := by omega
              have i5 : (0 : Int) ≤ (k : Int) := by omega
              clear hg hkA
              by_cases hle : gl ≤ hi'
              · have hle' : (gl : Int) ≤ (hi' : Int) := by omega
                have hwr : N2 ≤ wr.heap.size := by have h5 := HN2.out; have h6 := HBK.out.size; omega
                obtain ⟨d, hd⟩ : ∃ d, d = min gh hi' - lo := ⟨_, rfl⟩
                have HSN := hid (show sgF lo (A.drop k) = d :: gc :: sgF lo (A.drop (k + 1)) by
                  rw [HDR.out]
                  show (if gl ≤ lo + 127 then _ else _) = _
                  rw [if_pos (by have h5 := HHI.out; omega), hd, HHI.out])
                have HUN := hid (show (U ++ [d, gc]) ++ sgF lo (A.drop (k + 1)) = rb 0 X by rw [← HUS.out, HSN.out]; simp)
                have w2' : IntKind.u8.wrap (d : Int) = (d : Int) := by rw [IntKind.wrap_u8]; have h5 := HHI.out; omega
                have w3' : IntKind.u8.wrap (gc : Int) = (gc : Int) := by rw [IntKind.wrap_u8]; omega
                by_cases hbig : hi' < gh
                · have hbig' : (hi' : Int) < (gh : Int) := by omega
                  have w1' : IntKind.i32.wrap ((hi' : Int) - (lo : Int)) = (d : Int) := by rw [IntKind.wrap_i32]; have h5 := HHI.out; omega
                  clear hd
                  go_wp2_with (at_builtin; refine wpList_append_own _ rfl _ _ 58 rfl N2 5 i0 (.int .u8 0) 1 1 Try.underlying58 hi5 hz0 hz1 hz2 rfl (by decide) _ _ _ rfl (HOK2.out.alloc _) ⟨wr.heap.size, 0, none⟩ 2 2 [.int .u8 (d : Int), .int .u8 (gc : Int)] rfl rfl (news_one wr #[.int .u8 (d : Int), .int .u8 (gc : Int)] 5) (by intro u hu; simp at hu; rcases hu with rfl | rfl <;> rfl) (by unfold maxLen; omega) (by omega) (by simp; omega) ?_)
                  intro v3 w3 o3 gr3 _
                  have HB3 := hid ((HBK.out.alloc hwr (.cells #[.int .u8 (d : Int), .int .u8 (gc : Int)] 5)).grown gr3 (by simp; omega) (fun k hk => (HOK2.out.lt k hk).1))
                  obtain ⟨bo3, bc3, rfl⟩ := own_form o3
                  have HO3 := hid (show w3.ownsRow N2 5 1 (.slice bo3 (bl' + 2) bc3) (bl' + 2) (u8n (U ++ [d, gc])) by rw [u8n_app]; exact o3)
                  have HL3 := hid (show bl' + 2 = (U ++ [d, gc]).length by rw [List.length_append, ← HBL.out]; rfl)
                  clear o3 gr3
                  go_wp2
                  go_roundw
                  case rel => exact ⟨k + 1, U ++ [d, gc], bo3, bl' + 2, bc3, rfl, by go_num, by omega, by omega, by omega, HL3, HUN, HO3, HB3⟩
                  case measure => simp [intOf]; omega
                · have hbig' : ¬ (hi' : Int) < (gh : Int) := by omega
                  have w1' : IntKind.i32.wrap ((gh : Int) - (lo : Int)) = (d : Int) := by rw [IntKind.wrap_i32]; have h5 := HHI.out; omega
                  clear hd
                  go_wp2_with (at_builtin; refine wpList_append_own _ rfl _ _ 58 rfl N2 5 i0 (.int .u8 0) 1 1 Try.underlying58 hi5 hz0 hz1 hz2 rfl (by decide) _ _ _ rfl (HOK2.out.alloc _) ⟨wr.heap.size, 0, none⟩ 2 2 [.int .u8 (d : Int), .int .u8 (gc : Int)] rfl rfl (news_one wr #[.int .u8 (d : Int), .int .u8 (gc : Int)] 5) (by intro u hu; simp at hu; rcases hu with rfl | rfl <;> rfl) (by unfold maxLen; omega) (by omega) (by simp; omega) ?_)
                  intro v3 w3 o3 gr3 _
                  have HB3 := hid ((HBK.out.alloc hwr (.cells #[.int .u8 (d : Int), .int .u8 (gc : Int)] 5)).grown gr3 (by simp; omega) (fun k hk => (HOK2.out.lt k hk).1))
                  obtain ⟨bo3, bc3, rfl⟩ := own_form o3
                  have HO3 := hid (show w3.ownsRow N2 5 1 (.slice bo3 (bl' + 2) bc3) (bl' + 2) (u8n (U ++ [d, gc])) by rw [u8n_app]; exact o3)
                  have HL3 := hid (show bl' + 2 = (U ++ [d, gc]).length by rw [List.length_append, ← HBL.out]; rfl)
                  clear o3 gr3
                  go_wp2
                  go_roundw
                  case rel => exact ⟨k + 1, U ++ [d, gc], bo3, bl' + 2, bc3, rfl, by go_num, by omega, by omega, by omega, HL3, HUN, HO3, HB3⟩
                  case measure => simp [intOf]; omega
              · have hle' : ¬ (gl : Int) ≤ (hi' : Int) := by omega
                have HUE := hid (show U = rb 0 X by
                  have h5 := HUS.out
                  rw [HDR.out] at h5
                  have h6 : sgF lo ((gl, gh, gc) :: A.drop (k + 1)) = [] := by
                    show (if gl ≤ lo + 127 then _ else _) = _
                    rw [if_neg (by have h7 := HHI.out; omega)]
                  rw [h6, List.append_nil] at h5
                  exact h5)
                clear HUS
                have HUS := HUE
                go_wp2_with fail

                obtain ⟨V, rfl⟩ : ∃ V, V = wr := ⟨_, rfl⟩
                have HBV := hid (HB.out.trans (HBK.out.mono hs2))
                have hsV : N2 ≤ V.heap.size := by have h5 := HN2.out; have h6 := HBK.out.size; omega
                have HSV := hid (own_keep HSO.out (show Below W.heap.size W V by rw [← HN2.out]; exact HBK.out))
                have HUV := hid (show U = rb 0 X from HUS.out)
                have HRU := hid (rdu_own HOK2.out)
                have HCV := hid (show ∀ W', Below V.heap.size V W' → (convert 58 9 (.slice bo' bl' bc)).run Try.prog W' = .ok (.string (sgS X)) W' from fun W' hW' => by
                  have h5 := conv_u8 bc bl' HBL.out.symm (HRU.out.below hW') (by rw [HUV.out]; exact rb_256 X 0 HX8.out (by rw [HX1.out]; omega)) (own_nilcap HOK2.out).1
                  rw [HUV.out] at h5
                  exact h5)
                have HSC := hid (show ∀ W', Below V.heap.size V W' → ∀ (i : Nat) (Y : List Nat), (uq (F.take j))[i]? = some Y → ∃ g, so = some ⟨g, 0, none⟩ ∧ W'.cell? ⟨g, i, none⟩ = some (.string (sgS Y)) from fun W' hW' i Y hY => by
                  have hil := (List.getElem?_eq_some_iff.1 hY).1
                  have hsl2 := HSL.out
                  obtain ⟨g, cap', hve, _, hgw⟩ := HSV.out.form (by omega)
                  injection hve with e1 e2 e3
                  refine ⟨g, e1, ?_⟩
                  have h5 := HSV.out
                  rw [e1] at h5
                  refine (hW'.cell (p := ⟨g, i, none⟩) hgw).trans ?_
                  rw [h5.cellAt i (by omega)]
                  unfold sgv
                  rw [List.getElem?_map, hY]; rfl)
                have HBVV := hid (Below.refl V.heap.size V)
                have s1 : IntKind.i64.wrap ((sl : Int) - 1) = (sl : Int) - 1 := by rw [IntKind.wrap_i64]; omega
                clear HBK HOK2 HRU HUS
                go_wp2
                go_loopw [11, 12] (fun x y wr => ∃ (d : Bool) (k : Int), x = .bool d ∧ y = .int .i64 k ∧ -1 ≤ k ∧ k < (sl : Int) ∧ Hid (d = true → X ∈ uq (F.take j)) ∧ Hid (d = false → ∀ i : Nat, k < (i : Int) → (uq (F.take j))[i]? ≠ some X) ∧ Hid (Below V.heap.size V wr)) (fun _ y _ => (intOf y + 1).toNat)
                case atStart => exact ⟨false, (sl : Int) - 1, rfl, by first | rfl | (congr 1; omega), by omega, by omega, fun h => (by cases h), fun _ i hi => by rw [List.getElem?_eq_none (by have h5 := HSL.out; omega)]; simp, HBVV⟩
                case round =>
                  obtain ⟨d, k, rfl, rfl, hk1, hk2, HDT, HDF, HBR⟩ := hrel
                  cases d with
                  | true =>
                    have HIN := hid (HDT.out rfl)
                    by_cases hk0 : 0 ≤ k
                    · have hk0q : (0 : Int) ≤ k := hk0
                      have hwr3 : N1 ≤ wr.heap.size := by have h6 := HBR.out.size; omega
                      have HSR := hid (own_keep HSV.out HBR.out)
                      have HBW3 := hid (HBV.out.trans (HBR.out.mono (Nat.le_trans hs2 hsV)))
                      have HUQ := hid (show uq (F.take (j + 1)) = uq (F.take j) by rw [HTK.out, uq_snoc, if_pos HIN.out])
                      have HO5 := hid (show wr.ownsRow N1 9 1 (.slice so sl sc) sl (sgv (uq (F.take (j + 1)))) by rw [HUQ.out]; exact HSR.out)
                      have HL5 := hid (show sl = (uq (F.take (j + 1))).length by rw [HUQ.out]; exact HSL.out)
                      have HLE5 := hid (show ∀ h : a2 < A.length, A[a2].1 ≤ 128 * (j + 1) from fun h => by have h5 := HLE2.out h; have h6 := HLO.out; omega)
                      have HL6 := hid (show ((lo + 128 : Nat) : Int) = ((128 * (j + 1) : Nat) : Int) by have h6 := HLO.out; omega)
                      go_wp2
                      go_roundw
                      case rel => exact ⟨j + 1, a2, so, sl, sc, rfl, rfl, by rw [← HL6.out]; first | rfl | (congr 1), by omega, ha2, by omega, HLE5, HL5, HO5, HBW3⟩
                      case measure => simp [intOf]; omega
                    · have hk0' : ¬ (0 : Int) ≤ k := hk0
                      have hwr3 : N1 ≤ wr.heap.size := by have h6 := HBR.out.size; omega
                      have HSR := hid (own_keep HSV.out HBR.out)
                      have HBW3 := hid (HBV.out.trans (HBR.out.mono (Nat.le_trans hs2 hsV)))
                      have HUQ := hid (show uq (F.take (j + 1)) = uq (F.take j) by rw [HTK.out, uq_snoc, if_pos HIN.out])
                      have HO5 := hid (show wr.ownsRow N1 9 1 (.slice so sl sc) sl (sgv (uq (F.take (j + 1)))) by rw [HUQ.out]; exact HSR.out)
                      have HL5 := hid (show sl = (uq (F.take (j + 1))).length by rw [HUQ.out]; exact HSL.out)
                      have HLE5 := hid (show ∀ h : a2 < A.length, A[a2].1 ≤ 128 * (j + 1) from fun h => by have h5 := HLE2.out h; have h6 := HLO.out; omega)
                      have HL6 := hid (show ((lo + 128 : Nat) : Int) = ((128 * (j + 1) : Nat) : Int) by have h6 := HLO.out; omega)
                      go_wp2
                      go_roundw
                      case rel => exact ⟨j + 1, a2, so, sl, sc, rfl, rfl, by rw [← HL6.out]; first | rfl | (congr 1), by omega, ha2, by omega, HLE5, HL5, HO5, HBW3⟩
                      case measure => simp [intOf]; omega
                  | false =>
                    by_cases hk0 : 0 ≤ k
                    · obtain ⟨i, rfl⟩ : ∃ i : Nat, k = (i : Int) := ⟨k.toNat, by omega⟩
                      have hil : i < (uq (F.take j)).length := by have h5 := HSL.out; omega
                      obtain ⟨g, rfl, cg⟩ := HSC.out wr HBR.out i (uq (F.take j))[i] (List.getElem?_eq_getElem hil)
                      have HMI := hid (List.getElem_mem hil)
                      have HGI := hid (List.getElem?_eq_getElem hil)
                      obtain ⟨Y, hY⟩ : ∃ Y, Y = (uq (F.take j))[i] := ⟨_, rfl⟩
                      rw [← hY] at cg HMI HGI
                      have cv := HCV.out wr HBR.out
                      obtain ⟨dd, hdd⟩ : ∃ dd, dd = decide (Y = X) := ⟨_, rfl⟩
                      have eqd : ((sgS Y).toList == (sgS X).toList) = dd := by rw [hdd]; exact sgS_beq Y X (HUM.out Y HMI.out) ⟨HX1.out, HX8.out⟩
                      have HDD := hid hdd
                      clear hdd
                      have hi1 : (i : Int) < (sl : Int) := hk2
                      have s2 : IntKind.i64.wrap ((i : Int) - 1) = (i : Int) - 1 := by rw [IntKind.wrap_i64]; omega
                      clear hY hil
                      go_wp2_with fail
                      refine wp_region_mix [(0, true), (1, true), (2, true), (3, true), (4, true), (5, true), (6, true), (7, true)] (fun w' => w'.cell? ⟨g, i, none⟩ = some (.string (sgS Y)) ∧ (convert 58 9 (.slice bo' bl' bc)).run Try.prog w' = .ok (.string (sgS X)) w') (fun _ => false) (by kernel_rfl) (by kernel_rfl) (fun j hj => by cases hj) rfl (by kernel_rfl) ⟨cg, HCV.out wr.drew (HBR.out.trans ⟨rfl, rfl, rfl, Nat.le_refl _, fun _ _ => rfl⟩)⟩ ?_
                      iterate 6 (refine mix_free ?_ rfl (by kernel_rfl) (fun w' hS => ?_) ?_; (rotate_left; (obtain ⟨s1, s2⟩ := hS; go_simp; with_reducible rfl); rotate_left))
                      simp only [Act.put, List.setIfInBounds_toArray]
                      refine mix_free (.bool dd) rfl (by kernel_rfl) (fun w' hS => ?_) ?_
                      · go_simp
                        first | done | rfl | rw [eqd]
                      refine mix_free (.bool dd) rfl (by kernel_rfl) (fun w' hS => ?_) ?_
                      · go_simp
                        first | done | rfl | rw [eqd]
                      refine mix_end (NoPanic.normal ?_)
                      have HDT2 := hid (show dd = true → X ∈ uq (F.take j) from fun h => by
                        have h5 : Y = X := of_decide_eq_true (HDD.out.symm.trans h)
                        rw [← h5]; exact HMI.out)
                      have HDF2 := hid (show dd = false → ∀ i' : Nat, (i : Int) - 1 < (i' : Int) → (uq (F.take j))[i']? ≠ some X from fun h i' hi' => by
                        rcases Nat.lt_or_ge i i' with h5 | h5
                        · exact HDF.out (by first | rfl | trivial) i' (by omega)
                        · have h6 : i' = i := by omega
                          rw [h6, HGI.out]
                          intro e
                          have h7 : ¬ Y = X := of_decide_eq_false (HDD.out.symm.trans h)
                          exact h7 (Option.some.inj e))
                      have HBR2 := hid (HBR.out.trans (show Below V.heap.size wr wr.drew from ⟨rfl, rfl, rfl, Nat.le_refl _, fun _ _ => rfl⟩))
                      clear HDT HDF cv cg
                      go_wp2
                      go_roundw
                      case rel => exact ⟨dd, (i : Int) - 1, rfl, rfl, by omega, by omega, HDT2, HDF2, HBR2⟩
                      case measure => first | (simp [intOf]; done) | (simp [intOf]; omega)
                    · have hk0' : ¬ (0 : Int) ≤ k := hk0
                      have HNI := hid (show ¬ X ∈ uq (F.take j) from fun hm => by
                        obtain ⟨i, hi⟩ := List.getElem?_of_mem hm
                        exact HDF.out rfl i (by omega) hi)
                      have cv := HCV.out wr HBR.out
                      have hwr3 : N1 ≤ wr.heap.size := by have h6 := HBR.out.size; omega
                      have HSR := hid (own_keep HSV.out HBR.out)
                      have HBW3 := hid (HBV.out.trans (HBR.out.mono (Nat.le_trans hs2 hsV)))
                      go_wp2_with (at_builtin; refine wpList_append_own _ rfl _ _ 80 rfl N1 9 j0 (.string ⟨#[]⟩) 1 16 Try.underlying80 hj9 hy0 hy1 hy2 rfl (by decide) _ _ _ rfl (HSR.out.alloc _) ⟨wr.heap.size, 0, none⟩ 1 1 [.string (sgS X)] rfl rfl (cell_one_new _ _ _) (by simp [Value.oneCell']) (by unfold maxLen; omega) (by omega) (by simp; omega) ?_)
                      intro v5 w5 o5 gr5 _
                      have HB5 := hid ((HBW3.out.alloc hwr3 (.cells #[.string (sgS X)] 9)).grown gr5 (by simp; omega) (fun k hk => (HSR.out.lt k hk).1))
                      obtain ⟨so5, sc5, rfl⟩ := own_form o5
                      have HUQ := hid (show uq (F.take (j + 1)) = uq (F.take j) ++ [X] by rw [HTK.out, uq_snoc, if_neg HNI.out])
                      have HO5 := hid (show w5.ownsRow N1 9 1 (.slice so5 (sl + 1) sc5) (sl + 1) (sgv (uq (F.take (j + 1)))) by rw [HUQ.out, sgv_snoc]; exact o5)
                      have HL5 := hid (show sl + 1 = (uq (F.take (j + 1))).length by rw [HUQ.out, List.length_append, ← HSL.out]; rfl)
                      have HLE5 := hid (show ∀ h : a2 < A.length, A[a2].1 ≤ 128 * (j + 1) from fun h => by have h5 := HLE2.out h; have h6 := HLO.out; omega)
                      have HL6 := hid (show ((lo + 128 : Nat) : Int) = ((128 * (j + 1) : Nat) : Int) by have h6 := HLO.out; omega)
                      clear o5 gr5 cv
                      go_wp2
                      go_roundw
                      case rel => exact ⟨j + 1, a2, so5, sl + 1, sc5, rfl, rfl, by rw [← HL6.out]; first | rfl | (congr 1), by omega, ha2, by omega, HLE5, HL5, HO5, HB5⟩
                      case measure => simp [intOf]; omega
            · have i4 : ¬ (k : Int) < (nA : Int) := by omega
              have HUE := hid (show U = rb 0 X by
                have h5 := HUS.out
                rw [List.drop_of_length_le (by have h6 := HNA.out; omega)] at h5
                have h6 : sgF lo ([] : List Tr) = [] := rfl
                rw [h6, List.append_nil] at h5
                exact h5)
              clear HUS
              have HUS := HUE
              go_wp2_with fail
              obtain ⟨V, rfl⟩ : ∃ V, V = wr := ⟨_, rfl⟩
              have HBV := hid (HB.out.trans (HBK.out.mono hs2))
              have hsV : N2 ≤ V.heap.size := by have h5 := HN2.out; have h6 := HBK.out.size; omega
              have HSV := hid (own_keep HSO.out (show Below W.heap.size W V by rw [← HN2.out]; exact HBK.out))
              have HUV := hid (show U = rb 0 X from HUS.out)
              have HRU := hid (rdu_own HOK2.out)
              have HCV := hid (show ∀ W', Below V.heap.size V W' → (convert 58 9 (.slice bo' bl' bc)).run Try.prog W' = .ok (.string (sgS X)) W' from fun W' hW' => by
                have h5 := conv_u8 bc bl' HBL.out.symm (HRU.out.below hW') (by rw [HUV.out]; exact rb_256 X 0 HX8.out (by rw [HX1.out]; omega)) (own_nilcap HOK2.out).1
                rw [HUV.out] at h5
                exact h5)
              have HSC := hid (show ∀ W', Below V.heap.size V W' → ∀ (i : Nat) (Y : List Nat), (uq (F.take j))[i]? = some Y → ∃ g, so = some ⟨g, 0, none⟩ ∧ W'.cell? ⟨g, i, none⟩ = some (.string (sgS Y)) from fun W' hW' i Y hY => by
                have hil := (List.getElem?_eq_some_iff.1 hY).1
                have hsl2 := HSL.out
                obtain ⟨g, cap', hve, _, hgw⟩ := HSV.out.form (by omega)
                injection hve with e1 e2 e3
                refine ⟨g, e1, ?_⟩
                have h5 := HSV.out
                rw [e1] at h5
                refine (hW'.cell (p := ⟨g, i, none⟩) hgw).trans ?_
                rw [h5.cellAt i (by omega)]
                unfold sgv
                rw [List.getElem?_map, hY]; rfl)
              have HBVV := hid (Below.refl V.heap.size V)
              have s1 : IntKind.i64.wrap ((sl : Int) - 1) = (sl : Int) - 1 := by rw [IntKind.wrap_i64]; omega
              clear HBK HOK2 HRU HUS
              go_wp2
              go_loopw [11, 12] (fun x y wr => ∃ (d : Bool) (k : Int), x = .bool d ∧ y = .int .i64 k ∧ -1 ≤ k ∧ k < (sl : Int) ∧ Hid (d = true → X ∈ uq (F.take j)) ∧ Hid (d = false → ∀ i : Nat, k < (i : Int) → (uq (F.take j))[i]? ≠ some X) ∧ Hid (Below V.heap.size V wr)) (fun _ y _ => (intOf y + 1).toNat)
              case atStart => exact ⟨false, (sl : Int) - 1, rfl, by first | rfl | (congr 1; omega), by omega, by omega, fun h => (by cases h), fun _ i hi => by rw [List.getElem?_eq_none (by have h5 := HSL.out; omega)]; simp, HBVV⟩
              case round =>
                obtain ⟨d, k, rfl, rfl, hk1, hk2, HDT, HDF, HBR⟩ := hrel
                cases d with
                | true =>
                  have HIN := hid (HDT.out rfl)
                  by_cases hk0 : 0 ≤ k
                  · have hk0q : (0 : Int) ≤ k := hk0
                    have hwr3 : N1 ≤ wr.heap.size := by have h6 := HBR.out.size; omega
                    have HSR := hid (own_keep HSV.out HBR.out)
                    have HBW3 := hid (HBV.out.trans (HBR.out.mono (Nat.le_trans hs2 hsV)))
                    have HUQ := hid (show uq (F.take (j + 1)) = uq (F.take j) by rw [HTK.out, uq_snoc, if_pos HIN.out])
                    have HO5 := hid (show wr.ownsRow N1 9 1 (.slice so sl sc) sl (sgv (uq (F.take (j + 1)))) by rw [HUQ.out]; exact HSR.out)
                    have HL5 := hid (show sl = (uq (F.take (j + 1))).length by rw [HUQ.out]; exact HSL.out)
                    have HLE5 := hid (show ∀ h : a2 < A.length, A[a2].1 ≤ 128 * (j + 1) from fun h => by have h5 := HLE2.out h; have h6 := HLO.out; omega)
                    have HL6 := hid (show ((lo + 128 : Nat) : Int) = ((128 * (j + 1) : Nat) : Int) by have h6 := HLO.out; omega)
                    go_wp2
                    go_roundw
                    case rel => exact ⟨j + 1, a2, so, sl, sc, rfl, rfl, by rw [← HL6.out]; first | rfl | (congr 1), by omega, ha2, by omega, HLE5, HL5, HO5, HBW3⟩
                    case measure => simp [intOf]; omega
                  · have hk0' : ¬ (0 : Int) ≤ k := hk0
                    have hwr3 : N1 ≤ wr.heap.size := by have h6 := HBR.out.size; omega
                    have HSR := hid (own_keep HSV.out HBR.out)
                    have HBW3 := hid (HBV.out.trans (HBR.out.mono (Nat.le_trans hs2 hsV)))
                    have HUQ := hid (show uq (F.take (j + 1)) = uq (F.take j) by rw [HTK.out, uq_snoc, if_pos HIN.out])
                    have HO5 := hid (show wr.ownsRow N1 9 1 (.slice so sl sc) sl (sgv (uq (F.take (j + 1)))) by rw [HUQ.out]; exact HSR.out)
                    have HL5 := hid (show sl = (uq (F.take (j + 1))).length by rw [HUQ.out]; exact HSL.out)
                    have HLE5 := hid (show ∀ h : a2 < A.length, A[a2].1 ≤ 128 * (j + 1) from fun h => by have h5 := HLE2.out h; have h6 := HLO.out; omega)
                    have HL6 := hid (show ((lo + 128 : Nat) : Int) = ((128 * (j + 1) : Nat) : Int) by have h6 := HLO.out; omega)
                    go_wp2
                    go_roundw
                    case rel => exact ⟨j + 1, a2, so, sl, sc, rfl, rfl, by rw [← HL6.out]; first | rfl | (congr 1), by omega, ha2, by omega, HLE5, HL5, HO5, HBW3⟩
                    case measure => simp [intOf]; omega
                | false =>
                  by_cases hk0 : 0 ≤ k
                  · obtain ⟨i, rfl⟩ : ∃ i : Nat, k = (i : Int) := ⟨k.toNat, by omega⟩
                    have hil : i < (uq (F.take j)).length := by have h5 := HSL.out; omega
                    obtain ⟨g, rfl, cg⟩ := HSC.out wr HBR.out i (uq (F.take j))[i] (List.getElem?_eq_getElem hil)
                    have HMI := hid (List.getElem_mem hil)
                    have HGI := hid (List.getElem?_eq_getElem hil)
                    obtain ⟨Y, hY⟩ : ∃ Y, Y = (uq (F.take j))[i] := ⟨_, rfl⟩
                    rw [← hY] at cg HMI HGI
                    have cv := HCV.out wr HBR.out
                    obtain ⟨dd, hdd⟩ : ∃ dd, dd = decide (Y = X) := ⟨_, rfl⟩
                    have eqd : ((sgS Y).toList == (sgS X).toList) = dd := by rw [hdd]; exact sgS_beq Y X (HUM.out Y HMI.out) ⟨HX1.out, HX8.out⟩
                    have HDD := hid hdd
                    clear hdd
                    have hi1 : (i : Int) < (sl : Int) := hk2
                    have s2 : IntKind.i64.wrap ((i : Int) - 1) = (i : Int) - 1 := by rw [IntKind.wrap_i64]; omega
                    clear hY hil
                    go_wp2_with fail
                    refine wp_region_mix [(0, true), (1, true), (2, true), (3, true), (4, true), (5, true), (6, true), (7, true)] (fun w' => w'.cell? ⟨g, i, none⟩ = some (.string (sgS Y)) ∧ (convert 58 9 (.slice bo' bl' bc)).run Try.prog w' = .ok (.string (sgS X)) w') (fun _ => false) (by kernel_rfl) (by kernel_rfl) (fun j hj => by cases hj) rfl (by kernel_rfl) ⟨cg, HCV.out wr.drew (HBR.out.trans ⟨rfl, rfl, rfl, Nat.le_refl _, fun _ _ => rfl⟩)⟩ ?_
                    iterate 6 (refine mix_free ?_ rfl (by kernel_rfl) (fun w' hS => ?_) ?_; (rotate_left; (obtain ⟨s1, s2⟩ := hS; go_simp; with_reducible rfl); rotate_left))
                    simp only [Act.put, List.setIfInBounds_toArray]
                    refine mix_free (.bool dd) rfl (by kernel_rfl) (fun w' hS => ?_) ?_
                    · go_simp
                      first | done | rfl | rw [eqd]
                    refine mix_free (.bool dd) rfl (by kernel_rfl) (fun w' hS => ?_) ?_
                    · go_simp
                      first | done | rfl | rw [eqd]
                    refine mix_end (NoPanic.normal ?_)
                    have HDT2 := hid (show dd = true → X ∈ uq (F.take j) from fun h => by
                      have h5 : Y = X := of_decide_eq_true (HDD.out.symm.trans h)
                      rw [← h5]; exact HMI.out)
                    have HDF2 := hid (show dd = false → ∀ i' : Nat, (i : Int) - 1 < (i' : Int) → (uq (F.take j))[i']? ≠ some X from fun h i' hi' => by
                      rcases Nat.lt_or_ge i i' with h5 | h5
                      · exact HDF.out (by first | rfl | trivial) i' (by omega)
                      · have h6 : i' = i := by omega
                        rw [h6, HGI.out]
                        intro e
                        have h7 : ¬ Y = X := of_decide_eq_false (HDD.out.symm.trans h)
                        exact h7 (Option.some.inj e))
                    have HBR2 := hid (HBR.out.trans (show Below V.heap.size wr wr.drew from ⟨rfl, rfl, rfl, Nat.le_refl _, fun _ _ => rfl⟩))
                    clear HDT HDF cv cg
                    go_wp2
                    go_roundw
                    case rel => exact ⟨dd, (i : Int) - 1, rfl, rfl, by omega, by omega, HDT2, HDF2, HBR2⟩
                    case measure => first | (simp [intOf]; done) | (simp [intOf]; omega)
                  · have hk0' : ¬ (0 : Int) ≤ k := hk0
                    have HNI := hid (show ¬ X ∈ uq (F.take j) from fun hm => by
                      obtain ⟨i, hi⟩ := List.getElem?_of_mem hm
                      exact HDF.out rfl i (by omega) hi)
                    have cv := HCV.out wr HBR.out
                    have hwr3 : N1 ≤ wr.heap.size := by have h6 := HBR.out.size; omega
                    have HSR := hid (own_keep HSV.out HBR.out)
                    have HBW3 := hid (HBV.out.trans (HBR.out.mono (Nat.le_trans hs2 hsV)))
                    go_wp2_with (at_builtin; refine wpList_append_own _ rfl _ _ 80 rfl N1 9 j0 (.string ⟨#[]⟩) 1 16 Try.underlying80 hj9 hy0 hy1 hy2 rfl (by decide) _ _ _ rfl (HSR.out.alloc _) ⟨wr.heap.size, 0, none⟩ 1 1 [.string (sgS X)] rfl rfl (cell_one_new _ _ _) (by simp [Value.oneCell']) (by unfold maxLen; omega) (by omega) (by simp; omega) ?_)
                    intro v5 w5 o5 gr5 _
                    have HB5 := hid ((HBW3.out.alloc hwr3 (.cells #[.string (sgS X)] 9)).grown gr5 (by simp; omega) (fun k hk => (HSR.out.lt k hk).1))
                    obtain ⟨so5, sc5, rfl⟩ := own_form o5
                    have HUQ := hid (show uq (F.take (j + 1)) = uq (F.take j) ++ [X] by rw [HTK.out, uq_snoc, if_neg HNI.out])
                    have HO5 := hid (show w5.ownsRow N1 9 1 (.slice so5 (sl + 1) sc5) (sl + 1) (sgv (uq (F.take (j + 1)))) by rw [HUQ.out, sgv_snoc]; exact o5)
                    have HL5 := hid (show sl + 1 = (uq (F.take (j + 1))).length by rw [HUQ.out, List.length_append, ← HSL.out]; rfl)
                    have HLE5 := hid (show ∀ h : a2 < A.length, A[a2].1 ≤ 128 * (j + 1) from fun h => by have h5 := HLE2.out h; have h6 := HLO.out; omega)
                    have HL6 := hid (show ((lo + 128 : Nat) : Int) = ((128 * (j + 1) : Nat) : Int) by have h6 := HLO.out; omega)
                    clear o5 gr5 cv
                    go_wp2
                    go_roundw
                    case rel => exact ⟨j + 1, a2, so5, sl + 1, sc5, rfl, rfl, by rw [← HL6.out]; first | rfl | (congr 1), by omega, ha2, by omega, HLE5, HL5, HO5, HB5⟩
                    case measure => simp [intOf]; omega
    · have l1 : ¬ (lo : Int) ≤ 1114111 := by omega
      have HUE := hid (show uq (F.take j) = uq F by rw [List.take_of_length_le (by have h5 := HFL.out; omega)])
      clear hlo
      go_wp2
      go_ret
      exact ⟨by rw [HSL.out, HUE.out]; rfl, HB1.out.trans (HB.out.mono hs1)⟩
end Go.Proofs.Ytljlhlcoaajggaa
/- The walk of TableBuilds. -/
namespace Go.Proofs.Ytljlhlcoaajggaa
open Go.RowKit

theorem cz_none (cl : Int) (C : List Nat) (hc : ∀ c ∈ C, c < 256) (h : cl < 0 ∨ 255 < cl) : cz cl C = 0 := by
  unfold cz
  rw [List.countP_eq_zero]
  intro c hm
  have := hc c hm
  simp only [decide_eq_true_eq]
  omega
theorem tb_256 {B T r : Nat} {F : List (List Nat)} {w : World} (h : TbAt B T F r w) : ok128 F ∧ (∀ X ∈ F, ∀ c ∈ X, c < 256) ∧ F.length = 8704 := by
  obtain ⟨g, cap, _, _, h1, h2, h3⟩ := h
  exact ⟨h1, fun X hX c hc => h2 X hX c hc, h3⟩
theorem own_sx {B g n cap : Nat} (vs : List Value) (o : Nat) (xs : List Value) (w : World) (h : w.ownsRow B 36 3 (.slice (some ⟨g, 0, none⟩) n cap) n xs) : Sx g w (w.setCells g o vs) := by
  induction vs generalizing o w xs with
  | nil => exact Sx.refl g w
  | cons v vs ih => exact (sx_setCell w g o v).trans (ih (o + 1) _ _ (h.stored o v).1)

set_option maxHeartbeats 12000000 in
set_option maxRecDepth 100000 in
theorem builds_walk (ao ro : Option Addr) (ac rc : Nat) (l : List Rk) (r : Int) (zs : List Int) (s : List UInt8) (w : World) (ha : RdK w ao l) (hna : ao = none → ac = 0) (hl0 : l.length ≤ 9223372036854775807) (hz : RdZ w ro zs) (hz0 : zs.length ≤ 9223372036854775807) (hs0 : s.length ≤ 9223372036854775807) :
    Calls Try.prog 4 #[.slice ao l.length ac, .int .i64 r, .slice ro zs.length rc, .string ⟨s.toArray⟩] w fun e w' => e = .returned (.bool true) ∧ Below w.heap.size w w' := by
  have HA := hid ha
  have HZ := hid hz
  obtain ⟨n, hn⟩ : ∃ n, n = l.length := ⟨_, rfl⟩
  obtain ⟨m, hm⟩ : ∃ m, m = zs.length := ⟨_, rfl⟩
  have HN := hid hn
  have HM := hid hm
  rw [← hn] at hl0 ⊢
  rw [← hm] at hz0 ⊢
  clear ha hz
  by_cases c1 : 300 < n
  · have c1' : (300 : Int) < (n : Int) := by omega
    clear hn hm
    go_enter Try.func4, Try.ntmps4
    go_wp2_with fail
    refine (live_any _).mono ?_
    rintro e w1 ⟨rfl, b1⟩
    have HB1 := hid b1
    clear b1
    go_wp2
    go_ret
    exact ⟨rfl, HB1.out⟩
  by_cases c2 : 2000 < m
  · have c1' : ¬ (300 : Int) < (n : Int) := by omega
    have c2' : (2000 : Int) < (m : Int) := by omega
    clear hn hm
    go_enter Try.func4, Try.ntmps4
    go_wp2_with fail
    refine (live_any _).mono ?_
    rintro e w1 ⟨rfl, b1⟩
    have HB1 := hid b1
    clear b1
    go_wp2
    go_ret
    exact ⟨rfl, HB1.out⟩
  by_cases c3 : 2000 < s.length
  · have c1' : ¬ (300 : Int) < (n : Int) := by omega
    have c2' : ¬ (2000 : Int) < (m : Int) := by omega
    have c3' : (2000 : Int) < (s.length : Int) := by omega
    clear hn hm
    go_enter Try.func4, Try.ntmps4
    go_wp2_with fail
    refine (live_any _).mono ?_
    rintro e w1 ⟨rfl, b1⟩
    have HB1 := hid b1
    clear b1
    go_wp2
    go_ret
    exact ⟨rfl, HB1.out⟩
  have c1' : ¬ (300 : Int) < (n : Int) := by omega
  have c2' : ¬ (2000 : Int) < (m : Int) := by omega
  have c3' : ¬ (2000 : Int) < (s.length : Int) := by omega
  have hn3 : n ≤ 300 := by omega
  have hm3 : m ≤ 2000 := by omega
  have hs3 : s.length ≤ 2000 := by omega
  have HO := hid (own_any ao ac l w HA.out hna (by omega))
  rw [← hn] at HO
  clear hn hm
  go_enter Try.func4, Try.ntmps4
  go_wp2_with fail
  refine HO.out.mono ?_
  rintro e w1 ⟨g1, p1, rfl, o1, b1⟩
  have HB1 := hid b1
  have hs1 := b1.size
  have HO1 := hid o1
  have hg1 : g1 < w1.heap.size := (o1.lt g1 rfl).2
  have hg0 : w.heap.size ≤ g1 := (o1.lt g1 rfl).1
  have HBU := hid (build_any (some ⟨g1, 0, none⟩) p1 l r w1 (rd_ownL (by have h5 := o1; rw [HN.out] at h5; exact h5)) (by have h5 := HN.out; omega))
  rw [← HN.out] at HBU
  clear o1 b1 HO
  go_wp2_with fail
  refine HBU.out.mono ?_
  rintro e w2 ⟨b2, hc⟩
  have HB12 := hid b2
  have HB2 := hid (HB1.out.trans (b2.mono hs1))
  have hs12 := b2.size
  have hs2 := HB2.out.size
  have HRB := hid (rbuild_any ao ac l r w2 (HA.out.below HB2.out) (by have h5 := HN.out; omega))
  rw [← HN.out] at HRB
  clear b2 HBU
  rcases hc with ⟨c, k, hc, rfl⟩ | ⟨hbo, T, F, rfl, hTs, hF, hsl, hTb⟩
  · have HC := hid hc
    clear hc
    go_wp2_with fail
    refine HRB.out.mono ?_
    rintro e w3 ⟨b3, hd⟩
    have HB3 := hid (HB2.out.trans (b3.mono hs2))
    have hs3' := HB3.out.size
    have HB13 := hid (HB12.out.trans (b3.mono hs12))
    have HSM := hid (same3_any (some ⟨g1, 0, none⟩) ao p1 ac l l w3 (rd_ownL (by have h5 := own_keep HO1.out HB13.out; rw [HN.out] at h5; exact h5)) (HA.out.below HB3.out) (by have h5 := HN.out; omega))
    rw [← HN.out, show decide (l = l) = true by simp] at HSM
    clear b3 HRB
    rcases hd with ⟨c', k', hc', rfl⟩ | ⟨hbo, _⟩
    · rw [HC.out] at hc'
      cases hc'
      go_wp2_with (first | (go_at_call 9; refine (num_any _ _).mono ?_; rintro e w9 ⟨rfl, h9⟩; obtain rfl := h9.symm) | fail)
      refine HSM.out.mono ?_
      rintro e w4 ⟨rfl, b4⟩
      have HB4 := hid (HB3.out.trans (b4.mono hs3'))
      have hs4 := HB4.out.size
      clear b4
      go_wp2_with fail
      refine (live_any _).mono ?_
      rintro e w5 ⟨rfl, b5⟩
      have HB5 := hid (HB4.out.trans (b5.mono hs4))
      clear b5
      go_wp2
      go_ret
      exact ⟨rfl, HB5.out⟩
    · rw [HC.out] at hbo
      cases hbo
  · have HBO := hid hbo
    have HF := hid hF
    have HTb := hid hTb
    clear hbo hF hTb
    go_wp2_with fail
    refine HRB.out.mono ?_
    rintro e w3 ⟨b3, hd⟩
    have HB3 := hid (HB2.out.trans (b3.mono hs2))
    have hs3' := HB3.out.size
    have HB13 := hid (HB12.out.trans (b3.mono hs12))
    have hs13 := HB13.out.size
    have HSM := hid (same3_any (some ⟨g1, 0, none⟩) ao p1 ac l l w3 (rd_ownL (by have h5 := own_keep HO1.out HB13.out; rw [HN.out] at h5; exact h5)) (HA.out.below HB3.out) (by have h5 := HN.out; omega))
    rw [← HN.out, show decide (l = l) = true by simp] at HSM
    have HT3 := hid (HTb.out.below b3)
    clear b3 HRB
    rcases hd with ⟨c', k', hc', rfl⟩ | ⟨hbo, P, rfl, hPs, hPt⟩
    · rw [HBO.out] at hc'
      cases hc'
    · obtain ⟨q1, q2, q3, q4⟩ := twin_of l r HBO.out
      have HTW := hid (show Twin w1.heap.size T P r.toNat F (nrA r.toNat [] (srt [] l)) w3 from ⟨HT3.out, hPt.mono hs12, by rw [q3]; exact HF.out, q1, q2, q4⟩)
      have hLl : (nrA r.toNat [] (srt [] l)).length ≤ 300 := by
        have h5 := nrA_len r.toNat (srt [] l) []
        rw [srt_len] at h5
        have h6 := HN.out
        simp at h5; omega
      have hPs1 : w1.heap.size ≤ P := by omega
      have hr0 : ((r.toNat : Nat) : Int) = r := (icl_lt (bo_none HBO.out).1).2
      obtain ⟨L, hL⟩ : ∃ L, L = nrA r.toNat [] (srt [] l) := ⟨_, rfl⟩
      rw [← hL] at HTW hLl
      obtain ⟨r2, hr2⟩ : ∃ r2, r2 = r.toNat := ⟨_, rfl⟩
      rw [← hr2] at HTW hr0
      have HR0 := hid hr0
      clear hbo hPt q1 q2 q3 q4 hL hr2 hr0 hPs
      go_wp2_with (first | (go_at_call 9; refine (num_any _ _).mono ?_; rintro e w9 ⟨rfl, h9⟩; obtain rfl := h9.symm) | fail)
      refine HSM.out.mono ?_
      rintro e w4 ⟨rfl, b4⟩
      have HB4 := hid (HB3.out.trans (b4.mono hs3'))
      have hs4 := HB4.out.size
      have HT4 := hid (HTW.out.below b4)
      have HO4 := hid (own_keep HO1.out (HB13.out.trans (b4.mono hs13)))
      clear b4 HSM
      have HS0 := hid (Sx.refl g1 w4)
      go_wp2
      go_loopw [16] (fun x wr => ∃ (j : Nat) (U : List Value), x = .int .i64 (j : Int) ∧ j ≤ n ∧ Hid (wr.ownsRow w.heap.size 36 3 (.slice (some ⟨g1, 0, none⟩) n p1) n U) ∧ Hid (Sx g1 w4 wr)) (fun x _ => n - (intOf x).toNat)
      case atStart => exact ⟨0, _, rfl, by omega, HO4, HS0⟩
      case round =>
        obtain ⟨j, U, rfl, hj, HOJ, HSJ⟩ := hrel
        by_cases hlt3 : j < n
        · have hU : U.length = n * 3 := HOJ.out.1
          have cc : ∀ c, c < 3 → ∃ u, wr.cell? ⟨g1, j * 3 + c, none⟩ = some u := fun c hc => by
            rw [HOJ.out.cellAt _ (by omega)]
            exact ⟨_, List.getElem?_eq_getElem (by omega)⟩
          obtain ⟨u0, f0⟩ := cc 0 (by omega)
          obtain ⟨u1, f1⟩ := cc 1 (by omega)
          obtain ⟨u2, f2⟩ := cc 2 (by omega)
          have z0 : wr.frozen? ⟨g1, j * 3, none⟩ = false := HOJ.out.frozenAt _
          have z1 : wr.frozen? ⟨g1, j * 3 + 1, none⟩ = false := HOJ.out.frozenAt _
          have z2 : wr.frozen? ⟨g1, j * 3 + 2, none⟩ = false := HOJ.out.frozenAt _
          have j3 : (j : Int) < (n : Int) := by omega
          have j0 : (0 : Int) ≤ (j : Int) := by omega
          rw [Nat.add_zero] at f0
          have HSK := hid (own_sets [.int .i32 0, .int .i32 0, .int .i64 99] (j * 3) U wr HOJ.out)
          have HSX := hid (HSJ.out.trans (own_sx [.int .i32 0, .int .i32 0, .int .i64 99] (j * 3) U wr HOJ.out))
          clear cc
          go_wp2
          go_roundw
          case rel => exact ⟨j + 1, _, by go_num, by omega, HSK.out.1, HSX⟩
          case measure => simp [intOf]; omega
        · have j3 : ¬ (j : Int) < (n : Int) := by omega
          have HT5 := hid (HT4.out.sx HSJ.out hg1 hTs hPs1)
          have HB5 := hid (HSJ.out.below_of HB4.out hg0)
          have hs5 := HB5.out.size
          obtain ⟨V, rfl⟩ : ∃ V, V = wr := ⟨_, rfl⟩
          clear HOJ HO4 HS0 HSJ
          have HTV := hid (show ∀ W, Below V.heap.size V W → Twin w1.heap.size T P r2 F L W from fun W hW => HT5.out.below hW)
          have HBV := hid (show ∀ W, Below V.heap.size V W → Below w.heap.size w W from fun W hW => HB5.out.trans (hW.mono hs5))
          obtain ⟨x1, x2, x3⟩ := tb_256 HT5.out.t
          have HBK := hid (show ∀ W, Below V.heap.size V W → Calls Try.prog 16 #[.pointer (some ⟨P, 0, none⟩)] W fun e w' => e = .returned (.int .i64 ((uq F).length : Int)) ∧ Below W.heap.size W w' from fun W hW => rblocks_any w1.heap.size P r2 L F W (HTV.out W hW).p HT5.out.lt HT5.out.ris (nr_of_rgs HT5.out.lt HT5.out.ris HT5.out.nrm) (by omega) x1 x2 HT5.out.f x3)
          obtain ⟨zc, hzc⟩ : ∃ zc : Int → Int, zc = fun cl => ((cz cl (clA r2 L) : Nat) : Int) := ⟨_, rfl⟩
          have HCT := hid (show ∀ (cl : Int) (W : World), Below V.heap.size V W → Calls Try.prog 17 #[.pointer (some ⟨T, 0, none⟩), .int .i64 cl] W fun e w' => e = .returned (.int .i64 (zc cl)) ∧ Below W.heap.size W w' from fun cl W hW => by
            have h5 := count_any w1.heap.size T r2 F cl W (HTV.out W hW).t
            rw [HT5.out.f] at h5
            rw [hzc]; exact h5)
          have HCR := hid (show ∀ (cl : Int) (W : World), Below V.heap.size V W → Calls Try.prog 18 #[.pointer (some ⟨P, 0, none⟩), .int .i64 cl] W fun e w' => e = .returned (.int .i64 (zc cl)) ∧ Below W.heap.size W w' from fun cl W hW => by
            rw [hzc]; exact rcount_any w1.heap.size P L r2 cl W (HTV.out W hW).p (by omega) HT5.out.ris)
          have h256 := clA_256 r2 L HT5.out.lt HT5.out.ris
          have y1 : zc (-1) = 0 := by rw [hzc]; dsimp only; rw [cz_none _ _ h256 (.inl (by omega))]; rfl
          have y2 : zc 1099511627776 = 0 := by rw [hzc]; dsimp only; rw [cz_none _ _ h256 (.inr (by omega))]; rfl
          have HBL := hid (blocks_any w1.heap.size T r2 F V HT5.out.t)
          have HAS := hid (show ∀ W, Below V.heap.size V W → Calls Try.prog 19 #[.pointer (some ⟨T, 0, none⟩), .pointer (some ⟨P, 0, none⟩), .slice ro m rc, .string ⟨s.toArray⟩] W fun e w' => e = .returned (.bool true) ∧ Below W.heap.size W w' from fun W hW => by
            have h5 := asks_any w1.heap.size T r2 w1.heap.size P F L ro rc zs s W (HTV.out W hW).t HT5.out.f HT5.out.lt HT5.out.ris HT5.out.nrm (HTV.out W hW).p (HZ.out.below (HBV.out W hW)) (by have h6 := HM.out; omega) (by omega)
            rw [← HM.out] at h5
            exact h5)
          obtain ⟨ub, hub⟩ : ∃ ub : Nat, ub = (uq F).length := ⟨_, rfl⟩
          rw [← hub] at HBL HBK
          clear x1 x2 x3 hzc h256 hub HT4 HTW HT3 HF HTb HBO
          go_wp2_with fail
          refine HBL.out.mono ?_
          rintro e wx ⟨rfl, hwx⟩
          obtain rfl := hwx.symm
          go_wp2_with fail
          refine (HBK.out V (Below.refl _ _)).mono ?_
          rintro e wa ⟨rfl, ba⟩
          have HVa := hid ba
          clear ba
          go_wp2_with fail
          refine (HCT.out r wa HVa.out).mono ?_
          rintro e wb ⟨rfl, bb⟩
          have HVb := hid (HVa.out.trans (bb.mono HVa.out.size))
          clear bb
          go_wp2_with fail
          refine (HCR.out r wb HVb.out).mono ?_
          rintro e wc ⟨rfl, bc⟩
          have HVc := hid (HVb.out.trans (bc.mono HVb.out.size))
          clear bc
          go_wp2_with fail
          refine (HCT.out (-1) wc HVc.out).mono ?_
          rintro e wd ⟨rfl, bd⟩
          have HVd := hid (HVc.out.trans (bd.mono HVc.out.size))
          clear bd
          rw [y1]
          go_wp2_with fail
          refine (HCT.out 1099511627776 wd HVd.out).mono ?_
          rintro e we ⟨rfl, be⟩
          have HVe := hid (HVd.out.trans (be.mono HVd.out.size))
          clear be
          rw [y2]
          clear y1 y2 HBK HBL
          go_wp2
          go_loopw [17] (fun x wr => ∃ (i : Nat), x = .int .i64 (i : Int) ∧ i ≤ n ∧ i ≤ 20 ∧ Hid (Below V.heap.size V wr)) (fun x _ => n - (intOf x).toNat)
          case atStart => exact ⟨0, rfl, by omega, by omega, HVe⟩
          case round =>
            obtain ⟨i, rfl, hi, hi20, HVI⟩ := hrel
            by_cases hin : i < n
            · have i3 : (i : Int) < (n : Int) := by omega
              have i0 : (0 : Int) ≤ (i : Int) := by omega
              by_cases hi2 : i < 20
              · have i4 : (i : Int) < 20 := by omega
                have hil : i < l.length := by have h5 := HN.out; omega
                obtain ⟨a, rfl, hab, a0, a1, a2⟩ := (HA.out.below (HBV.out wr HVI.out)) i l[i] (List.getElem?_eq_getElem hil)
                obtain ⟨z, hz⟩ : ∃ z, z = l[i].2.2 := ⟨_, rfl⟩
                rw [← hz] at a2
                have HAC := hid (show ∀ W, Below V.heap.size V W → W.cell? ⟨(a.add (i * 3)).block, (a.add (i * 3)).off + 2, none⟩ = some (.int .i64 z) from fun W hW => by
                  obtain ⟨a', ea, _, _, _, x2⟩ := (HA.out.below (HBV.out W hW)) i l[i] (List.getElem?_eq_getElem hil)
                  cases ea
                  rw [← hz] at x2
                  exact x2)
                have HVD := hid (HVI.out.trans (show Below V.heap.size wr wr.drew from ⟨rfl, rfl, rfl, Nat.le_refl _, fun _ _ => rfl⟩))
                clear hz hil a0 a1
                go_wp2_with fail
                refine wp_region_mix [(0, true), (1, true), (2, true), (3, true), (4, true), (5, true), (7, true), (8, true), (9, true), (10, true), (11, true), (12, true), (6, false), (13, false), (14, true)] (fun w' => w'.cell? ⟨(a.add (i * 3)).block, (a.add (i * 3)).off + 2, none⟩ = some (.int .i64 z)) (fun _ => false) (by kernel_rfl) (by kernel_rfl) (fun j hj => by cases hj) rfl (by kernel_rfl) a2 ?_
                iterate 6 (refine mix_free ?_ rfl (by kernel_rfl) (fun w' hS => ?_) ?_; (rotate_left; (go_simp; with_reducible rfl); rotate_left))
                simp only [Act.put, List.setIfInBounds_toArray]
                iterate 6 (refine mix_free ?_ rfl (by kernel_rfl) (fun w' hS => ?_) ?_; (rotate_left; (go_simp; with_reducible rfl); rotate_left))
                simp only [Act.put]
                refine mix_go rfl (by kernel_rfl) fun KK hKK => ?_
                go_simp
                refine (HCT.out z wr.drew HVD.out).mono ?_
                rintro e wf ⟨rfl, bf⟩
                have HVf := hid (HVD.out.trans (bf.mono HVD.out.size))
                clear bf
                refine hKK _ _ (fun _ => HAC.out wf HVf.out) ?_
                clear hKK KK
                refine mix_go rfl (by kernel_rfl) fun KK hKK => ?_
                go_simp
                refine (HCR.out z wf HVf.out).mono ?_
                rintro e wg ⟨rfl, bg⟩
                have HVg := hid (HVf.out.trans (bg.mono HVf.out.size))
                clear bg
                refine hKK _ _ (fun _ => HAC.out wg HVg.out) ?_
                clear hKK KK
                iterate 1 (refine mix_free ?_ rfl (by kernel_rfl) (fun w' hS => ?_) ?_; (rotate_left; (go_simp; with_reducible rfl); rotate_left))
                simp only [Act.put]
                refine mix_end (NoPanic.normal ?_)
                go_wp2
                go_roundw
                case rel => exact ⟨i + 1, by go_num, by omega, by omega, HVg⟩
                case measure => simp [intOf]; omega
              · have i4 : ¬ (i : Int) < 20 := by omega
                go_wp2_with fail
                refine (HAS.out wr HVI.out).mono ?_
                rintro e wh ⟨rfl, bh⟩
                have HVh := hid (HVI.out.trans (bh.mono HVI.out.size))
                have HBh := hid (HBV.out wh HVh.out)
                have hsh := HBh.out.size
                clear bh
                go_wp2_with fail
                refine (live_any _).mono ?_
                rintro e wi ⟨rfl, bi⟩
                have HBi := hid (HBh.out.trans (bi.mono hsh))
                clear bi
                go_wp2
                go_ret
                exact ⟨rfl, HBi.out⟩
            · have i3 : ¬ (i : Int) < (n : Int) := by omega
              go_wp2_with fail
              refine (HAS.out wr HVI.out).mono ?_
              rintro e wh ⟨rfl, bh⟩
              have HVh := hid (HVI.out.trans (bh.mono HVI.out.size))
              have HBh := hid (HBV.out wh HVh.out)
              have hsh := HBh.out.size
              clear bh
              go_wp2_with fail
              refine (live_any _).mono ?_
              rintro e wi ⟨rfl, bi⟩
              have HBi := hid (HBh.out.trans (bi.mono hsh))
              clear bi
              go_wp2
              go_ret
              exact ⟨rfl, HBi.out⟩
end Go.Proofs.Ytljlhlcoaajggaa
/- Arguments that came in, opened: slices of ranges, of numbers, of bytes, of runes. -/
namespace Go.Proofs.Ytljlhlcoaajggaa
open Go.ChangeShapes Go.WideShapes Go.ChangeAt Go.RowKit Go.Deep

set_option maxRecDepth 100000 in
/-- A slice of ranges with classes that came in. -/
theorem ranged_open {H : Type} {enc : TypeId × Value → H} {W : World} {v : Value} {d : DataW H} {ps : List MemPlace} (h : DataW.Trod enc Try.prog W 0 (fun _ => true) true 25 v d ps) (hv : ∃ a b c, v = .slice a b c) :
    ∃ (lo : Option Addr) (lcap : Nat) (l : List Rk), v = .slice lo l.length lcap ∧ (lo = none → lcap = 0) ∧ RdK W lo l ∧ l.length ≤ 9223372036854775807 := by
  obtain ⟨sa, sl, sc, rfl⟩ := hv
  obtain ⟨m, hm⟩ := h
  rcases open_slice Try.underlying25 hm with ⟨hv, _⟩ | ⟨a, len, cap, m', n, D, Pl, hv, hb, hl, hcm, hmm, _, hx⟩
  · have hv' : [Value.slice sa sl sc] = [.slice none 0 0] := hv
    cases hv'
    exact ⟨none, 0, [], rfl, fun _ => rfl, fun i g hi => (by cases hi), by decide⟩
  · have hv' : [Value.slice sa sl sc] = [.slice (some a) len cap] := hv
    cases hv'
    have hm' : m' = sc := hmm
    have hc3 : Try.prog.cellsOf 36 = 3 := by kernel_rfl
    have c21 : Try.prog.cellsOf 21 = 1 := by kernel_rfl
    have c3 : Try.prog.cellsOf 3 = 1 := by kernel_rfl
    have hex : ∀ i : _root_.Fin sl, ∃ g : Rk, W.cell? (a.add (i.1 * 3)) = some (.int .i32 g.1) ∧ W.cell? (a.add (i.1 * 3 + 1)) = some (.int .i32 g.2.1) ∧ W.cell? (a.add (i.1 * 3 + 2)) = some (.int .i64 g.2.2) := fun i => by
      obtain ⟨cs', h1, h2⟩ := hx i.1 (by omega)
      rw [hc3] at h1
      obtain ⟨_, hlen, hcell⟩ := World.cells?_some h1
      obtain ⟨xs, k, hk, hxy, _, hxl, hf⟩ := DataW.trod_struct Try.underlying36 h2
      match xs, hxl, cs', hlen with
      | [y0, y1, y2], _, [v0, v1, v2], _ =>
        have g0 := hf 0 _ rfl
        have g1 := hf 1 _ rfl
        have g2 := hf 2 _ rfl
        simp [c21, c3] at g0 g1 g2
        have e0 := hcell 0 (by omega)
        have e1 := hcell 1 (by omega)
        have e2 := hcell 2 (by omega)
        rw [Go.Deep.add_add] at e0 e1 e2
        obtain ⟨z0, q0, _⟩ := DataW.trod_int (k := .i32) Try.underlying21 g0
        obtain ⟨z1, q1, _⟩ := DataW.trod_int (k := .i32) Try.underlying21 g1
        obtain ⟨z2, q2, _⟩ := DataW.trod_int (k := .i64) Try.underlying3 g2
        injection q0 with q0 _
        injection q1 with q1 _
        injection q2 with q2 _
        subst q0 q1 q2
        exact ⟨(z0, z1, z2), by simpa using e0, by simpa using e1, by simpa using e2⟩
    refine ⟨some a, sc, List.ofFn fun i => Classical.choose (hex i), by rw [List.length_ofFn], fun h => (by cases h), fun i g hi => ?_, by rw [List.length_ofFn]; unfold maxLen at hcm; omega⟩
    rw [List.getElem?_ofFn] at hi
    split at hi
    · rename_i hil
      cases hi
      obtain ⟨e0, e1, e2⟩ := Classical.choose_spec (hex ⟨i, hil⟩)
      have hlt := World.block_lt_of_cell? W _ e0
      rw [add_blk] at hlt
      refine ⟨a, rfl, hlt, e0, by rw [← add_one3]; exact e1, ?_⟩
      have e3 : a.add (i * 3 + 2) = ⟨(a.add (i * 3)).block, (a.add (i * 3)).off + 2, none⟩ := by
        rw [show i * 3 + 2 = i * 3 + 1 + 1 by omega, add_one3, add_one3]
      rw [← e3]; exact e2
    · cases hi
/-- A slice of numbers that came in. -/
theorem numbers_open {H : Type} {enc : TypeId × Value → H} {W : World} {v : Value} {d : DataW H} {ps : List MemPlace} (h : DataW.Trod enc Try.prog W 0 (fun _ => true) true 41 v d ps) (hv : ∃ a b c, v = .slice a b c) :
    ∃ (ao : Option Addr) (cap : Nat) (E : List Int), v = .slice ao E.length cap ∧ RdJ W ao E ∧ E.length ≤ 9223372036854775807 := by
  obtain ⟨sa, sl, sc, rfl⟩ := hv
  obtain ⟨m, hm⟩ := h
  rcases Go.ChangeShapes.open_ints Try.underlying41 Try.underlying3 (by kernel_rfl) hm with ⟨hv, _⟩ | ⟨a, len, cap, zs, hv, _, hlc, hcm, hzl, _, hcells, _⟩
  · have hv' : [Value.slice sa sl sc] = [.slice none 0 0] := hv
    cases hv'
    exact ⟨none, 0, [], rfl, fun k z hk => (by cases hk), by decide⟩
  · have hv' : [Value.slice sa sl sc] = [.slice (some a) len cap] := hv
    cases hv'
    have hle : sl ≤ zs.length := by rw [hzl]; split <;> omega
    have hcm' : sc ≤ 9223372036854775807 := by unfold maxLen at hcm; omega
    refine ⟨some a, sc, zs.take sl, by rw [List.length_take]; congr 1; omega, fun k z hk => ?_, by rw [List.length_take]; omega⟩
    rw [List.getElem?_take] at hk
    split at hk
    · have hkl : k < zs.length := (List.getElem?_eq_some_iff.1 hk).1
      have hc := hcells k hkl
      have hz : zs.getD k 0 = z := by simp [List.getD, hk]
      rw [hz] at hc
      have hlt := World.block_lt_of_cell? W _ hc
      rw [add_blk] at hlt
      exact ⟨a, rfl, hlt, hc⟩
    · cases hk
theorem laidOut : laidOutB Try.prog = true := by kernel_rfl
theorem knob : ownKnob Try.prog.godebug = none := by kernel_rfl
/-- A slice of bytes that came in. -/
theorem bytes_open {H : Type} {enc : TypeId × Value → H} {W : World} {v : Value} {d : DataW H} {ps : List MemPlace} (h : DataW.Trod enc Try.prog W 0 (fun _ => true) true 58 v d ps) (hv : ∃ a b c, v = .slice a b c) :
    ∃ (ao : Option Addr) (cap : Nat) (b : List Nat), v = .slice ao b.length cap ∧ (ao = none → cap = 0) ∧ RdU W ao b ∧ (∀ c ∈ b, c < 256) ∧ b.length ≤ 9223372036854775807 := by
  obtain ⟨sa, sl, sc, rfl⟩ := hv
  obtain ⟨m, hm⟩ := h
  rcases Go.ChangeShapes.open_ints Try.underlying58 Try.underlying5 (by kernel_rfl) hm with ⟨hv, _⟩ | ⟨a, len, cap, zs, hv, _, hlc, hcm, hzl, _, hcells, hwf⟩
  · have hv' : [Value.slice sa sl sc] = [.slice none 0 0] := hv
    cases hv'
    exact ⟨none, 0, [], rfl, fun _ => rfl, fun k z hk => (by cases hk), fun c hc => (by cases hc), by decide⟩
  · have hv' : [Value.slice sa sl sc] = [.slice (some a) len cap] := hv
    cases hv'
    have hle : sl ≤ zs.length := by rw [hzl]; split <;> omega
    have hcm' : sc ≤ 9223372036854775807 := by unfold maxLen at hcm; omega
    have hrg : ∀ z ∈ zs, 0 ≤ z ∧ z < 256 := fun z hz => by
      have h1 : (IntKind.u8.min ≤ z ∧ z ≤ IntKind.u8.max) := by simpa [Lit.wf] using hwf z hz
      have h2 : IntKind.u8.min = 0 := by decide
      have h3 : IntKind.u8.max = 255 := by decide
      rw [h2, h3] at h1
      omega
    refine ⟨some a, sc, (zs.take sl).map Int.toNat, by rw [List.length_map, List.length_take]; congr 1; omega, fun h => (by cases h), fun k c hk => ?_, fun c hc => ?_, by rw [List.length_map, List.length_take]; omega⟩
    · rw [List.getElem?_map, List.getElem?_take] at hk
      split at hk
      · cases hz : zs[k]? with
        | none => rw [hz] at hk; cases hk
        | some y =>
          rw [hz] at hk
          cases hk
          have hkl : k < zs.length := (List.getElem?_eq_some_iff.1 hz).1
          have hc := hcells k hkl
          have hy : zs.getD k 0 = y := by simp [List.getD, hz]
          rw [hy] at hc
          have hlt := World.block_lt_of_cell? W _ hc
          rw [add_blk] at hlt
          have hr := hrg y (List.mem_of_getElem? hz)
          exact ⟨a, rfl, hlt, by rw [Int.toNat_of_nonneg hr.1]; exact hc⟩
      · cases hk
    · obtain ⟨z, hz, rfl⟩ := List.mem_map.1 hc
      have hr := hrg z (List.mem_of_mem_take hz)
      omega
/-- A slice of runes that came in. -/
theorem runes_open {H : Type} {enc : TypeId × Value → H} {W : World} {v : Value} {d : DataW H} {ps : List MemPlace} (h : DataW.Trod enc Try.prog W 0 (fun _ => true) true 26 v d ps) (hv : ∃ a b c, v = .slice a b c) :
    ∃ (ao : Option Addr) (cap : Nat) (E : List Int), v = .slice ao E.length cap ∧ RdZ W ao E ∧ E.length ≤ 9223372036854775807 := by
  obtain ⟨sa, sl, sc, rfl⟩ := hv
  obtain ⟨m, hm⟩ := h
  rcases Go.ChangeShapes.open_ints Try.underlying26 Try.underlying21 (by kernel_rfl) hm with ⟨hv, _⟩ | ⟨a, len, cap, zs, hv, _, hlc, hcm, hzl, _, hcells, _⟩
  · have hv' : [Value.slice sa sl sc] = [.slice none 0 0] := hv
    cases hv'
    exact ⟨none, 0, [], rfl, fun k z hk => (by cases hk), by decide⟩
  · have hv' : [Value.slice sa sl sc] = [.slice (some a) len cap] := hv
    cases hv'
    have hle : sl ≤ zs.length := by rw [hzl]; split <;> omega
    have hcm' : sc ≤ 9223372036854775807 := by unfold maxLen at hcm; omega
    refine ⟨some a, sc, zs.take sl, by rw [List.length_take]; congr 1; omega, fun k z hk => ?_, by rw [List.length_take]; omega⟩
    rw [List.getElem?_take] at hk
    split at hk
    · have hkl : k < zs.length := (List.getElem?_eq_some_iff.1 hk).1
      have hc := hcells k hkl
      have hz : zs.getD k 0 = z := by simp [List.getD, hk]
      rw [hz] at hc
      have hlt := World.block_lt_of_cell? W _ hc
      rw [add_blk] at hlt
      exact ⟨a, rfl, hlt, hc⟩
    · cases hk
end Go.Proofs.Ytljlhlcoaajggaa
