/- Rows of ranges: many cells written one behind the other; copies of elements of three cells. -/
import Derived.Test.YtljlhlcoaajggaaJoined
import Derived.Test.YtljlhlcoaajggaaInsMath
import Derived.Shelf.Spec.SlicesInsertGrow
namespace Go.Proofs.Ytljlhlcoaajggaa
open Go.RowKit Go.Lib

theorem run_copy3 (w : World) (dT sT ty elem : TypeId) (b o dLen dCap : Nat) (a : Addr) (sLen sCap : Nat) (cs : List Value)
    (hu : Try.prog.underlying dT = some (.slice elem)) (hs : (Try.prog.info? elem).map (·.size) = some 3) (hn : cs.length = Nat.min sLen dLen * 3)
    (hsrc : ∀ j v, cs[j]? = some v → w.cell? (a.add j) = some v) (hc : ∀ j, j < cs.length → (w.cell? ⟨b, o + j, none⟩).isSome = true) (hf : ∀ j, j < cs.length → w.frozen? ⟨b, o + j, none⟩ = false) (h1 : ∀ v ∈ cs, v.oneCell' = true) :
    (Builtin.copy_ #[dT, sT] ty #[.slice (some ⟨b, o, none⟩) dLen dCap, .slice (some a) sLen sCap]).run Try.prog w = .ok (goInt (Nat.min sLen dLen)) (w.setCells b o cs) := by
  have hl := run_loadCells_list (P := Try.prog) w a cs hsrc
  have hst := run_storeCells_cells (P := Try.prog) b o cs 0 w (by simpa using hc) (by simpa using hf) h1
  cases hq : Try.prog.info? elem with
  | none => simp [hq] at hs
  | some i =>
    have hi : i.size = 3 := by simpa [hq] using hs
    rw [hn] at hl
    simp [Builtin.copy_, run_underlying hu, Builtin.lenOf, Builtin.firstCells, sizeOf, typeInfo, hq, hi, hl, hst]

/-- Values written one behind the other. -/
def lset : List Value → Nat → List Value → List Value
  | xs, _, [] => xs
  | xs, o, v :: r => lset (xs.set o v) (o + 1) r
theorem lset_mid : ∀ (vs p q t : List Value), q.length = vs.length → lset (p ++ q ++ t) p.length vs = p ++ vs ++ t
  | [], p, q, t, h => by
    have : q = [] := List.length_eq_zero_iff.1 h
    subst this
    rfl
  | v :: r, p, q, t, h => by
    cases q with
    | nil => simp at h
    | cons x q =>
      have hs : (p ++ x :: q ++ t).set p.length v = (p ++ [v]) ++ q ++ t := by
        rw [List.append_assoc, List.set_append_right _ _ (Nat.le_refl _)]
        simp
      show lset ((p ++ x :: q ++ t).set p.length v) (p.length + 1) r = _
      rw [hs]
      have := lset_mid r (p ++ [v]) q t (by simpa using h)
      rw [List.length_append] at this
      simpa using this
theorem own_sets {B g n cap : Nat} : ∀ (vs : List Value) (o : Nat) (xs : List Value) (w : World), w.ownsRow B 36 3 (.slice (some ⟨g, 0, none⟩) n cap) n xs →
    (w.setCells g o vs).ownsRow B 36 3 (.slice (some ⟨g, 0, none⟩) n cap) n (lset xs o vs) ∧ Below B w (w.setCells g o vs)
  | [], _, _, w, h => ⟨h, Below.refl _ _⟩
  | v :: r, o, xs, w, h => by
    have h1 := (h.stored o v).1
    obtain ⟨h2, h3⟩ := own_sets r (o + 1) (xs.set o v) _ h1
    exact ⟨h2, (((Below.refl B w).setCell (p := ⟨g, o, none⟩) (h.lt g rfl).1 v)).trans h3⟩
/-- A row with room is a longer row. -/
theorem own_more {B g n cap : Nat} {xs : List Value} {w : World} (h : w.ownsRow B 36 3 (.slice (some ⟨g, 0, none⟩) n cap) n xs) (hc : n + 1 ≤ cap) :
    ∃ ys, ys.length = 3 ∧ w.ownsRow B 36 3 (.slice (some ⟨g, 0, none⟩) (n + 1) cap) (n + 1) (xs ++ ys) := by
  rcases h.2 with ⟨h', _⟩ | ⟨g', cap', cur, h', hb, hg, hnc, hcm, hcs, ht⟩
  · simp at h'
  · simp only [Value.slice.injEq, Option.some.injEq, Addr.mk.injEq, and_true, true_and] at h'
    obtain ⟨rfl, rfl⟩ := h'
    have hl : (cur.toList.drop (n * 3)).length = cap * 3 - n * 3 := by rw [List.length_drop, Array.length_toList, hcs]
    have e : cur.toList.take ((n + 1) * 3) = xs ++ (cur.toList.drop (n * 3)).take 3 := by
      rw [show (n + 1) * 3 = n * 3 + 3 by omega, List.take_add, ht]
    refine ⟨(cur.toList.drop (n * 3)).take 3, by rw [List.length_take, hl]; omega, ?_, .inr ⟨g, cap, cur, rfl, hb, hg, hc, hcm, hcs, e⟩⟩
    rw [← e, List.length_take, Array.length_toList, hcs]
    omega
theorem own_cap {B g n cap : Nat} {xs : List Value} {w : World} (h : w.ownsRow B 36 3 (.slice (some ⟨g, 0, none⟩) n cap) n xs) : n ≤ cap ∧ cap ≤ maxLen ∧ ∃ cur : Array Value, w.heap[g]? = some (.cells cur 36 (0, 0)) ∧ cur.size = cap * 3 := by
  rcases h.2 with ⟨h', _⟩ | ⟨g', cap', cur, h', hb, hg, hnc, hcm, hcs, ht⟩
  · simp at h'
  · simp only [Value.slice.injEq, Option.some.injEq, Addr.mk.injEq, and_true, true_and] at h'
    obtain ⟨rfl, rfl⟩ := h'
    exact ⟨hnc, hcm, cur, hg, hcs⟩
theorem rks_app (l m : List Tr) : rks (l ++ m) = rks l ++ rks m := by simp [rks]
theorem rks_one (l : List Tr) : ∀ v ∈ rks l, v.oneCell' = true := fun v hv => by
  obtain ⟨g, _, hg⟩ := List.mem_flatMap.1 hv
  exact rkc_one _ v hg
theorem rks_take (l : List Tr) (s : Nat) : (rks l).take (s * 3) = rks (l.take s) := by
  conv => lhs; rw [← List.take_append_drop s l, rks_app]
  by_cases h : s ≤ l.length
  · rw [List.take_left' (by rw [rks_len, List.length_take]; omega)]
  · rw [List.drop_of_length_le (by omega)]
    rw [show rks [] = [] from rfl, List.append_nil, List.take_of_length_le (by rw [rks_len, List.length_take]; omega)]
theorem rks_drop (l : List Tr) (s : Nat) (h : s ≤ l.length) : (rks l).drop (s * 3) = rks (l.drop s) := by
  conv => lhs; rw [← List.take_append_drop s l, rks_app]
  rw [List.drop_left' (by rw [rks_len, List.length_take]; omega)]
theorem size36 : (Try.prog.info? 36).map (·.size) = some 3 := by kernel_rfl
theorem Try.sizeOf36 (w : World) : (sizeOf 36).run Try.prog w = .ok 3 w := by kernel_rfl
/-- A shift to the right by one, then one laid in. -/
theorem shift_row (A : List Tr) (g : Tr) (s : Nat) (ys : List Value) (hs : s ≤ A.length) (hy : ys.length = 3) :
    lset (lset (rks A ++ ys) ((s + 1) * 3) (rks (A.drop s))) (s * 3) (rkc (rkT g)) = rks (A.take s ++ g :: A.drop s) := by
  have e1 : ∃ q : List Value, q.length = 3 ∧ ∃ r : List Value, r.length = (rks (A.drop s)).length ∧ rks A ++ ys = rks (A.take s) ++ q ++ r := by
    refine ⟨(rks (A.drop s) ++ ys).take 3, ?_, (rks (A.drop s) ++ ys).drop 3, ?_, ?_⟩
    · rw [List.length_take, List.length_append]; omega
    · rw [List.length_drop, List.length_append]; omega
    · rw [List.append_assoc, List.take_append_drop, ← List.append_assoc, ← rks_app, List.take_append_drop]
  obtain ⟨q, hq, r, hr, e⟩ := e1
  have hl : (rks (A.take s)).length = s * 3 := by rw [rks_len, List.length_take]; omega
  have e2 := lset_mid (rks (A.drop s)) (rks (A.take s) ++ q) r [] hr
  rw [List.append_nil, List.append_nil, List.length_append, hl, hq, show s * 3 + 3 = (s + 1) * 3 by omega] at e2
  rw [e, e2]
  have e3 := lset_mid (rkc (rkT g)) (rks (A.take s)) q (rks (A.drop s)) hq
  rw [hl] at e3
  rw [e3]
  simp [rks]
/-- One laid into zeros, then the rest. -/
theorem grow_row (A : List Tr) (g : Tr) (s : Nat) (zs : List Value) (hs : s ≤ A.length) (hz : zs.length = (A.length + 1 - s) * 3) :
    lset (lset (rks (A.take s) ++ zs) (s * 3) (rkc (rkT g))) ((s + 1) * 3) (rks (A.drop s)) = rks (A.take s ++ g :: A.drop s) := by
  have hl : (rks (A.take s)).length = s * 3 := by rw [rks_len, List.length_take]; omega
  have h3 : (rkc (rkT g)).length = 3 := rfl
  have e1 : zs = zs.take 3 ++ zs.drop 3 := (List.take_append_drop 3 zs).symm
  have e2 := lset_mid (rkc (rkT g)) (rks (A.take s)) (zs.take 3) (zs.drop 3) (by rw [List.length_take, hz, h3]; omega)
  rw [hl, List.append_assoc, ← e1] at e2
  rw [e2]
  have e3 := lset_mid (rks (A.drop s)) (rks (A.take s) ++ rkc (rkT g)) (zs.drop 3) [] (by rw [List.length_drop, hz, rks_len, List.length_drop]; omega)
  rw [List.append_nil, List.append_nil, List.length_append, hl, h3, show s * 3 + 3 = (s + 1) * 3 by omega] at e3
  rw [e3]
  simp [rks]
end Go.Proofs.Ytljlhlcoaajggaa
