/- Pairs of classes in lists; the contracts of find (package kerfref04) and of behind (package props). -/
import Derived.Test.YtohhokjlgihbgaaGreatDoorFEvMath
import Derived.Test.YtohhokjlgihbgaaGreatDoorFRLine
import Derived.DeepKeys3
import Derived.Test.YtohhokjlgihbgaaGreatDoorFRows2
import Derived.Test.YtohhokjlgihbgaaGreatDoorFBare
import Derived.Test.YtohhokjlgihbgaaGreatDoorFRRanged
import Derived.Test.YtohhokjlgihbgaaGreatDoorFNot
namespace Go.Proofs.YtohhokjlgihbgaaGreatDoor
open Go.RowKit

/-- Pairs as they can be read. -/
def RdP (w : World) (ao : Option Addr) (l : List Pr) : Prop := ∀ (k : Nat) (g : Pr), l[k]? = some g → ∃ a : Addr, ao = some a ∧ a.block < w.heap.size ∧ w.cell? (a.add (k * 2)) = some (.int .i64 g.1) ∧ w.cell? ⟨(a.add (k * 2)).block, (a.add (k * 2)).off + 1, none⟩ = some (.int .i64 g.2)
theorem RdP.below {w w' : World} {ao : Option Addr} {l : List Pr} (h : RdP w ao l) (hb : Below w.heap.size w w') : RdP w' ao l := fun k g hk => by
  obtain ⟨a, h1, h2, h3, h4⟩ := h k g hk
  exact ⟨a, h1, Nat.lt_of_lt_of_le h2 hb.size, (hb.cell (p := a.add (k * 2)) (by rw [add_blk]; exact h2)).trans h3, (hb.cell (p := ⟨(a.add (k * 2)).block, (a.add (k * 2)).off + 1, none⟩) (by show (a.add (k * 2)).block < _; rw [add_blk]; exact h2)).trans h4⟩
/-- Pairs as cells. -/
def pkc (p : Pr) : List Value := [.int .i64 p.1, .int .i64 p.2]
def pks (l : List Pr) : List Value := l.flatMap pkc
theorem pks_snoc (l : List Pr) (p : Pr) : pks (l ++ [p]) = pks l ++ pkc p := by simp [pks]
theorem pks_len (l : List Pr) : (pks l).length = l.length * 2 := by
  induction l with
  | nil => rfl
  | cons g l ih =>
    show (pkc g ++ pks l).length = _
    rw [List.length_append, ih]
    simp [pkc]; omega
theorem pkc_one (p : Pr) : ∀ v ∈ pkc p, v.oneCell' = true := fun v hv => by
  simp [pkc] at hv
  rcases hv with rfl | rfl <;> rfl
theorem pks_at (l : List Pr) (k c : Nat) (v : Value) (h : k < l.length) (hv : (pkc l[k])[c]? = some v) : (pks l)[k * 2 + c]? = some v := by
  have hc : c < 2 := (List.getElem?_eq_some_iff.1 hv).1
  have hl : (pks (l.take k)).length = k * 2 := by rw [pks_len, List.length_take]; omega
  have e : l = l.take k ++ l[k] :: l.drop (k + 1) := by rw [List.getElem_cons_drop, List.take_append_drop]
  have e3 : pks (l.take k ++ l[k] :: l.drop (k + 1)) = pks (l.take k) ++ (pkc l[k] ++ pks (l.drop (k + 1))) := by unfold pks; rw [List.flatMap_append, List.flatMap_cons]
  have e2 : pks l = pks (l.take k) ++ (pkc l[k] ++ pks (l.drop (k + 1))) := (congrArg pks e).trans e3
  rw [e2, List.getElem?_append_right (by omega), hl, show k * 2 + c - k * 2 = c by omega, List.getElem?_append_left hc]
  exact hv
theorem rd_ownP {T B n cap : Nat} {ao : Option Addr} {l : List Pr} {w : World} (h : w.ownsRow B T 2 (.slice ao n cap) n (pks l)) : RdP w ao l := by
  intro k g hk
  obtain ⟨hkl, rfl⟩ := List.getElem?_eq_some_iff.1 hk
  have hn : l.length = n := by have := h.1; rw [pks_len] at this; omega
  rcases h.2 with ⟨h', h0⟩ | ⟨q, cap', cur, h', hb, hg, hnc, hcm, hcs, htk⟩
  · omega
  · simp only [Value.slice.injEq, true_and] at h'
    obtain ⟨rfl, rfl⟩ := h'
    have hc : ∀ j v, (pkc l[k])[j]? = some v → w.cell? ⟨q, k * 2 + j, none⟩ = some v := fun j v hj => by
      have hj3 : j < 2 := (List.getElem?_eq_some_iff.1 hj).1
      rw [h.cellAt _ (by omega)]
      exact pks_at l k j v hkl hj
    have ha : (⟨q, 0, none⟩ : Addr).add (k * 2) = ⟨q, k * 2, none⟩ := by rw [Addr.add_lit, Nat.zero_add]
    refine ⟨_, rfl, (h.lt q rfl).2, ?_, ?_⟩
    · rw [ha]; exact hc 0 _ rfl
    · rw [ha]; exact hc 1 _ rfl
theorem Tryz.info110 : (Tryz.prog.info? 110).map (fun i => (i.zero, i.size, i.bytes)) = some (some (.agg #[.int .i64 0, .int .i64 0]), 2, 16) := by kernel_rfl
theorem Tryz.info107 : (Tryz.prog.info? 107).map (fun i => (i.zero, i.size, i.bytes)) = some (some (.agg #[.int .i64 0, .int .i64 0]), 2, 16) := by kernel_rfl
theorem news_p (w : World) (g : Pr) (T : TypeId) : ∀ j u, (pkc g)[j]? = some u → (w.alloc (.cells #[.int .i64 g.1, .int .i64 g.2] T)).cell? ((⟨w.heap.size, 0, none⟩ : Addr).add j) = some u := fun j u hj => by
  rw [show (⟨w.heap.size, 0, none⟩ : Addr).add j = ⟨w.heap.size, j, none⟩ by unfold Addr.add; split <;> simp_all]
  rw [cell_of_row _ w.heap.size j #[.int .i64 g.1, .int .i64 g.2] T (0, 0) (show (w.heap.push _)[w.heap.size]? = _ by simp)]
  rw [← hj]
  simp [pkc]
/-- Rows of unlike types lie in unlike blocks. -/
theorem own_ne {w : World} {B B' t t' s s' n n' : Nat} {v v' : Value} {xs xs' : List Value} (h : w.ownsRow B t s v n xs) (h' : w.ownsRow B' t' s' v' n' xs') (ht : t ≠ t') : v.ownBlock = none ∨ v.ownBlock ≠ v'.ownBlock := by
  rcases h.2 with ⟨rfl, _⟩ | ⟨g, cap, cur, rfl, _, hg, _⟩
  · exact .inl rfl
  · refine .inr fun e => ?_
    rcases h'.2 with ⟨rfl, _⟩ | ⟨g', cap', cur', rfl, _, hg', _⟩
    · simp [Value.ownBlock] at e
    · have e2 : g = g' := by simpa [Value.ownBlock] using e
      subst e2
      rw [hg] at hg'
      injection hg' with hg'
      injection hg' with _ h2 _
      exact ht h2
theorem add_nil (a : Addr) : a.add 0 = a := by unfold Addr.add; split <;> simp_all
theorem add_more (a : Addr) (k : Nat) : a.add (k + 1) = (⟨a.block, a.off + 1, none⟩ : Addr).add k := by
  unfold Addr.add
  split <;> split <;> simp_all <;> omega
theorem add_add (a : Addr) (k j : Nat) : (a.add k).add j = a.add (k + j) := by
  unfold Addr.add
  split <;> split <;> simp_all <;> omega
set_option maxRecDepth 100000 in
set_option maxHeartbeats 2000000 in
theorem cfind_any (ao : Option Addr) (ac : Nat) (l : List Pr) (x : Pr) (w : World) (ha : RdP w ao l) (hl : l.length ≤ 1000000000) :
    Calls Tryz.prog 61 #[.slice ao l.length ac, .agg #[.int .i64 x.1, .int .i64 x.2]] w fun e w' => e = .returned (.int .i64 (fnd x l)) ∧ Below w.heap.size w w' := by
  obtain ⟨u0, u1⟩ := x
  have HA := hid ha
  obtain ⟨n, hn⟩ : ∃ n, n = l.length := ⟨_, rfl⟩
  rw [← hn] at hl ⊢
  have HN := hid hn
  have HG := hid (heap_alloc_new w (.cells #[.int .i64 u0, .int .i64 u1] 110))
  have HB0 := hid ((Below.refl w.heap.size w).alloc (Nat.le_refl _) (.cells #[.int .i64 u0, .int .i64 u1] 110))
  have HXC := hid (show ∀ W, Below (w.heap.size + 1) (w.alloc (.cells #[.int .i64 u0, .int .i64 u1] 110)) W → W.cell? ⟨w.heap.size, 0, none⟩ = some (.int .i64 u0) ∧ W.cell? ⟨w.heap.size, 1, none⟩ = some (.int .i64 u1) from fun W hW => by
    have h5 := (hW.block w.heap.size (Nat.lt_succ_self _)).trans HG.out
    exact ⟨by rw [cell_of_row W w.heap.size 0 _ 110 (0, 0) h5]; rfl, by rw [cell_of_row W w.heap.size 1 _ 110 (0, 0) h5]; rfl⟩)
  have HB1 := hid (show Below (w.heap.size + 1) (w.alloc (.cells #[.int .i64 u0, .int .i64 u1] 110)) (w.alloc (.cells #[.int .i64 u0, .int .i64 u1] 110)) by have h5 := Below.refl (w.alloc (.cells #[.int .i64 u0, .int .i64 u1] 110)).heap.size (w.alloc (.cells #[.int .i64 u0, .int .i64 u1] 110)); rw [World.size_alloc] at h5; exact h5)
  have HBW := hid (show ∀ W, Below (w.heap.size + 1) (w.alloc (.cells #[.int .i64 u0, .int .i64 u1] 110)) W → Below w.heap.size w W from fun W hW => HB0.out.trans (hW.mono (Nat.le_succ _)))
  clear ha hn
  go_enter Tryz.func61, Tryz.ntmps61
  go_wp2
  go_loopw [5] (fun i wr => ∃ k : Nat, k ≤ n ∧ i = .int .i64 (k : Int) ∧ Hid (∀ j : Nat, j < k → l[j]? ≠ some (u0, u1)) ∧ Hid (Below (w.heap.size + 1) (w.alloc (.cells #[.int .i64 u0, .int .i64 u1] 110)) wr)) (fun i _ => n - (intOf i).toNat)
  case atStart => exact ⟨0, by omega, rfl, fun j hj => absurd hj (Nat.not_lt_zero _), HB1⟩
  case round =>
    obtain ⟨k, hk, rfl, HE, HB⟩ := hrel
    obtain ⟨z0, z1⟩ := HXC.out wr HB.out
    by_cases hlt : k < n
    · have hkl : k < l.length := by have h5 := HN.out; omega
      obtain ⟨a, rfl, ha, a0, a1⟩ := (HA.out.below (HBW.out wr HB.out)) k l[k] (List.getElem?_eq_getElem hkl)
      have HGK := hid (List.getElem?_eq_getElem hkl)
      obtain ⟨gx, hx⟩ : ∃ gx, gx = l[k] := ⟨_, rfl⟩
      rw [← hx] at a0 a1 HGK
      obtain ⟨x0, x1⟩ := gx
      dsimp only at a0 a1
      have i3 : (k : Int) < (n : Int) := by omega
      have i0 : (0 : Int) ≤ (k : Int) := by omega
      have HBD := hid (HB.out.trans (show Below (w.heap.size + 1) wr wr.drew from ⟨rfl, rfl, rfl, Nat.le_refl _, fun _ _ => rfl⟩))
      have HBE := hid (HBW.out _ HBD.out)
      clear hx hkl
      by_cases q : (x0, x1) = (u0, u1)
      · have HF := hid (show fnd (u0, u1) l = (k : Int) from fnd_at _ l k (by rw [HGK.out, q]) HE.out)
        cases q
        go_wp2_with fail
        go_region
        go_wp2
        go_ret
        exact ⟨by rw [HF.out]; rfl, HBE.out⟩
      · have HE2 := hid (show ∀ j : Nat, j < k + 1 → l[j]? ≠ some (u0, u1) from fun j hj => by
          rcases Nat.lt_or_ge j k with h5 | h5
          · exact HE.out j h5
          · have h6 : j = k := by omega
            rw [h6, HGK.out]
            exact fun e => q (Option.some.inj e))
        by_cases q0 : x0 = u0
        · have q1 : x1 ≠ u1 := fun q1 => q (by rw [q0, q1])
          have t1 : (x1 == u1) = false := beq_eq_false_iff_ne.2 q1
          subst q0
          clear q
          go_wp2_with fail
          go_region
          go_wp2
          go_roundw
          case rel => exact ⟨k + 1, by omega, by go_num, HE2, HBD⟩
          case measure => simp [intOf]; omega
        · have t1 : (x0 == u0) = false := beq_eq_false_iff_ne.2 q0
          clear q
          go_wp2_with fail
          go_region
          go_wp2
          go_roundw
          case rel => exact ⟨k + 1, by omega, by go_num, HE2, HBD⟩
          case measure => simp [intOf]; omega
    · have i3 : ¬ (k : Int) < (n : Int) := by omega
      have HF := hid (show fnd (u0, u1) l = -1 from fnd_no _ l (fun hm => by
        obtain ⟨j, hj⟩ := List.getElem?_of_mem hm
        have h5 := (List.getElem?_eq_some_iff.1 hj).1
        exact HE.out j (by have h6 := HN.out; omega) hj))
      have HBE := hid (HBW.out _ HB.out)
      go_wp2
      go_ret
      exact ⟨by rw [HF.out]; rfl, HBE.out⟩
theorem RdK.tail {w : World} {a : Addr} {g : Rk} {l : List Rk} (h : RdK w (some a) (g :: l)) : RdK w (some (a.add 3)) l := fun k x hk => by
  obtain ⟨a', ea, h1, h2, h3, h4⟩ := h (k + 1) x (by simpa using hk)
  cases ea
  have e : (a.add 3).add (k * 3) = a.add ((k + 1) * 3) := by rw [add_add, show 3 + k * 3 = (k + 1) * 3 by omega]
  refine ⟨_, rfl, by rw [add_blk]; exact h1, by rw [e]; exact h2, by rw [e]; exact h3, by rw [e]; exact h4⟩
theorem RdK.nil (w : World) (ao : Option Addr) : RdK w ao [] := fun k x hk => by simp at hk

set_option maxHeartbeats 1000000 in
set_option maxRecDepth 100000 in
theorem behind_yes (a : Addr) (ac : Nat) (g : Tr) (L : List Tr) (w : World) (h : RdK w (some a) ((g :: L).map rkT)) (hl : L.length < 1000000000) (hac : L.length + 1 ≤ ac) :
    Calls Tryz.prog 85 #[.slice (some a) (L.length + 1) ac, .int .i32 (g.2.1 : Int)] w fun e w' => w' = w ∧ ∃ ao' ac', e = .returned (.slice ao' L.length ac') ∧ L.length ≤ ac' ∧ (L = [] ∨ ao' = some (a.add 3)) := by
  obtain ⟨a', ea, hb, a0, a1, a2⟩ := h 0 (rkT g) rfl
  cases ea
  rw [Nat.zero_mul, add_nil] at a0 a1 a2
  obtain ⟨n, hn⟩ : ∃ n, n = L.length + 1 := ⟨_, rfl⟩
  have HN := hid hn
  rw [← hn] at hac ⊢
  have n1 : (0 : Int) < (n : Int) := by omega
  have n2 : (1 : Int) ≤ (n : Int) := by omega
  have n3 : (n : Int) ≤ (ac : Int) := by omega
  have HNL := hid (show n - 1 = L.length by omega)
  obtain ⟨lo, gh, cl⟩ := g
  change w.cell? ⟨a.block, a.off + 1, none⟩ = some (.int .i32 (gh : Int)) at a1
  dsimp only
  clear h hn a0 a2
  go_enter Tryz.func85, Tryz.ntmps85
  go_wp2
  · go_ret
    have hl0 : L = [] := List.length_eq_zero_iff.1 (by have h5 := HN.out; omega)
    exact ⟨rfl, _, _, by rw [HNL.out]; rfl, by rw [hl0]; exact Nat.zero_le _, .inl hl0⟩
  · go_ret
    exact ⟨rfl, _, _, by rw [HNL.out]; rfl, by have h5 := HN.out; omega, .inr (congrArg some (show (⟨a.block, a.off + 3, none⟩ : Addr) = a.add 3 by rw [add_more, add_more, add_more, add_nil]))⟩
set_option maxRecDepth 100000 in
theorem behind_no (a : Addr) (ac : Nat) (g : Tr) (L : List Tr) (hi : Nat) (w : World) (h : RdK w (some a) ((g :: L).map rkT)) (hne : g.2.1 ≠ hi) :
    Calls Tryz.prog 85 #[.slice (some a) (L.length + 1) ac, .int .i32 (hi : Int)] w fun e w' => e = .returned (.slice (some a) (L.length + 1) ac) ∧ w' = w := by
  obtain ⟨a', ea, hb, a0, a1, a2⟩ := h 0 (rkT g) rfl
  cases ea
  rw [Nat.zero_mul, add_nil] at a0 a1 a2
  obtain ⟨n, hn⟩ : ∃ n, n = L.length + 1 := ⟨_, rfl⟩
  rw [← hn]
  have n1 : (0 : Int) < (n : Int) := by omega
  obtain ⟨lo, gh, cl⟩ := g
  change w.cell? ⟨a.block, a.off + 1, none⟩ = some (.int .i32 (gh : Int)) at a1
  have t1 : ((gh : Int) == (hi : Int)) = false := by
    have h5 : gh ≠ hi := hne
    simp; omega
  clear h hn a0 a2 hne
  go_enter Tryz.func85, Tryz.ntmps85
  go_wp2
  go_ret
  exact ⟨rfl, rfl⟩
theorem behind_both (a : Addr) (ac : Nat) (g : Tr) (L : List Tr) (hi : Nat) (w : World) (h : RdK w (some a) ((g :: L).map rkT)) (hl : L.length < 1000000000) (hac : L.length + 1 ≤ ac) :
    Calls Tryz.prog 85 #[.slice (some a) (L.length + 1) ac, .int .i32 (hi : Int)] w fun e w' => w' = w ∧ ∃ ao' ac', e = .returned (.slice ao' (if g.2.1 = hi then L else g :: L).length ac') ∧ (if g.2.1 = hi then L else g :: L).length ≤ ac' ∧ ∀ W, RdK W (some a) ((g :: L).map rkT) → RdK W ao' ((if g.2.1 = hi then L else g :: L).map rkT) := by
  by_cases hc : g.2.1 = hi
  · rw [if_pos hc, ← hc]
    refine (behind_yes a ac g L w h hl hac).mono ?_
    rintro e w' ⟨rfl, ao', ac', rfl, h1, h2⟩
    refine ⟨rfl, ao', ac', rfl, h1, fun W hW => ?_⟩
    rcases h2 with rfl | rfl
    · exact RdK.nil _ _
    · exact RdK.tail hW
  · rw [if_neg hc]
    refine (behind_no a ac g L hi w h hc).mono ?_
    rintro e w' ⟨rfl, rfl⟩
    exact ⟨rfl, some a, ac, rfl, by simp; omega, fun W hW => hW⟩
theorem next_less (x y : Tr) (X Y : List Tr) (hi : Nat) (h : hi = min x.2.1 y.2.1) : (if x.2.1 = hi then X else x :: X).length + (if y.2.1 = hi then Y else y :: Y).length < X.length + 1 + (Y.length + 1) := by
  rcases Nat.le_total x.2.1 y.2.1 with h5 | h5
  · rw [if_pos (show x.2.1 = hi by omega)]
    split
    · omega
    · simp only [List.length_cons]; omega
  · rw [if_pos (show y.2.1 = hi by omega)]
    split
    · omega
    · simp only [List.length_cons]; omega
end Go.Proofs.YtohhokjlgihbgaaGreatDoor
/- A pair of classes as a map's key; the map of pairs to their numbers. -/
namespace Go.Proofs.YtohhokjlgihbgaaGreatDoor
open Go.RowKit Go.Maps Go.WideMaps

theorem types_some : ∃ m, Tryz.prog.types.size = m + 1 := ⟨Tryz.prog.types.size - 1, by kernel_rfl⟩
theorem law107 : Keyed Tryz.prog 107 := Keyed.of_law (deep_law (m := 2) (by decide) (by kernel_rfl) (by kernel_rfl) (by kernel_rfl))
def prv (p : Pr) : Value := .agg #[.int .i64 p.1, .int .i64 p.2]
def okP (p : Pr) : Prop := (Lit.int .i64 p.1).wf = true ∧ (Lit.int .i64 p.2).wf = true
def pky (p : Pr) : Lit := .string (keyBytes [.int .i64 p.1, .int .i64 p.2])
theorem cells107 : Tryz.prog.cellsOf 107 = 2 := by kernel_rfl
theorem cells3 : Tryz.prog.cellsOf 3 = 1 := by kernel_rfl
theorem keyt107 : Tryz.prog.keyType 107 = true := by kernel_rfl
theorem keyOf_prv (p : Pr) (h : okP p) : keyOf Tryz.prog 107 (prv p) = some (pky p) := by
  obtain ⟨m0, hm0⟩ := types_some
  obtain ⟨x, y⟩ := p
  obtain ⟨h1, h2⟩ := h
  dsimp only at h1 h2
  unfold keyOf prv
  simp only [Tryz.underlying107]
  rw [if_pos (by simp [keyt107, Value.formed, Tryz.underlying107, cells107]), hm0]
  unfold Program.keyLits
  simp only [Tryz.underlying107, Value.cells]
  rw [if_pos (by rw [cells107]; simp)]
  simp [Program.keyLits, Tryz.underlying3, cells3, h1, h2, pky]
theorem pky_inj {a b : Pr} (ha : okP a) (hb : okP b) (h : pky a = pky b) : a = b := by
  have h1 := keyOf_prv a ha
  have h2 := keyOf_prv b hb
  rw [← h] at h2
  have h3 := law107.inj h1 h2
  obtain ⟨x, y⟩ := a
  obtain ⟨u, v⟩ := b
  simpa [prv] using h3
theorem pky_key (p : Pr) : WideAt.IsKeyLit (pky p) := by unfold pky; trivial
/-- The map of pairs to their numbers. -/
def pdF {H : Type} : Nat → DataW H → List Pr → DataW H
  | _, D, [] => D
  | i, D, b :: U => pdF (i + 1) (D.put (pky b) (.lit (.int .i64 (i : Int)))) U
def pdc {H : Type} (U : List Pr) : DataW H := pdF 0 (.map []) U
theorem pdF_app {H : Type} : ∀ (U V : List Pr) (i : Nat) (D : DataW H), pdF i D (U ++ V) = pdF (i + U.length) (pdF i D U) V
  | [], V, i, D => rfl
  | b :: U, V, i, D => by
    show pdF (i + 1) _ (U ++ V) = _
    rw [pdF_app U V (i + 1), List.length_cons, show i + 1 + U.length = i + (U.length + 1) by omega]
    rfl
theorem pdc_snoc {H : Type} (U : List Pr) (b : Pr) : (pdc (U ++ [b]) : DataW H) = (pdc U).put (pky b) (.lit (.int .i64 (U.length : Int))) := by
  unfold pdc
  rw [pdF_app, Nat.zero_add]; rfl
theorem pdc_map {H : Type} : ∀ (n : Nat) (U : List Pr), U.length = n → IsMap (pdc U : DataW H)
  | 0, U, h => by
    have : U = [] := List.length_eq_zero_iff.1 h
    subst this
    exact ⟨[], rfl⟩
  | n + 1, U, h => by
    rcases List.eq_nil_or_concat U with rfl | ⟨V, b, rfl⟩
    · simp at h
    · rw [List.concat_eq_append, pdc_snoc]
      exact isMap_put (pdc_map n V (by simp at h; exact h)) _ _
theorem pdc_has {H : Type} : ∀ (n : Nat) (U : List Pr) (b : Pr), U.length = n → (∀ a ∈ U, okP a) → okP b → Maps.has (pdc U : DataW H) (pky b) = decide (b ∈ U)
  | 0, U, b, h, _, _ => by
    have : U = [] := List.length_eq_zero_iff.1 h
    subst this
    simp [pdc, pdF, Maps.has]
  | n + 1, U, b, h, hU, hb => by
    rcases List.eq_nil_or_concat U with rfl | ⟨V, c, rfl⟩
    · simp at h
    · rw [List.concat_eq_append] at *
      have hV : V.length = n := by simp at h; exact h
      have ih := pdc_has (H := H) n V b hV (fun a ha => hU a (by simp [ha])) hb
      rw [pdc_snoc]
      by_cases e : b = c
      · subst e
        rw [has_put_same (pdc_map n V hV) (pky_key b)]
        simp
      · rw [has_put_other (fun h2 => e (pky_inj hb (hU c (by simp)) h2)), ih]
        simp [e]
theorem fnd_app (b : Pr) (l : List Pr) : ∀ (V : List Pr), b ∈ V → fnd b (V ++ l) = fnd b V
  | [], h => by cases h
  | y :: V, h => by
    show (if y = b then _ else if fnd b (V ++ l) < 0 then -1 else fnd b (V ++ l) + 1) = (if y = b then _ else if fnd b V < 0 then -1 else fnd b V + 1)
    by_cases e : y = b
    · rw [if_pos e, if_pos e]
    · have hm : b ∈ V := by
        rcases List.mem_cons.1 h with h5 | h5
        · exact absurd h5.symm e
        · exact h5
      rw [if_neg e, if_neg e, fnd_app b l V hm]
theorem fnd_last (b : Pr) : ∀ (V : List Pr), b ∉ V → fnd b (V ++ [b]) = (V.length : Int)
  | [], _ => by show (if b = b then (0 : Int) else _) = _; rw [if_pos rfl]; rfl
  | y :: V, h => by
    have h1 : ¬ y = b := fun e => h (by simp [e])
    have ih := fnd_last b V (fun hm => h (by simp [hm]))
    show (if y = b then _ else if fnd b (V ++ [b]) < 0 then -1 else fnd b (V ++ [b]) + 1) = _
    rw [if_neg h1, ih, if_neg (by omega)]
    simp
theorem pdc_at {H : Type} (z : DataW H) : ∀ (n : Nat) (U : List Pr) (b : Pr), U.length = n → (∀ a ∈ U, okP a) → okP b → U.Nodup → (pdc U : DataW H).atKey (pky b) z = if b ∈ U then .lit (.int .i64 (fnd b U)) else z
  | 0, U, b, h, _, _, _ => by
    have : U = [] := List.length_eq_zero_iff.1 h
    subst this
    simp [pdc, pdF, DataW.atKey]
  | n + 1, U, b, h, hU, hb, hnd => by
    rcases List.eq_nil_or_concat U with rfl | ⟨V, c, rfl⟩
    · simp at h
    · rw [List.concat_eq_append] at *
      have hV : V.length = n := by simp at h; exact h
      rw [List.nodup_append] at hnd
      have ih := pdc_at z n V b hV (fun a ha => hU a (by simp [ha])) hb hnd.1
      rw [pdc_snoc]
      by_cases e : b = c
      · subst e
        have hn : b ∉ V := fun hm => hnd.2.2 b hm b (by simp) rfl
        rw [atKey_put_same (pdc_map n V hV) (pky_key b), if_pos (by simp), fnd_last b V hn]
      · rw [atKey_put_other (fun h2 => e (pky_inj hb (hU c (by simp)) h2)), ih]
        by_cases hm : b ∈ V
        · rw [if_pos hm, if_pos (by simp [hm]), fnd_app b [c] V hm]
        · rw [if_neg hm, if_neg (by simp [hm, e])]
theorem ad_ok (p : Pr) (T : List Pr) (hp : okP p) (h : ∀ a ∈ T, okP a) : ∀ a ∈ (ad p T).1, okP a := by
  unfold ad
  split
  · exact h
  · intro a ha
    rcases List.mem_append.1 ha with h5 | h5
    · exact h a h5
    · simp at h5; subst h5; exact hp
theorem okP_nat (a b : Nat) (ha : a < 256) (hb : b < 256) : okP ((a : Int), (b : Int)) := by
  have h2 : IntKind.i64.min = -9223372036854775808 := by decide
  have h3 : IntKind.i64.max = 9223372036854775807 := by decide
  constructor <;> (simp [Lit.wf]; omega)
end Go.Proofs.YtohhokjlgihbgaaGreatDoor
/- The contract of paired (package props). -/
namespace Go.Proofs.YtohhokjlgihbgaaGreatDoor
open Go.RowKit Go.Maps Go.WideMaps

theorem ne_map107 {w : World} {K n : Nat} {D : DataW Unit} {R : Value → Option (DataW Unit × List MemPlace)} (h : w.ownsMap Tryz.prog 107 R K n D) {c : Array Value} {t : TypeId} {f : Nat × Nat} (hb : w.heap[K]? = some (.cells c t f)) : False := by
  obtain ⟨es, clock, hk, _⟩ := h
  rw [hk] at hb
  cases hb
theorem row_other_map107 {w : World} {B t s n : Nat} {v : Value} {xs : List Value} (h : w.ownsRow B t s v n xs) {K m : Nat} {D : DataW Unit} {R : Value → Option (DataW Unit × List MemPlace)} (hk : w.ownsMap Tryz.prog 107 R K m D) : v.ownBlock ≠ some K := fun e => by
  rcases h.2 with ⟨h0, _⟩ | ⟨g, cap, cur, hv, _, hg, _⟩
  · rw [h0] at e; cases e
  · rw [hv] at e
    have : g = K := by simpa [Value.ownBlock] using e
    subst this
    exact ne_map107 hk hg
theorem map_keep107 {w w' : World} {K n : Nat} {D : DataW Unit} {R : Value → Option (DataW Unit × List MemPlace)} (h : w.ownsMap Tryz.prog 107 R K n D) (e : w'.heap[K]? = w.heap[K]?) : w'.ownsMap Tryz.prog 107 R K n D := by
  obtain ⟨es, clock, hk, F, rest⟩ := h
  exact ⟨es, clock, e.trans hk, F, rest⟩
/-- The known pairs: the map and the list. -/
structure PrA (B K : Nat) (T : List Pr) (tv : Value) (n : Nat) (w : World) : Prop where
  hK : w.ownsMap (H := Unit) Tryz.prog 107 (plainElem Tryz.prog 3) K n (pdc T)
  hR : w.ownsRow B 107 2 tv n (pks T)
  bK : B ≤ K
theorem PrA.below {B K : Nat} {T : List Pr} {tv : Value} {n : Nat} {w w' : World} (h : PrA B K T tv n w) (hb : Below w.heap.size w w') : PrA B K T tv n w' := ⟨map_keep107 h.hK (hb.block K h.hK.lt), own_keep h.hR hb, h.bK⟩
theorem PrA.grown {B K nL : Nat} {T : List Pr} {tv lv : Value} {n : Nat} {xs : List Value} {o : Obj} {w w' : World} (h : PrA B K T tv n w) (hl : w.ownsRow B 86 3 lv nL xs) (hg : (w.alloc o).grownBy w' lv.ownBlock) : PrA B K T tv n w' :=
  ⟨(h.hK.alloc o).kept hg (fun e => row_other_map107 hl h.hK e.symm), World.ownsRow.kept (h.hR.alloc o) hg (by
    rcases own_ne h.hR hl (by decide) with h5 | h5
    · exact .inl h5
    · exact .inr h5), h.bK⟩
def slLen : Value → Nat
  | .slice _ n _ => n
  | _ => 0
theorem fnd_mem (p : Pr) (T : List Pr) (h : p ∈ T) : ∃ n : Nat, fnd p T = (n : Int) ∧ ad p T = (T, n) := by
  obtain ⟨n, h1, _⟩ := fnd_yes p T h
  exact ⟨n, h1, by unfold ad; rw [if_pos h, h1]; rfl⟩

set_option maxHeartbeats 8000000 in
set_option maxRecDepth 100000 in
theorem paired_any (xo yo : Option Addr) (xc yc : Nat) (A D : List Tr) (w : World) (hx : RdK w xo (A.map rkT)) (hy : RdK w yo (D.map rkT)) (hA : Cov 0 A 1114112) (hD : Cov 0 D 1114112) (cA : ∀ g ∈ A, g.2.2 < 256) (cD : ∀ g ∈ D, g.2.2 < 256) (lA : A.length ≤ 100000) (lD : D.length ≤ 100000) (hxc : A.length ≤ xc) (hyc : D.length ≤ yc) :
    Calls Tryz.prog 57 #[.slice xo A.length xc, .slice yo D.length yc] w fun e w' => Below w.heap.size w w' ∧ ∃ tv lv, e = .returned (.tuple #[tv, lv]) ∧ w'.ownsRow w.heap.size 107 2 tv (crP A D).length (pks (crP A D)) ∧ w'.ownsRow w.heap.size 86 3 lv (crL A D).length (rks (crL A D)) := by
  obtain ⟨i0, hi86, hz0, hz1, hz2⟩ := info_parts Tryz.info86
  obtain ⟨j0, hj107, jz0, jz1, jz2⟩ := info_parts Tryz.info107
  have ok0 : okP (0, 0) := ⟨by decide, by decide⟩
  obtain ⟨w1, hrun, ho1, hg1⟩ := (World.ownsMap_made (w.alloc (.cells #[.int .i64 0, .int .i64 0] 107)) Tryz.prog 107 (plainElem (H := Unit) Tryz.prog 3)).update law107 Tryz.underlying132 (by unfold maxLen; omega) (keyOf_prv (0, 0) ok0) (plainElem_int Tryz.underlying3 (a := 0) (by decide))
  rw [World.size_alloc] at hrun ho1 hg1
  have hrun' : (Instr.mapUpdate 132 (.map (some (w.heap.size + 1))) (.agg #[.int .i64 0, .int .i64 0]) (.int .i64 0)).run Tryz.prog ((w.alloc (.cells #[.int .i64 0, .int .i64 0] 107)).alloc (.map #[] 0)) = .ok () w1 := hrun
  have hmm := @run_makeMap Tryz.prog
  obtain ⟨B, hB⟩ : ∃ B, B = w.heap.size := ⟨_, rfl⟩
  have HBE := hid hB
  obtain ⟨K, hK⟩ : ∃ K, K = w.heap.size + 1 := ⟨_, rfl⟩
  have hs0 : w1.heap[w.heap.size]? = some (.cells #[.int .i64 0, .int .i64 0] 107 (0, 0)) := (hg1.block w.heap.size (by simp; omega) (fun e => by injection e with e; omega)).trans ((heap_alloc_old _ _ w.heap.size (by simp)).trans (heap_alloc_new w _))
  have HB1 := hid (show Below B w w1 by
    rw [hB]
    exact (((Below.refl w.heap.size w).alloc (Nat.le_refl _) _).alloc (by simp) _).grown hg1 (by simp; omega) (fun k hk => by injection hk with hk; omega))
  have HP1 := hid (show PrA B K [(0, 0)] (.slice (some ⟨w.heap.size, 0, none⟩) 1 1) 1 w1 from ⟨by rw [hK]; exact ho1, ⟨rfl, .inr ⟨w.heap.size, 1, _, rfl, by omega, hs0, Nat.le_refl _, by unfold maxLen; omega, rfl, rfl⟩⟩, by omega⟩)
  have HIS := hid (iv_start A D hA hD cA cD)
  have HX0 := hid (show ∀ W, Below B w W → RdK W xo (A.map rkT) from fun W hW => hx.below (by rw [← hB]; exact hW))
  have HY0 := hid (show ∀ W, Below B w W → RdK W yo (D.map rkT) from fun W hW => hy.below (by rw [← hB]; exact hW))
  have HKE := hid hK
  obtain ⟨nA, hnA⟩ : ∃ nA, nA = A.length := ⟨_, rfl⟩
  obtain ⟨nD, hnD⟩ : ∃ nD, nD = D.length := ⟨_, rfl⟩
  have HNA := hid hnA
  have HND := hid hnD
  rw [← hnA] at lA hxc ⊢
  rw [← hnD] at lD hyc ⊢
  rw [← hB]
  rw [← hK] at hrun'
  rw [← hB] at HP1
  have hrun2 := hrun'
  rw [hK] at hrun2
  clear hrun hrun' ho1 hg1 hs0 hx hy hA hD cA cD hB hnA hnD hK
  go_enter Tryz.func57, Tryz.ntmps57
  go_wp2
  rw [← HKE.out, ← HBE.out]
  clear hmm hrun2
  go_loopw [0, 1, 6, 8] (fun x y t l wr => ∃ (T : List Pr) (Lc X Y : List Tr) (tp li xo yo : Option Addr) (nT nL nX nY tc lc xc yc ll : Nat), x = .slice xo nX xc ∧ y = .slice yo nY yc ∧ t = .slice tp nT tc ∧ l = .slice li nL lc ∧ nX ≤ xc ∧ nY ≤ yc ∧ Hid (nT = T.length) ∧ Hid (nL = Lc.length) ∧ Hid (nX = X.length) ∧ Hid (nY = Y.length) ∧ Hid (Iv A D T Lc X Y ll) ∧ Hid (T.Nodup ∧ ∀ a ∈ T, okP a) ∧ Hid (PrA B K T (.slice tp nT tc) nT wr) ∧ Hid (wr.ownsRow B 86 3 (.slice li nL lc) nL (rks Lc)) ∧ Hid (∀ W, Below B w W → RdK W xo (X.map rkT)) ∧ Hid (∀ W, Below B w W → RdK W yo (Y.map rkT)) ∧ Hid (Below B w wr)) (fun x y _ _ _ => slLen x + slLen y)
  case atStart => exact ⟨[(0, 0)], [], A, D, some ⟨B, 0, none⟩, none, xo, yo, 1, 0, nA, nD, 1, 0, xc, yc, 0, rfl, rfl, rfl, rfl, hxc, hyc, rfl, rfl, HNA, HND, HIS, ⟨by simp, fun a ha => by simp at ha; subst ha; exact ok0⟩, HP1, World.ownsRow_nil _ _ _ _, HX0, HY0, HB1⟩
  case round =>
    obtain ⟨T, Lc, X, Y, tp, li, xo, yo, nT, nL, nX, nY, tc, lc, xc, yc, ll, rfl, rfl, rfl, rfl, hxc', hyc', HNT, HNL, HNX, HNY, HI, HTN, HP, HOL, HXR, HYR, HB⟩ := hrel
    clear HP1 HB1 HIS HX0 HY0 hxc hyc
    by_cases hlt : ll ≤ 1114111
    · obtain ⟨x, X', y, Y', rfl, rfl, m1, m2, m3, m4, x3, y3, x4, y4, HIN⟩ := iv_step A D T Lc _ _ ll HI.out hlt
      obtain ⟨a, rfl, ha, a0, a1, a2⟩ := HXR.out wr HB.out 0 (rkT x) rfl
      obtain ⟨b, rfl, hb, b0, b1, b2⟩ := HYR.out wr HB.out 0 (rkT y) rfl
      have HXC := hid (show ∀ W, Below B w W → W.cell? a = some (.int .i32 (x.1 : Int)) ∧ W.cell? ⟨a.block, a.off + 1, none⟩ = some (.int .i32 (x.2.1 : Int)) ∧ W.cell? ⟨a.block, a.off + 2, none⟩ = some (.int .i64 (x.2.2 : Int)) from fun W hW => by
        obtain ⟨a', ea, _, q0, q1, q2⟩ := HXR.out W hW 0 (rkT x) rfl
        cases ea
        rw [Nat.zero_mul, add_nil] at q0 q1 q2
        exact ⟨q0, q1, q2⟩)
      have HYC := hid (show ∀ W, Below B w W → W.cell? b = some (.int .i32 (y.1 : Int)) ∧ W.cell? ⟨b.block, b.off + 1, none⟩ = some (.int .i32 (y.2.1 : Int)) ∧ W.cell? ⟨b.block, b.off + 2, none⟩ = some (.int .i64 (y.2.2 : Int)) from fun W hW => by
        obtain ⟨a', ea, _, q0, q1, q2⟩ := HYR.out W hW 0 (rkT y) rfl
        cases ea
        rw [Nat.zero_mul, add_nil] at q0 q1 q2
        exact ⟨q0, q1, q2⟩)
      clear a0 a1 a2 b0 b1 b2
      have j1 : (0 : Int) < (nX : Int) := by have h5 := HNX.out; simp at h5; omega
      have j2 : (0 : Int) < (nY : Int) := by have h5 := HNY.out; simp at h5; omega
      obtain ⟨x0, xh, xk⟩ := x
      obtain ⟨y0, yh, yk⟩ := y
      dsimp only at HXC HYC m1 m2 m3 m4 x3 y3 x4 y4 HIN
      have hm0 := next_less (x0, xh, xk) (y0, yh, yk) X' Y' _ rfl
      obtain ⟨hh, hhe⟩ : ∃ hh, hh = min xh yh := ⟨_, rfl⟩
      dsimp only at hm0
      rw [← hhe] at HIN hm0
      have mx : max (x0 : Int) (y0 : Int) = (ll : Int) := by omega
      have mn : min (xh : Int) (yh : Int) = (hh : Int) := by omega
      have h7 : hh ≤ 1114111 := by omega
      have HPO := hid (okP_nat xk yk x4 y4)
      obtain ⟨X2, hX2⟩ : ∃ X2, X2 = (if xh = hh then X' else (x0, xh, xk) :: X') := ⟨_, rfl⟩
      obtain ⟨Y2, hY2⟩ : ∃ Y2, Y2 = (if yh = hh then Y' else (y0, yh, yk) :: Y') := ⟨_, rfl⟩
      obtain ⟨il1, il2, il3⟩ := iv_len HI.out
      have bX : X'.length < 1000000000 := by have h6 := HNA.out; have h8 := HND.out; simp at il1; omega
      have bY : Y'.length < 1000000000 := by have h6 := HNA.out; have h8 := HND.out; simp at il1; omega
      have bT : nT ≤ 300000 := by have h5 := HNT.out; have h6 := HNA.out; have h8 := HND.out; omega
      have bL : nL ≤ 300000 := by have h5 := HNL.out; have h6 := HNA.out; have h8 := HND.out; omega
      have eX : nX = X'.length + 1 := by have h5 := HNX.out; simpa using h5
      have eY : nY = Y'.length + 1 := by have h5 := HNY.out; simpa using h5
      have HBX := hid (show ∀ W, Below B w W → Calls Tryz.prog 85 #[.slice (some a) nX xc, .int .i32 (hh : Int)] W fun e w' => w' = W ∧ ∃ ao' ac', e = .returned (.slice ao' X2.length ac') ∧ X2.length ≤ ac' ∧ ∀ V, RdK V (some a) (((x0, xh, xk) :: X').map rkT) → RdK V ao' (X2.map rkT) from fun W hW => by
        have h5 := behind_both a xc (x0, xh, xk) X' hh W (HXR.out W hW) bX (by omega)
        rw [eX, hX2]
        exact h5)
      have HBY := hid (show ∀ W, Below B w W → Calls Tryz.prog 85 #[.slice (some b) nY yc, .int .i32 (hh : Int)] W fun e w' => w' = W ∧ ∃ ao' ac', e = .returned (.slice ao' Y2.length ac') ∧ Y2.length ≤ ac' ∧ ∀ V, RdK V (some b) (((y0, yh, yk) :: Y').map rkT) → RdK V ao' (Y2.map rkT) from fun W hW => by
        have h5 := behind_both b yc (y0, yh, yk) Y' hh W (HYR.out W hW) bY (by omega)
        rw [eY, hY2]
        exact h5)
      rw [← hX2, ← hY2] at HIN
      rw [← hX2, ← hY2, ← eX, ← eY] at hm0
      have HIV := hid HIN
      have HM0 := hid hm0
      have HN2 := hid (And.intro (ad_nodup ((xk : Int), (yk : Int)) T HTN.out.1) (ad_ok ((xk : Int), (yk : Int)) T HPO.out HTN.out.2))
      have HSK := hid (show ∀ V, Below B w V → (V.cell? ⟨a.block, a.off + 2, none⟩ = some (.int .i64 (xk : Int)) ∧ V.cell? ⟨b.block, b.off + 2, none⟩ = some (.int .i64 (yk : Int))) from fun V hV => ⟨(HXC.out V hV).2.2, (HYC.out V hV).2.2⟩)
      have HBD := hid (show Below B w wr.drew from HB.out.drew)
      have hBw : B ≤ wr.heap.size := by have h5 := HB.out.size; have h6 := HBE.out; omega
      have HKY := hid (keyOf_prv ((xk : Int), (yk : Int)) HPO.out)
      unfold prv at HKY
      dsimp only at HKY
      have HHS := hid (pdc_has (H := Unit) T.length T ((xk : Int), (yk : Int)) rfl HTN.out.2 HPO.out)
      have HAT := hid (pdc_at (H := Unit) (.lit (.int .i64 0)) T.length T ((xk : Int), (yk : Int)) rfl HTN.out.2 HPO.out HTN.out.1)
      clear HIN hm0 hX2 hY2 hhe m1 m2 m3 m4 il1 il2 bX bY eX eY HI HNX HNY x4 y4
      go_wp2_with fail
      refine wp_region_mixC [(0, 1), (1, 1), (2, 1), (3, 0), (4, 1), (5, 1), (6, 1), (7, 0), (8, 1), (9, 2), (10, 2)] (fun w' => w'.cell? ⟨a.block, a.off + 2, none⟩ = some (.int .i64 (xk : Int)) ∧ w'.cell? ⟨b.block, b.off + 2, none⟩ = some (.int .i64 (yk : Int))) (fun _ => True) (fun j => j == 10) (by kernel_rfl) (by kernel_rfl) (fun j hj => by simp at hj; rw [hj]; decide) rfl (by kernel_rfl) (HSK.out _ HBD.out) trivial ?_
      iterate 9 ((first | refine mixC_s ?_ rfl (by kernel_rfl) (fun w' hS => ?_) ?_ | refine mixC_t ?_ rfl (by kernel_rfl) (fun w' hS => ?_) ?_); (rotate_left; ((first | obtain ⟨s1, s2⟩ := hS | clear hS); go_simp; with_reducible rfl); rotate_left); (try simp only [Act.put, List.setIfInBounds_toArray]))
      refine mixC_go rfl (by kernel_rfl) fun KK hKK => ?_
      go_simp
      refine hKK _ _ (fun _ => HSK.out _ (HBD.out.alloc hBw _)) trivial ?_
      clear hKK KK
      obtain ⟨V0, hV0⟩ : ∃ V0, V0 = (wr.alloc (.cells #[.int .i64 0, .int .i64 0] 107)).drew := ⟨_, rfl⟩
      obtain ⟨pb, hpb⟩ : ∃ pb, pb = wr.heap.size := ⟨_, rfl⟩
      have hv0 : V0.heap[pb]? = some (.cells #[.int .i64 0, .int .i64 0] 107 (0, 0)) := by rw [hV0, hpb]; exact heap_alloc_new wr _
      have k0 : V0.cell? ⟨pb, 0, none⟩ = some (.int .i64 0) := cell_row V0 pb 0 [_, _] 107 _ hv0 rfl
      have k1 : V0.cell? ⟨pb, 1, none⟩ = some (.int .i64 0) := cell_row V0 pb 1 [_, _] 107 _ hv0 rfl
      have f0 := frozen_row hv0 0
      have f1 := frozen_row hv0 1
      have HV0B := hid (show Below wr.heap.size wr V0 by rw [hV0]; exact ((Below.refl wr.heap.size wr).alloc (Nat.le_refl _) _).drew)
      have HV0 := hid hv0
      rw [← hV0, ← hpb]
      have hpw : wr.heap.size ≤ pb := by omega
      clear hv0 hV0 hpb
      refine mixC_go rfl (by kernel_rfl) fun KK hKK => ?_
      go_simp
      refine hKK _ _ (fun h => by cases h) trivial ?_
      clear hKK KK k0 k1 f0 f1
      refine mixC_end (NoPanic.normal ?_)
      obtain ⟨V, hV⟩ : ∃ V, V = (V0.setCell ⟨pb, 0, none⟩ (.int .i64 (xk : Int))).setCell ⟨pb, 1, none⟩ (.int .i64 (yk : Int)) := ⟨_, rfl⟩
      have HVH := hid (show V.heap[pb]? = some (.cells #[.int .i64 (xk : Int), .int .i64 (yk : Int)] 107 (0, 0)) by
        rw [hV]
        exact set_row _ pb 1 [.int .i64 (xk : Int), .int .i64 0] 107 _ (set_row V0 pb 0 [.int .i64 0, .int .i64 0] 107 _ HV0.out))
      have HVB := hid (show Below wr.heap.size wr V by rw [hV]; exact (HV0B.out.setCell (p := ⟨pb, 0, none⟩) hpw _).setCell (p := ⟨pb, 1, none⟩) hpw _)
      rw [← hV]
      have cv0 : V.cell? ⟨pb, 0, none⟩ = some (.int .i64 (xk : Int)) := cell_row V pb 0 [_, _] 107 _ HVH.out rfl
      have cv1 : V.cell? ⟨pb, 1, none⟩ = some (.int .i64 (yk : Int)) := cell_row V pb 1 [_, _] 107 _ HVH.out rfl
      have HPV := hid (HP.out.below HVB.out)
      have HOV := hid (own_keep HOL.out HVB.out)
      have HNB := hid (show (Value.slice tp nT tc).ownBlock ≠ some pb from fun e => by have h5 := (HP.out.hR.lt pb e).2; omega)
      have HBV := hid (show Below B w V from HB.out.trans (HVB.out.mono hBw))
      have hBV : B ≤ V.heap.size := Nat.le_trans hBw HVB.out.size
      clear hV HV0 HV0B HP HOL HB HBD HSK
      by_cases hm : ((xk : Int), (yk : Int)) ∈ T
      · obtain ⟨c, e1, e2⟩ := fnd_mem _ _ hm
        rw [decide_eq_true hm] at HHS
        rw [if_pos hm, e1] at HAT
        have HAV := hid (show ∀ z : Int, (pdc T : DataW Unit).atKey (pky ((xk : Int), (yk : Int))) (.lit (.int .i64 0)) = .lit (.int .i64 z) → (c : Int) = z from fun z hz => by rw [HAT.out] at hz; simpa using hz)
        rw [e2] at HIV HN2
        dsimp only at HIV HN2
        have HPc := hid HPV.out
        have HOc := hid HOV.out
        have HBc := hid HBV.out
        clear hm HAT e1 e2 HTN
        go_wp2_with (at_lookup; refine wpList_lookup_own_ok_int _ rfl _ _ 132 rfl 107 3 .i64 law107 Tryz.underlying132 Tryz.underlying3 (zero3 _) K nT (pdc T) rfl HPV.out.hK _ _ rfl HKY.out ?_; intro z hz hwz; obtain rfl := HAV.out z hz; rw [HHS.out]; clear hz hwz)
        clear HPV HOV HBV cv0 cv1
        obtain ⟨qa0, qa1, _⟩ := HXC.out V HBc.out
        obtain ⟨qb0, qb1, _⟩ := HYC.out V HBc.out
        go_quiet (fail)
        have HBQ := hid (show Below (V).heap.size V ((V).drewN nq) from ⟨rfl, rfl, rfl, Nat.le_refl _, fun _ _ => rfl⟩)
        obtain ⟨W6, hW6⟩ : ∃ W6, W6 = (V).drewN nq := ⟨_, rfl⟩
        rw [← hW6] at HBQ ⊢
        have HP6 := hid (HPc.out.below HBQ.out)
        have HO6 := hid (own_keep HOc.out HBQ.out)
        have hc6 : B ≤ (V).heap.size := by have h5 := HBc.out.size; have h6 := HBE.out; omega
        have HB6 := hid (HBc.out.trans (HBQ.out.mono hc6))
        have hB6 : B ≤ W6.heap.size := Nat.le_trans hc6 HBQ.out.size
        clear hW6 HBQ HPc HOc HBc qa0 qa1 qb0 qb1 mx mn hc6
        go_wp2_with (at_builtin; refine wpList_append_lies _ rfl _ _ 64 rfl B 86 i0 (.agg #[.int .i32 0, .int .i32 0, .int .i64 0]) 3 16 Tryz.underlying64 hi86 hz0 hz1 hz2 rfl (by decide) _ nL (rks Lc) rfl (HO6.out.alloc _) ⟨W6.heap.size, 0, none⟩ 1 1 (rkc ((ll : Int), (hh : Int), (c : Int))) rfl rfl (news_k W6 ((ll : Int), (hh : Int), (c : Int)) 86) (rkc_one _) (by decide) (by unfold maxLen; omega) (by omega) (by simp; omega) (W6.heap.size + 1) (by simp) ?_; intro q5 c5 w5 o5 gr5 hl5 hlt5)
        have HP5 := hid (HP6.out.grown HO6.out gr5)
        have HB5 := hid ((HB6.out.alloc hB6 (.cells #[.int .i32 (ll : Int), .int .i32 (hh : Int), .int .i64 (c : Int)] 86)).grown gr5 (by simp; omega) (fun k hk => (HO6.out.lt k hk).1))
        have HO5 := hid (show w5.ownsRow B 86 3 (.slice (some ⟨q5, 0, none⟩) (nL + 1) c5) (nL + 1) (rks (Lc ++ [(ll, hh, c)])) by rw [rks_snoc]; exact o5)
        clear o5 gr5 hl5 hlt5 HO6 HP6 HB6 hB6
        refine (HBX.out w5 HB5.out).mono ?_
        rintro e w6 ⟨hw, xo2, xc2, rfl, l6, r6⟩
        obtain rfl := hw.symm
        have HR6 := hid r6
        clear r6
        go_wp2_with fail
        refine (HBY.out w5 HB5.out).mono ?_
        rintro e w6 ⟨hw, yo2, yc2, rfl, l7, r7⟩
        obtain rfl := hw.symm
        have HR7 := hid r7
        clear r7
        obtain ⟨nX2, hnX2⟩ : ∃ n, n = X2.length := ⟨_, rfl⟩
        obtain ⟨nY2, hnY2⟩ : ∃ n, n = Y2.length := ⟨_, rfl⟩
        rw [← hnX2] at l6 HM0 ⊢
        rw [← hnY2] at l7 HM0 ⊢
        have HNX2 := hid hnX2
        have HNY2 := hid hnY2
        clear hnX2 hnY2
        go_wp2
        go_roundw
        case rel => exact ⟨T, Lc ++ [(ll, hh, c)], X2, Y2, tp, some ⟨q5, 0, none⟩, xo2, yo2, nT, nL + 1, nX2, nY2, tc, c5, xc2, yc2, hh + 1, rfl, rfl, rfl, rfl, l6, l7, HNT, (by have h5 := HNL.out; show nL + 1 = _; simp; omega), HNX2, HNY2, HIV, HN2, HP5, HO5, (fun W hW => HR6.out W (HXR.out W hW)), (fun W hW => HR7.out W (HYR.out W hW)), HB5⟩
        case measure => exact HM0.out
      · have e2 : ad ((xk : Int), (yk : Int)) T = (T ++ [((xk : Int), (yk : Int))], T.length) := by unfold ad; rw [if_neg hm]
        rw [decide_eq_false hm] at HHS
        rw [if_neg hm] at HAT
        have HAV := hid (show ∀ z : Int, (pdc T : DataW Unit).atKey (pky ((xk : Int), (yk : Int))) (.lit (.int .i64 0)) = .lit (.int .i64 z) → (0 : Int) = z from fun z hz => by rw [HAT.out] at hz; simpa using hz)
        rw [e2, ← HNT.out] at HIV
        rw [e2] at HN2
        dsimp only at HIV HN2
        have HSN := hid (pdc_snoc (H := Unit) T ((xk : Int), (yk : Int)))
        have HPS := hid (pks_snoc T ((xk : Int), (yk : Int)))
        rw [← HNT.out] at HSN
        have wfn : (Lit.int .i64 (nT : Int)).wf = true := by
          have h2 : IntKind.i64.min = -9223372036854775808 := by decide
          have h3 : IntKind.i64.max = 9223372036854775807 := by decide
          simp [Lit.wf]; omega
        have HWF := hid wfn
        have HAP := hid (show ∀ w2 : World, (V.alloc (.cells #[.int .i64 (xk : Int), .int .i64 (yk : Int)] 107)).grownBy w2 (Value.slice tp nT tc).ownBlock → w2.cell? ⟨pb, 0, none⟩ = some (.int .i64 (xk : Int)) ∧ w2.cell? ⟨pb, 1, none⟩ = some (.int .i64 (yk : Int)) ∧ w2.ownsMap (H := Unit) Tryz.prog 107 (plainElem Tryz.prog 3) K nT (pdc T) ∧ w2.ownsRow B 86 3 (.slice li nL lc) nL (rks Lc) ∧ Below B w w2 from fun w2 gr => by
          have hne : some pb ≠ (Value.slice tp nT tc).ownBlock := fun e => HNB.out e.symm
          have e1 : w2.heap[pb]? = some (.cells #[.int .i64 (xk : Int), .int .i64 (yk : Int)] 107 (0, 0)) := (gr.block pb (by simp; have h5 := lt_of_heap HVH.out; omega) hne).trans ((heap_alloc_old V _ pb (lt_of_heap HVH.out)).trans HVH.out)
          refine ⟨cell_row w2 pb 0 [_, _] 107 _ e1 rfl, cell_row w2 pb 1 [_, _] 107 _ e1 rfl, (HPV.out.hK.alloc _).kept gr (fun e => row_other_map107 HPV.out.hR HPV.out.hK e.symm), World.ownsRow.kept (HOV.out.alloc _) gr ?_, (HBV.out.alloc hBV _).grown gr (by simp; omega) (fun k hk => (HPV.out.hR.lt k hk).1)⟩
          rcases own_ne HOV.out HPV.out.hR (by decide) with h5 | h5
          · exact .inl h5
          · exact .inr h5)
        clear hm HAT e2 HTN wfn
        go_wp2_with (first | (at_lookup; refine wpList_lookup_own_ok_int _ rfl _ _ 132 rfl 107 3 .i64 law107 Tryz.underlying132 Tryz.underlying3 (zero3 _) K nT (pdc T) rfl HPV.out.hK _ _ rfl HKY.out ?_; intro z hz hwz; obtain rfl := HAV.out z hz; rw [HHS.out]; clear hz hwz) | (at_builtin; refine wpList_append_lies _ rfl _ _ 103 rfl B 107 j0 (.agg #[.int .i64 0, .int .i64 0]) 2 16 Tryz.underlying103 hj107 jz0 jz1 jz2 rfl (by decide) _ nT (pks T) rfl (HPV.out.hR.alloc _) ⟨V.heap.size, 0, none⟩ 1 1 (pkc ((xk : Int), (yk : Int))) rfl rfl (news_p V ((xk : Int), (yk : Int)) 107) (pkc_one _) (by decide) (by unfold maxLen; omega) (by omega) (by simp; omega) (V.heap.size + 1) (by simp) ?_; intro q2 c2 w2 o2 gr2 hl2 hlt2; obtain ⟨d0, d1, d2, d3, d4⟩ := HAP.out w2 gr2; have HO2 := hid o2; have HM2 := hid d2; have HL2 := hid d3; have HB2 := hid d4; clear o2 gr2 hl2 hlt2 d2 d3 d4) | (at_mapUpdate; refine wpList_mapUpdate_own _ rfl _ _ _ 132 rfl 107 3 law107 Tryz.underlying132 _ K nT (pdc T) rfl HM2.out (by unfold maxLen; omega) _ _ _ rfl rfl HKY.out _ [] (plainElem_int Tryz.underlying3 HWF.out) ?_; intro w4 ho4 hg4))
        have h2B : B ≤ w2.heap.size := by have h5 := HB2.out.size; have h6 := HBE.out; omega
        have r1 := World.ownsRow.kept HO2.out hg4 (.inr (row_other_map107 HO2.out HM2.out))
        rw [← HPS.out] at r1
        rw [← HSN.out] at ho4
        have HPc := hid (show PrA B K (T ++ [((xk : Int), (yk : Int))]) (.slice (some ⟨q2, 0, none⟩) (nT + 1) c2) (nT + 1) w4 from ⟨ho4, r1, HPV.out.bK⟩)
        have HOc := hid (World.ownsRow.kept HL2.out hg4 (.inr (row_other_map107 HL2.out HM2.out)))
        have HBc := hid (HB2.out.grown hg4 h2B (fun k hk => by injection hk with hk; rw [← hk]; exact HPV.out.bK))
        obtain ⟨c, hc⟩ : ∃ c, c = nT := ⟨_, rfl⟩
        rw [← hc] at HIV
        have HCE := hid hc
        have HLN := hid (show nT + 1 = (T ++ [((xk : Int), (yk : Int))]).length by have h5 := HNT.out; simp; omega)
        rw [show Value.int .i64 (nT : Int) = Value.int .i64 (c : Int) by rw [hc]]
        clear r1 ho4 hg4 HPV HOV HBV HO2 HM2 HL2 HB2 HAP cv0 cv1 d0 d1 hc h2B
        obtain ⟨qa0, qa1, _⟩ := HXC.out w4 HBc.out
        obtain ⟨qb0, qb1, _⟩ := HYC.out w4 HBc.out
        go_quiet (fail)
        have HBQ := hid (show Below (w4).heap.size w4 ((w4).drewN nq) from ⟨rfl, rfl, rfl, Nat.le_refl _, fun _ _ => rfl⟩)
        obtain ⟨W6, hW6⟩ : ∃ W6, W6 = (w4).drewN nq := ⟨_, rfl⟩
        rw [← hW6] at HBQ ⊢
        have HP6 := hid (HPc.out.below HBQ.out)
        have HO6 := hid (own_keep HOc.out HBQ.out)
        have hc6 : B ≤ (w4).heap.size := by have h5 := HBc.out.size; have h6 := HBE.out; omega
        have HB6 := hid (HBc.out.trans (HBQ.out.mono hc6))
        have hB6 : B ≤ W6.heap.size := Nat.le_trans hc6 HBQ.out.size
        clear hW6 HBQ HPc HOc HBc qa0 qa1 qb0 qb1 mx mn hc6
        go_wp2_with (at_builtin; refine wpList_append_lies _ rfl _ _ 64 rfl B 86 i0 (.agg #[.int .i32 0, .int .i32 0, .int .i64 0]) 3 16 Tryz.underlying64 hi86 hz0 hz1 hz2 rfl (by decide) _ nL (rks Lc) rfl (HO6.out.alloc _) ⟨W6.heap.size, 0, none⟩ 1 1 (rkc ((ll : Int), (hh : Int), (c : Int))) rfl rfl (news_k W6 ((ll : Int), (hh : Int), (c : Int)) 86) (rkc_one _) (by decide) (by unfold maxLen; omega) (by omega) (by simp; omega) (W6.heap.size + 1) (by simp) ?_; intro q5 c5 w5 o5 gr5 hl5 hlt5)
        have HP5 := hid (HP6.out.grown HO6.out gr5)
        have HB5 := hid ((HB6.out.alloc hB6 (.cells #[.int .i32 (ll : Int), .int .i32 (hh : Int), .int .i64 (c : Int)] 86)).grown gr5 (by simp; omega) (fun k hk => (HO6.out.lt k hk).1))
        have HO5 := hid (show w5.ownsRow B 86 3 (.slice (some ⟨q5, 0, none⟩) (nL + 1) c5) (nL + 1) (rks (Lc ++ [(ll, hh, c)])) by rw [rks_snoc]; exact o5)
        clear o5 gr5 hl5 hlt5 HO6 HP6 HB6 hB6
        refine (HBX.out w5 HB5.out).mono ?_
        rintro e w6 ⟨hw, xo2, xc2, rfl, l6, r6⟩
        obtain rfl := hw.symm
        have HR6 := hid r6
        clear r6
        go_wp2_with fail
        refine (HBY.out w5 HB5.out).mono ?_
        rintro e w6 ⟨hw, yo2, yc2, rfl, l7, r7⟩
        obtain rfl := hw.symm
        have HR7 := hid r7
        clear r7
        obtain ⟨nX2, hnX2⟩ : ∃ n, n = X2.length := ⟨_, rfl⟩
        obtain ⟨nY2, hnY2⟩ : ∃ n, n = Y2.length := ⟨_, rfl⟩
        rw [← hnX2] at l6 HM0 ⊢
        rw [← hnY2] at l7 HM0 ⊢
        have HNX2 := hid hnX2
        have HNY2 := hid hnY2
        clear hnX2 hnY2
        go_wp2
        go_roundw
        case rel => exact ⟨(T ++ [((xk : Int), (yk : Int))]), Lc ++ [(ll, hh, c)], X2, Y2, (some ⟨q2, 0, none⟩), some ⟨q5, 0, none⟩, xo2, yo2, (nT + 1), nL + 1, nX2, nY2, c2, c5, xc2, yc2, hh + 1, rfl, rfl, rfl, rfl, l6, l7, HLN, (by have h5 := HNL.out; show nL + 1 = _; simp; omega), HNX2, HNY2, HIV, HN2, HP5, HO5, (fun W hW => HR6.out W (HXR.out W hW)), (fun W hW => HR7.out W (HYR.out W hW)), HB5⟩
        case measure => exact HM0.out

    · obtain ⟨z1, z2⟩ := iv_end A D T Lc _ _ ll HI.out hlt
      have hX0 : nX = 0 := by have h5 := HNX.out; rw [(iv_nil HI.out).2 hlt] at h5; exact h5
      subst hX0
      have HZ1 := hid z1
      have HZ2 := hid z2
      clear z1 z2 HI
      go_wp2
      go_ret2
      refine ⟨HB.out, _, _, rfl, ?_, ?_⟩
      · rw [HZ1.out, ← HNT.out]; exact HP.out.hR
      · rw [HZ2.out, ← HNL.out]; exact HOL.out
end Go.Proofs.YtohhokjlgihbgaaGreatDoor
/- What the document's Cross needs: And, a set added to a database, the pairs by the sorted beginnings. -/
namespace Go.Proofs.YtohhokjlgihbgaaGreatDoor
open Go.RowKit

section
variable {B Q : Nat} {U : List (List UInt8)} {D : List (List Rg)} {nv sv : Value} {vs : List Value} {w w' : World}
theorem DocAt.added {q2 c2 n : Nat} {xx : List Rg} {vv : Value} {w1 w2 : World} (h : DocAt B Q U D nv sv vs w) (hn : n = D.length) (hb1 : Below w.heap.size w w1) (hvv : w1.ownsRow B 84 2 vv xx.length (rgcs xx)) (o2 : w2.ownsRow B 47 1 (.slice (some ⟨q2, 0, none⟩) (n + 1) c2) (n + 1) (vs ++ [vv])) (gr : w1.grownBy w2 sv.ownBlock) :
    DocAt B Q U (D ++ [xx]) nv (.slice (some ⟨q2, 0, none⟩) (n + 1) c2) (vs ++ [vv]) (w2.setCell ⟨Q, 1, none⟩ (.slice (some ⟨q2, 0, none⟩) (n + 1) c2)) ∧ FarQ Q nv nv w (w2.setCell ⟨Q, 1, none⟩ (.slice (some ⟨q2, 0, none⟩) (n + 1) c2)) ∧ Below B w1 (w2.setCell ⟨Q, 1, none⟩ (.slice (some ⟨q2, 0, none⟩) (n + 1) c2)) := by
  subst hn
  have hs1 := hb1.size
  have k1 : ∀ x, x < w.heap.size → sv.ownBlock ≠ some x → w2.heap[x]? = w.heap[x]? := fun x hx hne => (gr.block x (by omega) (fun e => hne e.symm)).trans (hb1.block x hx)
  have hQ2 : w2.heap[Q]? = some (.cells #[nv, sv] 79 (0, 0)) := (k1 Q (lt_of_heap h.hQ) (row_other h.hS Q _ 79 h.hQ (by decide))).trans h.hQ
  have hl1 : (D ++ [xx]).length = D.length + 1 := by simp
  obtain ⟨v', hv'⟩ : ∃ v', v' = Value.slice (some ⟨q2, 0, none⟩) (D.length + 1) c2 := ⟨_, rfl⟩
  rw [← hv'] at o2 ⊢
  have k2 : ∀ x, x < w.heap.size → x ≠ Q → sv.ownBlock ≠ some x → (w2.setCell ⟨Q, 1, none⟩ v').heap[x]? = w.heap[x]? := fun x hx h1 h2 => (Below.heap_setCell w2 ⟨Q, 1, none⟩ v' x h1).trans (k1 x hx h2)
  have hlen : vs.length = D.length := by have := h.hS.1; omega
  have hsz : w1.heap.size ≤ (w2.setCell ⟨Q, 1, none⟩ v').heap.size := by have h9 := gr.size; simp [World.setCell]; exact h9
  refine ⟨⟨set_row w2 Q 1 [nv, sv] 79 v' hQ2, row_keep h.hN (fun x hx => k2 x (h.hN.lt x hx).2 (fun e => by subst e; exact row_other h.hN x _ 79 h.hQ (by decide) hx) (row_ne h.hN h.hS (by decide) hx)), ?_, fun k l hl => ?_, h.bQ⟩, ⟨fun x hx h1 _ h3 => k2 x hx h1 (fun e => by obtain ⟨cs, hcs⟩ := row_blk h.hS e; exact h3 _ _ hcs), fun _ e => .inl e, by omega⟩, ?_⟩
  · rw [hl1]
    exact ownsRow_setCell_other o2 (a := ⟨Q, 1, none⟩) (row_other o2 Q _ 79 hQ2 (by decide)) v'
  · by_cases e : k < D.length
    · rw [List.getElem?_append_left e] at hl
      obtain ⟨u, h1, h2⟩ := h.hV k l hl
      exact ⟨u, by rw [List.getElem?_append_left (by omega)]; exact h1, row_keep h2 (fun x hx => k2 x (h2.lt x hx).2 (fun e => by subst e; exact row_other h2 x _ 79 h.hQ (by decide) hx) (row_ne h2 h.hS (by decide) hx))⟩
    · rw [List.getElem?_append_right (by omega)] at hl
      have e2 : k - D.length = 0 := by have h5 := (List.getElem?_eq_some_iff.1 hl).1; simp at h5; omega
      rw [e2] at hl
      cases hl
      refine ⟨vv, by rw [List.getElem?_append_right (by omega), hlen, e2]; rfl, row_keep hvv (fun x hx => ?_)⟩
      have hx1 := (hvv.lt x hx).2
      have hnQ : x ≠ Q := fun e => by
        subst e
        exact row_other hvv x _ 79 ((hb1.block x (lt_of_heap h.hQ)).trans h.hQ) (by decide) hx
      have hnS : sv.ownBlock ≠ some x := fun e => by
        obtain ⟨cs, hcs⟩ := row_blk h.hS e
        exact row_other hvv x _ 47 ((hb1.block x (h.hS.lt x e).2).trans hcs) (by decide) hx
      exact (Below.heap_setCell w2 ⟨Q, 1, none⟩ v' x hnQ).trans (gr.block x hx1 (fun e => hnS e.symm))
  · exact ((Below.refl B w1).grown gr (by have h5 := lt_of_heap h.hQ; have h6 := h.bQ; omega) (fun k hk => (h.hS.lt k hk).1)).setCell (p := ⟨Q, 1, none⟩) h.bQ v'
end
theorem ntF_len : ∀ (l : List Rg) (lo : Int), (ntF lo l).length ≤ l.length + 1
  | [], lo => by unfold ntF; split <;> simp
  | g :: t, lo => by
    have h5 := ntF_len t (g.2 + 1)
    unfold ntF
    split <;> simp <;> omega
theorem nt_len (l : List Rg) : (nt l).length ≤ l.length + 1 := by
  unfold nt
  have h5 := ntF_len (nrm l) 0
  have h6 := nrm_len l
  omega
set_option maxRecDepth 100000 in
set_option maxHeartbeats 2000000 in
theorem rand_any (ao bo : Option Addr) (ac bc : Nat) (a b : List Rg) (w : World) (ha : RdR w ao a) (hb : RdR w bo b) (h1 : a.length ≤ 35000) (h2 : b.length ≤ 35000) :
    Calls Tryz.prog 62 #[.slice ao a.length ac, .slice bo b.length bc] w fun e w' => ∃ v, e = .returned v ∧ w'.ownsRow w.heap.size 84 2 v (andN a b).length (rgcs (andN a b)) ∧ Below w.heap.size w w' := by
  have HA := hid (rnot_any ao ac a w ha (by omega))
  have HB := hid (fun W (hW : Below w.heap.size w W) => rnot_any bo bc b W (hb.below hW) (by omega))
  have HRE := hid (rand_eq a b)
  have la := nt_len a
  have lb := nt_len b
  have lo := nrm_len (nt a ++ nt b)
  have HOL := hid (show (orN (nt a) (nt b)).length ≤ 80000 by unfold orN; rw [List.length_append] at lo; omega)
  obtain ⟨x, hx⟩ : ∃ x, x = nt a := ⟨_, rfl⟩
  obtain ⟨y, hy⟩ : ∃ y, y = nt b := ⟨_, rfl⟩
  rw [← hx] at HA HRE la HOL
  rw [← hy] at HB HRE lb HOL
  obtain ⟨na, hna⟩ : ∃ na, na = a.length := ⟨_, rfl⟩
  obtain ⟨nb, hnb⟩ : ∃ nb, nb = b.length := ⟨_, rfl⟩
  rw [← hna] at HA la h1 ⊢
  rw [← hnb] at HB lb h2 ⊢
  clear ha hb hx hy hna hnb lo
  go_enter Tryz.func62, Tryz.ntmps62
  go_wp2_with fail
  refine HA.out.mono ?_
  rintro e w1 ⟨v1, rfl, o1, b1⟩
  obtain ⟨xo, xc, rfl, rx, nx⟩ := rdr_row3 o1
  have HB1 := hid b1
  have HX := hid rx
  have HNX := hid nx
  clear b1 o1 rx nx HA
  go_wp2_with fail
  refine (HB.out w1 HB1.out).mono ?_
  rintro e w2 ⟨v2, rfl, o2, b2⟩
  obtain ⟨yo, yc, rfl, ry, ny⟩ := rdr_row3 o2
  have HOR := hid (ror_any xo yo xc yc x y w2 (HX.out.below b2) ry HNX.out ny (by omega) (by omega))
  have HB2 := hid (HB1.out.trans (b2.mono HB1.out.size))
  obtain ⟨z, hz⟩ : ∃ z, z = orN x y := ⟨_, rfl⟩
  rw [← hz] at HOR HRE HOL
  obtain ⟨nx, hnx⟩ : ∃ nx, nx = x.length := ⟨_, rfl⟩
  obtain ⟨ny', hny⟩ : ∃ ny, ny = y.length := ⟨_, rfl⟩
  rw [← hnx, ← hny] at HOR
  rw [← hnx, ← hny]
  clear b2 o2 ry ny HB hz hnx hny
  go_wp2_with fail
  refine HOR.out.mono ?_
  rintro e w3 ⟨v3, rfl, o3, b3⟩
  obtain ⟨zo, zc, rfl, rz, nz⟩ := rdr_row3 o3
  have HNO := hid (rnot_any zo zc z w3 rz (by have h5 := HOL.out; omega))
  rw [HRE.out] at HNO
  have HB3 := hid (HB2.out.trans (b3.mono HB2.out.size))
  obtain ⟨nz', hnz⟩ : ∃ nz, nz = z.length := ⟨_, rfl⟩
  rw [← hnz] at HNO
  rw [← hnz]
  clear b3 o3 rz nz HOR hnz
  go_wp2_with fail
  refine HNO.out.mono ?_
  rintro e w4 ⟨v4, rfl, o4, b4⟩
  have HO4 := hid (ownsRow_base2 o4 HB3.out.size)
  have HB4 := hid (HB3.out.trans (b4.mono HB3.out.size))
  clear o4 b4 HNO
  go_wp2
  go_ret
  exact ⟨_, rfl, HO4.out, HB4.out⟩
/-- Where the ranges of all sets begin. -/
def bgA (n : Nat) (A : List Tr) : List Int := (dst n A).flatMap bgs
theorem bgA_mem (n : Nat) (A : List Tr) (hc : ∀ g ∈ A, g.2.2 < n) (x : Int) : x ∈ bgA n A ↔ ∃ g ∈ A, x = (g.1 : Int) := by
  unfold bgA dst bgs stc
  simp only [List.mem_flatMap, List.mem_map, List.mem_range]
  constructor
  · rintro ⟨l, ⟨i, hi, rfl⟩, h⟩
    simp only [List.mem_map, List.mem_filter] at h
    obtain ⟨y, ⟨g, ⟨hg, _⟩, rfl⟩, rfl⟩ := h
    exact ⟨g, hg, rfl⟩
  · rintro ⟨g, hg, rfl⟩
    refine ⟨_, ⟨g.2.2, hc g hg, rfl⟩, ?_⟩
    simp only [List.mem_map, List.mem_filter]
    exact ⟨_, ⟨g, ⟨hg, by simp⟩, rfl⟩, rfl⟩
theorem bgA_len (n : Nat) (A : List Tr) : (bgA n A).length ≤ n * A.length := by
  unfold bgA dst
  have gen : ∀ (L : List Nat), ((L.map fun i : Nat => stc (i : Int) A).flatMap bgs).length ≤ L.length * A.length := by
    intro L
    induction L with
    | nil => simp
    | cons i L ih =>
      rw [List.map_cons, List.flatMap_cons, List.length_append, List.length_cons, Nat.succ_mul]
      have h5 : (bgs (stc (i : Int) A)).length ≤ A.length := by
        unfold bgs stc
        rw [List.length_map, List.length_map]
        exact List.length_filter_le _ _
      omega
  have h6 := gen (List.range n)
  simpa using h6
theorem cr_doc {A D : List Tr} (hA : Cov 0 A 1114112) (hD : Cov 0 D 1114112) (n m : Nat) (cA : ∀ g ∈ A, g.2.2 < n) (cD : ∀ g ∈ D, g.2.2 < m) (ys : List Int) (hp : ys.Perm (bgA n A ++ bgA m D)) (hs : ys.Pairwise (· ≤ ·)) :
    ∃ zs : List Nat, ys = zs.map (fun z : Nat => (z : Int)) ∧ (∀ z ∈ zs, z ≤ 1114111) ∧ zs.foldl (fun T (s : Nat) => (ad ((gtp (s : Int) A : Int), (gtp (s : Int) D : Int)) T).1) [(0, 0)] = crP A D := by
  have hm : ∀ x, x ∈ ys ↔ (∃ g ∈ A, x = (g.1 : Int)) ∨ ∃ g ∈ D, x = (g.1 : Int) := fun x => by
    rw [hp.mem_iff, List.mem_append, bgA_mem n A cA, bgA_mem m D cD]
  have hnn : ∀ x ∈ ys, ∃ z : Nat, x = (z : Int) ∧ z ≤ 1114111 := fun x hx => by
    rcases (hm x).1 hx with ⟨g, hg, e⟩ | ⟨g, hg, e⟩
    · have h5 := cov_lt A _ _ g hA hg
      exact ⟨g.1, e, by omega⟩
    · have h5 := cov_lt D _ _ g hD hg
      exact ⟨g.1, e, by omega⟩
  have e1 : ys = (ys.map Int.toNat).map (fun z : Nat => (z : Int)) := by
    rw [List.map_map]
    conv => lhs; rw [← List.map_id ys]
    refine List.map_congr_left (fun x hx => ?_)
    obtain ⟨z, hz, _⟩ := hnn x hx
    simp [hz]
  refine ⟨ys.map Int.toNat, e1, fun z hz => ?_, ?_⟩
  · obtain ⟨x, hx, rfl⟩ := List.mem_map.1 hz
    obtain ⟨z, hz, h5⟩ := hnn x hx
    rw [hz]; simpa using h5
  · refine crP_sorted hA hD _ ?_ (fun x => ?_)
    · rw [List.pairwise_map]
      refine hs.imp_of_mem (fun {a b} ha hb h => ?_)
      obtain ⟨z, hz, _⟩ := hnn a ha
      obtain ⟨z', hz', _⟩ := hnn b hb
      rw [hz, hz'] at h ⊢
      simp at h ⊢
      omega
    · rw [List.mem_map]
      constructor
      · rintro ⟨y, hy, rfl⟩
        rcases (hm y).1 hy with ⟨g, hg, e⟩ | ⟨g, hg, e⟩
        · exact .inl (List.mem_map.2 ⟨g, hg, by rw [e]; rfl⟩)
        · exact .inr (List.mem_map.2 ⟨g, hg, by rw [e]; rfl⟩)
      · rintro (h | h)
        · obtain ⟨g, hg, rfl⟩ := List.mem_map.1 h
          exact ⟨(g.1 : Int), (hm _).2 (.inl ⟨g, hg, rfl⟩), rfl⟩
        · obtain ⟨g, hg, rfl⟩ := List.mem_map.1 h
          exact ⟨(g.1 : Int), (hm _).2 (.inr ⟨g, hg, rfl⟩), rfl⟩
end Go.Proofs.YtohhokjlgihbgaaGreatDoor
/- The contract of Cross (package props). -/
namespace Go.Proofs.YtohhokjlgihbgaaGreatDoor
open Go.RowKit

theorem cat_x (a b : List UInt8) : (⟨a.toArray⟩ : ByteArray) ++ ⟨b.toArray⟩ = ⟨(a ++ b).toArray⟩ := by
  apply ByteArray.ext
  simp
theorem fold_ne : ∀ (L U : List (List UInt8)), U ≠ [] → L.foldl (fun X b => (adn b X).1) U ≠ []
  | [], _, h => h
  | b :: L, U, h => fold_ne L _ (by
    show (adn b U).1 ≠ []
    unfold adn
    split
    · exact h
    · simp)
/-- Is one of the names too long? -/
def lng (U V : List (List UInt8)) (T : List Pr) : Bool := T.any fun p => decide (32 < (nmx U V p).length)
/-- The error of Cross. -/
def crE (U V : List (List UInt8)) (T : List Pr) : Int := if 64 < T.length then 6 else if lng U V (T.drop 1) = true then 40 else if (crN U V T).Nodup then 0 else 8
/-- What Cross gives. -/
def crQ (U V : List (List UInt8)) (T : List Pr) (Lc : List Tr) (w : World) (e : Ending) (w' : World) : Prop := Below w.heap.size w w' ∧
      ((crE U V T ≠ 0 ∧ e = .returned (.tuple #[.pointer none, .int .i64 (crE U V T)])) ∨
       (crE U V T = 0 ∧ ∃ B P K nv lo lc, e = .returned (.tuple #[.pointer (some ⟨P, 0, none⟩), .int .i64 0]) ∧ DbAt B P K (crN U V T) nv (.slice lo Lc.length lc) w' ∧ RdK w' lo (Lc.map rkT)))
theorem DbAt.parts {B P K : Nat} {U : List (List UInt8)} {nv pv : Value} {w : World} (h : DbAt B P K U nv pv w) (pv' : Value) : DbAt B P K U nv pv' (w.setCell ⟨P, 2, none⟩ pv') :=
  ⟨set_row w P 2 [nv, .map (some K), pv] 76 pv' h.hP, h.hK.setCell (a := ⟨P, 2, none⟩) (fun e => ne_map9 h.hK (show w.heap[K]? = _ by rw [e]; exact h.hP)) pv', ownsRow_setCell_other h.hR (a := ⟨P, 2, none⟩) (row_other h.hR P _ 76 h.hP (by decide)) pv', h.bP, h.bK⟩
theorem nms_cell {B P K : Nat} {U : List (List UInt8)} {nv pv : Value} {w : World} (h : DbAt B P K U nv pv w) (i : Nat) (hi : i < U.length) : ∃ g c, nv = .slice (some ⟨g, 0, none⟩) U.length c ∧ w.cell? ⟨g, i, none⟩ = some (.string ⟨(U.getD i []).toArray⟩) := by
  obtain ⟨g, c, h1, h2, _⟩ := h.hR.form (by omega)
  have h3 := h.hR
  subst h1
  refine ⟨g, c, rfl, ?_⟩
  rw [h3.cellAt i (by omega)]
  unfold nms
  rw [List.getElem?_map, List.getElem?_eq_getElem hi]
  simp [List.getD, hi]

set_option maxHeartbeats 8000000 in
set_option maxRecDepth 100000 in
theorem cross_any (Ba Pa Ka Bb Pb Kb B1 B2 : Nat) (U V : List (List UInt8)) (nva nvb : Value) (po qo : Option Addr) (pc qc : Nat) (A D : List Tr) (w : World) (ha : DbAt Ba Pa Ka U nva (.slice po A.length pc) w) (hb : DbAt Bb Pb Kb V nvb (.slice qo D.length qc) w) (ra : w.ownsRow B1 86 3 (.slice po A.length pc) A.length (rks A)) (rb : w.ownsRow B2 86 3 (.slice qo D.length qc) D.length (rks D)) (hA : Cov 0 A 1114112) (hD : Cov 0 D 1114112) (cA : ∀ g ∈ A, g.2.2 < U.length) (cD : ∀ g ∈ D, g.2.2 < V.length) (uA : U.length ≤ 64) (uD : V.length ≤ 64) (u1 : 1 ≤ U.length) (v1 : 1 ≤ V.length) (nU : NamU U) (nV : NamU V) (lA : A.length ≤ 30000) (lD : D.length ≤ 30000) :
    Calls Tryz.prog 28 #[.pointer (some ⟨Pa, 0, none⟩), .pointer (some ⟨Pb, 0, none⟩)] w (crQ U V (crP A D) (crL A D) w) := by
  have HMEM := hid (fun p hp => crP_mem hA hD U.length V.length cA cD u1 v1 p hp)
  have HLEN := hid (crP_len hA hD)
  have HPR := hid (fun W (hW : Below w.heap.size w W) => paired_any po qo pc qc A D W ((rd_own ra).below hW) ((rd_own rb).below hW) hA hD (fun g hg => by have := cA g hg; omega) (fun g hg => by have := cD g hg; omega) (by omega) (by omega) (own_cap' ra) (own_cap' rb))
  have HDA := hid (show ∀ W, Below w.heap.size w W → DbAt Ba Pa Ka U nva (.slice po A.length pc) W from fun W hW => ha.below hW)
  have HDB := hid (show ∀ W, Below w.heap.size w W → DbAt Bb Pb Kb V nvb (.slice qo D.length qc) W from fun W hW => hb.below hW)
  have HSK := hid (show ∀ W, Below w.heap.size w W → (W.cell? ⟨Pa, 2, none⟩ = some (.slice po A.length pc) ∧ W.cell? ⟨Pb, 2, none⟩ = some (.slice qo D.length qc)) from fun W hW => ⟨(HDA.out W hW).c2, (HDB.out W hW).c2⟩)
  have hlT : (crP A D).length ≤ 60001 := by have h5 := HLEN.out; omega
  have HL1 := hid HLEN.out.1
  obtain ⟨T, hT⟩ : ∃ T, T = crP A D := ⟨_, rfl⟩
  obtain ⟨Lc, hLc⟩ : ∃ Lc, Lc = crL A D := ⟨_, rfl⟩
  rw [← hT, ← hLc] at HPR
  rw [← hT] at HMEM HL1 hlT ⊢
  rw [← hLc]
  obtain ⟨nA, hnA⟩ : ∃ nA, nA = A.length := ⟨_, rfl⟩
  obtain ⟨nD, hnD⟩ : ∃ nD, nD = D.length := ⟨_, rfl⟩
  obtain ⟨nT, hnT⟩ : ∃ nT, nT = T.length := ⟨_, rfl⟩
  rw [← hnA, ← hnD] at HPR HSK
  rw [← hnT] at HPR HL1 hlT
  have HNT := hid hnT
  clear ha hb ra rb hA hD cA cD hT hLc lA lD hnA hnD hnT HLEN
  have HBD := hid (bdrew w)
  go_enter Tryz.func28, Tryz.ntmps28
  go_wp2_with fail
  refine wp_region_mixC [(0, 1), (1, 1), (2, 1), (3, 0), (4, 1), (5, 1), (6, 1), (7, 0), (8, 2), (9, 1), (10, 1), (11, 1), (12, 1), (13, 1)] (fun W => W.cell? ⟨Pa, 2, none⟩ = some (.slice po nA pc) ∧ W.cell? ⟨Pb, 2, none⟩ = some (.slice qo nD qc)) (fun _ => True) (fun _ => false) (by kernel_rfl) (by kernel_rfl) (fun j hj => by cases hj) rfl (by kernel_rfl) (HSK.out _ HBD.out) trivial ?_
  iterate 8 ((first | refine mixC_s ?_ rfl (by kernel_rfl) (fun w' hS => ?_) ?_ | refine mixC_t ?_ rfl (by kernel_rfl) (fun w' hS => ?_) ?_); (rotate_left; ((first | obtain ⟨s1, s2⟩ := hS | clear hS); go_simp; with_reducible rfl); rotate_left); (try simp only [Act.put, List.setIfInBounds_toArray]))
  refine mixC_go rfl (by kernel_rfl) fun KK hKK => ?_
  go_simp
  refine (HPR.out _ HBD.out).mono ?_
  rintro e w1 ⟨b1, tv, lv, rfl, o1, o2⟩
  have HB1 := hid (HBD.out.trans b1)
  obtain ⟨tg, tc, rfl, hBt, _⟩ := o1.form (by have h5 := HL1.out; omega)
  obtain ⟨lo, lc, rfl⟩ := own_form o2
  have HO1 := hid o1
  have HO2 := hid o2
  refine hKK _ _ (fun _ => HSK.out w1 HB1.out) trivial ?_
  clear hKK KK b1 o1 o2 HPR
  try simp only [Act.put, List.setIfInBounds_toArray]
  iterate 5 (refine mixC_t ?_ rfl (by kernel_rfl) (fun w' hS => ?_) ?_; (rotate_left; (go_simp; with_reducible rfl); rotate_left); (try simp only [Act.put, List.setIfInBounds_toArray]))
  refine mixC_end (NoPanic.normal ?_)
  by_cases h64 : 64 < nT
  · have h64' : (64 : Int) < (nT : Int) := by omega
    have HE := hid (show crE U V T = 6 by unfold crE; rw [if_pos (by have h5 := HNT.out; omega)])
    clear h64
    go_wp2
    go_ret2
    exact ⟨HB1.out, .inl ⟨by rw [HE.out]; decide, by rw [HE.out]; rfl⟩⟩
  have h64' : ¬ (64 : Int) < (nT : Int) := by omega
  have HBA := hid (bare_any w1)
  have hn1 : 1 ≤ nT := HL1.out
  have k1 : (1 : Int) ≤ (nT : Int) := by omega
  go_wp2_with fail
  refine HBA.out.mono ?_
  rintro e w2 ⟨P, K, nv, rfl, d2, b2⟩
  have HB2 := hid b2
  have HD2 := hid d2
  have htc : nT ≤ tc := own_cap' HO1.out
  have k2 : (nT : Int) ≤ (tc : Int) := by omega
  clear HBA d2 b2
  obtain ⟨L, hL⟩ : ∃ L, L = (T.drop 1).map (nmx U V) := ⟨_, rfl⟩
  have HLL := hid (show L.length + 1 = nT by rw [hL]; have h5 := HNT.out; simp; omega)
  have HLA := hid (show ∀ (k : Nat) (p : Pr), T[k + 1]? = some p → L[k]? = some (nmx U V p) from fun k p h => by rw [hL, List.getElem?_map, List.getElem?_drop, Nat.add_comm 1 k, h]; rfl)
  have HLG := hid (show (∃ b ∈ L, 32 < b.length) → lng U V (T.drop 1) = true from fun ⟨b, hb, h5⟩ => by
    rw [hL] at hb
    obtain ⟨p, hp, rfl⟩ := List.mem_map.1 hb
    unfold lng
    rw [List.any_eq_true]
    exact ⟨p, hp, by simpa using h5⟩)
  have HLS := hid (show (∀ b ∈ L, b.length ≤ 32) → lng U V (T.drop 1) = false from fun h5 => by
    unfold lng
    rw [List.any_eq_false]
    intro p hp
    have h6 := h5 (nmx U V p) (by rw [hL]; exact List.mem_map_of_mem hp)
    simpa using h6)
  have HCN := hid (show crN U V T = [oth] ++ L by unfold crN; rw [hL]; rfl)
  have HNB := hid (show ¬ 64 < T.length by have h5 := HNT.out; omega)
  have HDO := hid (show ∀ W, Below w1.heap.size w1 W → Below w.heap.size w W from fun W hW => HB1.out.trans (hW.mono HB1.out.size))
  obtain ⟨n1, hn1'⟩ : ∃ n1, n1 = nT - 1 := ⟨_, rfl⟩
  have hn1n : n1 + 1 = nT := by omega
  clear hL
  go_wp2
  · rw [← hn1']
    clear hn1'
    go_loopw [37] (fun i wr => ∃ (k : Nat) (Ui : List (List UInt8)) (nvi : Value), k ≤ n1 ∧ i = .int .i64 (k : Int) ∧ Hid (Ui = (L.take k).foldl (fun X b => (adn b X).1) [oth]) ∧ Hid (∀ b ∈ L.take k, b.length ≤ 32) ∧ Hid (Ui.Nodup) ∧ Hid (DbAt w1.heap.size P K Ui nvi (.slice none 0 0) wr) ∧ Hid (Below w1.heap.size w1 wr)) (fun i _ => n1 - (intOf i).toNat)
    case atStart => exact ⟨0, [oth], nv, by omega, rfl, rfl, fun b hb => (by simp at hb), by simp [Hid], HD2, HB2⟩
    case round =>
      obtain ⟨k, Ui, nvi, hk, rfl, HU, HLE, HND, HD, HB⟩ := hrel
      clear HD2 HB2
      have HBW := hid (HDO.out wr HB.out)
      have hwr := HB.out.size
      by_cases hlt : k < n1
      · exfalso
        omega
      · have i3 : ¬ (k : Int) < (n1 : Int) := by omega
        have hkn : k = n1 := by omega
        subst hkn
        have HTK := hid (show L.take k = L from List.take_of_length_le (by have h5 := HLL.out; omega))
        rw [HTK.out] at HU HLE
        obtain ⟨f1, f2, f3⟩ := adn_fold L [oth] (by simp)
        rw [← HU.out] at f1 f2 f3
        have c0 := HD.out.c0
        have hup : 0 < Ui.length := by
          rcases Nat.eq_zero_or_pos Ui.length with h6 | h6
          · have h7 : Ui = [] := List.length_eq_zero_iff.1 h6
            rw [HU.out] at h7
            exact absurd h7 (fold_ne _ _ (by simp))
          · exact h6
        obtain ⟨g0, gc0, hnv, _⟩ := HD.out.hR.form hup
        subst hnv
        have HLF := hid (HLS.out HLE.out)
        by_cases hnd : ([oth] ++ L).Nodup
        · have HUE := hid (f2 hnd)
          have HE := hid (show crE U V T = 0 by unfold crE; rw [if_neg HNB.out, if_neg (by rw [HLF.out]; decide), if_pos (by rw [HCN.out]; exact hnd)])
          have HUL := hid (show Ui.length = nT by rw [HUE.out]; have h5 := HLL.out; simp; omega)
          have HDW := hid HD.out
          rw [HUL.out] at c0 HDW
          have ln : ¬ (nT : Int) < (nT : Int) := by omega
          have HDP := hid (HD.out.parts (.slice lo Lc.length lc))
          rw [HUL.out, HUE.out, ← HCN.out] at HDP
          have c2 := HD.out.c2
          have fz := frozen_row HD.out.hP 2
          have HBF := hid (show Below w.heap.size w (wr.setCell ⟨P, 2, none⟩ (.slice lo Lc.length lc)) from HBW.out.setCell (p := ⟨P, 2, none⟩) (Nat.le_trans HB1.out.size HD.out.bP) _)
          have HRK := hid (show RdK (wr.setCell ⟨P, 2, none⟩ (.slice lo Lc.length lc)) lo (Lc.map rkT) from (rd_own HO2.out).below (HB.out.setCell (p := ⟨P, 2, none⟩) HD.out.bP _))
          clear f1 f2 f3 hnd HU HUE HD HB HND
          go_wp2
          go_ret2
          exact ⟨HBF.out, .inr ⟨HE.out, _, _, _, _, _, _, rfl, HDP.out, HRK.out⟩⟩
        · have HUL := hid (f3 hnd)
          have HE := hid (show crE U V T = 8 by unfold crE; rw [if_neg HNB.out, if_neg (by rw [HLF.out]; decide), if_neg (by rw [HCN.out]; exact hnd)])
          obtain ⟨ul, hul⟩ : ∃ ul, ul = Ui.length := ⟨_, rfl⟩
          rw [← hul] at c0
          have ln : (ul : Int) < (nT : Int) := by have h5 := HUL.out; have h6 := HLL.out; simp at h5; omega
          clear f1 f2 f3 hnd hul
          go_wp2
          go_ret2
          exact ⟨HBW.out, .inl ⟨by rw [HE.out]; decide, by rw [HE.out]; rfl⟩⟩

  · rw [← hn1']
    clear hn1'
    go_loopw [37] (fun i wr => ∃ (k : Nat) (Ui : List (List UInt8)) (nvi : Value), k ≤ n1 ∧ i = .int .i64 (k : Int) ∧ Hid (Ui = (L.take k).foldl (fun X b => (adn b X).1) [oth]) ∧ Hid (∀ b ∈ L.take k, b.length ≤ 32) ∧ Hid (Ui.Nodup) ∧ Hid (DbAt w1.heap.size P K Ui nvi (.slice none 0 0) wr) ∧ Hid (Below w1.heap.size w1 wr)) (fun i _ => n1 - (intOf i).toNat)
    case atStart => exact ⟨0, [oth], nv, by omega, rfl, rfl, fun b hb => (by simp at hb), by simp [Hid], HD2, HB2⟩
    case round =>
      obtain ⟨k, Ui, nvi, hk, rfl, HU, HLE, HND, HD, HB⟩ := hrel
      clear HD2 HB2
      have HBW := hid (HDO.out wr HB.out)
      have hwr := HB.out.size
      by_cases hlt : k < n1
      · have hT2 : k + 1 < T.length := by have h5 := HNT.out; omega
        obtain ⟨pp, hpp⟩ : ∃ pp, T[k + 1]? = some pp := ⟨_, List.getElem?_eq_getElem hT2⟩
        obtain ⟨xa, xb, hpe, hxa, hxb⟩ := HMEM.out pp (List.mem_of_getElem? hpp)
        subst hpe
        have HLk := hid (HLA.out k _ hpp)
        have hor := own_keep HO1.out HB.out
        have p0 : wr.cell? ⟨tg, 2 + k * 2, none⟩ = some (.int .i64 (xa : Int)) := by
          rw [hor.cellAt _ (by omega)]
          have h5 := pks_at T (k + 1) 0 (.int .i64 (xa : Int)) hT2 (by rw [List.getElem?_eq_getElem hT2] at hpp; injection hpp with hpp; rw [hpp]; rfl)
          rw [← h5]; congr 1; omega
        have p1 : wr.cell? ⟨tg, 2 + k * 2 + 1, none⟩ = some (.int .i64 (xb : Int)) := by
          rw [hor.cellAt _ (by omega)]
          have h5 := pks_at T (k + 1) 1 (.int .i64 (xb : Int)) hT2 (by rw [List.getElem?_eq_getElem hT2] at hpp; injection hpp with hpp; rw [hpp]; rfl)
          rw [← h5]; congr 1; omega
        obtain ⟨X0, hX0⟩ : ∃ X0, X0 = wr.alloc (.cells #[.int .i64 (xa : Int), .int .i64 (xb : Int)] 107) := ⟨_, rfl⟩
        have hb0 : Below wr.heap.size wr X0 := by rw [hX0]; exact (Below.refl _ wr).alloc (Nat.le_refl _) _
        have hx0 : X0.heap[wr.heap.size]? = some (.cells #[.int .i64 (xa : Int), .int .i64 (xb : Int)] 107 (0, 0)) := by rw [hX0]; exact heap_alloc_new wr _
        have q0 : X0.cell? ⟨wr.heap.size, 0, none⟩ = some (.int .i64 (xa : Int)) := cell_row X0 _ 0 [_, _] 107 _ hx0 rfl
        have q1 : X0.cell? ⟨wr.heap.size, 1, none⟩ = some (.int .i64 (xb : Int)) := cell_row X0 _ 1 [_, _] 107 _ hx0 rfl
        have HB0 := hid (HB.out.trans (hb0.mono hwr))
        have hda := HDA.out X0 (HDO.out X0 HB0.out)
        have hdb := HDB.out X0 (HDO.out X0 HB0.out)
        have a0 := hda.c0
        have b0 := hdb.c0
        obtain ⟨ga, gca, hna, a1⟩ := nms_cell hda xa hxa
        obtain ⟨gb, gcb, hnb, b1⟩ := nms_cell hdb xb hxb
        rw [hna] at a0
        rw [hnb] at b0
        have HD0 := hid (HD.out.below hb0)
        obtain ⟨b, hb⟩ : ∃ b, b = nmx U V ((xa : Int), (xb : Int)) := ⟨_, rfl⟩
        have hcat : ((⟨(U.getD xa []).toArray⟩ : ByteArray) ++ ⟨#[95]⟩) ++ ⟨(V.getD xb []).toArray⟩ = ⟨b.toArray⟩ := by
          have h5 := cat_x (U.getD xa []) [95]
          have h6 := cat_x (U.getD xa [] ++ [95]) (V.getD xb [])
          rw [show (⟨#[95]⟩ : ByteArray) = ⟨[95].toArray⟩ from rfl, h5, h6, hb]
          unfold nmx
          simp
        have HBL := hid (show b.length ≤ 65 by
          rw [hb]
          have h5 := nam_pos _ (nU _ (List.getElem_mem hxa))
          have h6 := nam_pos _ (nV _ (List.getElem_mem hxb))
          unfold nmx
          have e1 : U.getD ((xa : Int), (xb : Int)).1.toNat [] = U[xa] := by simp [List.getD, hxa]
          have e2 : V.getD ((xa : Int), (xb : Int)).2.toNat [] = V[xb] := by simp [List.getD, hxb]
          rw [e1, e2]; simp; omega)
        have HBS := hid (show (⟨b.toArray⟩ : ByteArray).size = b.length by show b.toArray.size = _; simp)
        rw [← hb] at HLk
        obtain ⟨ua, hua⟩ : ∃ ua, ua = U.getD xa [] := ⟨_, rfl⟩
        obtain ⟨vb, hvb⟩ : ∃ vb, vb = V.getD xb [] := ⟨_, rfl⟩
        have hul : ua.length ≤ 32 := by
          have h5 := nam_pos _ (nU _ (List.getElem_mem hxa))
          have e1 : ua = U[xa] := by rw [hua]; simp [List.getD, hxa]
          rw [e1]; exact h5.2
        have hvl : vb.length ≤ 32 := by
          have h5 := nam_pos _ (nV _ (List.getElem_mem hxb))
          have e1 : vb = V[xb] := by rw [hvb]; simp [List.getD, hxb]
          rw [e1]; exact h5.2
        have hu1 : ¬ 9223372036854775807 < ua.length + 1 := by omega
        have hu2 : ¬ 9223372036854775807 < ua.length + 1 + vb.length := by omega
        rw [← hua] at a1 hcat
        rw [← hvb] at b1 hcat
        obtain ⟨nU', hnU'⟩ : ∃ n, n = U.length := ⟨_, rfl⟩
        obtain ⟨nV', hnV'⟩ : ∃ n, n = V.length := ⟨_, rfl⟩
        rw [← hnU'] at a0 hxa
        rw [← hnV'] at b0 hxb
        have i3 : (k : Int) < (n1 : Int) := by omega
        have i0 : (0 : Int) ≤ (k : Int) := by omega
        have xa0 : (0 : Int) ≤ (xa : Int) := by omega
        have xb0 : (0 : Int) ≤ (xb : Int) := by omega
        have xa1 : (xa : Int) < (nU' : Int) := by omega
        have xb1 : (xb : Int) < (nV' : Int) := by omega
        have HTS := hid (show L.take (k + 1) = L.take k ++ [b] by rw [List.take_add_one, HLk.out]; rfl)
        have HX0 := hid hX0
        clear hor hb0 hx0 hda hdb hna hnb hua hvb hnU' hnV' hpp hT2 HB HD hX0 hb
        go_wp2_with fail
        rw [← HX0.out]
        have HS0 := hid (show X0.drew.cell? ⟨Pa, 0, none⟩ = some (.slice (some ⟨ga, 0, none⟩) nU' gca) ∧ X0.drew.cell? ⟨wr.heap.size, 0, none⟩ = some (.int .i64 (xa : Int)) ∧ X0.drew.cell? ⟨ga, xa, none⟩ = some (.string ⟨ua.toArray⟩) ∧ X0.drew.cell? ⟨Pb, 0, none⟩ = some (.slice (some ⟨gb, 0, none⟩) nV' gcb) ∧ X0.drew.cell? ⟨wr.heap.size, 1, none⟩ = some (.int .i64 (xb : Int)) ∧ X0.drew.cell? ⟨gb, xb, none⟩ = some (.string ⟨vb.toArray⟩) from ⟨a0, q0, a1, b0, q1, b1⟩)
        clear a0 q0 a1 b0 q1 b1 p0 p1
        refine wp_region_mixC [(0, 1), (1, 1), (2, 1), (3, 0), (4, 1), (5, 0), (6, 1), (7, 0), (8, 1), (9, 1), (10, 1), (11, 1), (12, 0), (13, 1), (14, 0), (15, 1), (16, 0), (17, 1), (18, 1)] (fun W => W.cell? ⟨Pa, 0, none⟩ = some (.slice (some ⟨ga, 0, none⟩) nU' gca) ∧ W.cell? ⟨wr.heap.size, 0, none⟩ = some (.int .i64 (xa : Int)) ∧ W.cell? ⟨ga, xa, none⟩ = some (.string ⟨ua.toArray⟩) ∧ W.cell? ⟨Pb, 0, none⟩ = some (.slice (some ⟨gb, 0, none⟩) nV' gcb) ∧ W.cell? ⟨wr.heap.size, 1, none⟩ = some (.int .i64 (xb : Int)) ∧ W.cell? ⟨gb, xb, none⟩ = some (.string ⟨vb.toArray⟩)) (fun _ => True) (fun _ => false) (by kernel_rfl) (by kernel_rfl) (fun j hj => by cases hj) rfl (by kernel_rfl) HS0.out trivial ?_
        iterate 19 ((first | refine mixC_s ?_ rfl (by kernel_rfl) (fun w' hS => ?_) ?_ | refine mixC_t ?_ rfl (by kernel_rfl) (fun w' hS => ?_) ?_); (rotate_left; ((first | obtain ⟨s1, s2, s3, s4, s5, s6⟩ := hS | clear hS); go_simp; with_reducible rfl); rotate_left); (try simp only [Act.put, List.setIfInBounds_toArray]))
        refine mixC_end (NoPanic.normal ?_)
        have HBd := hid (show Below w1.heap.size w1 X0.drew from HB0.out.drew)
        have HDd := hid (show DbAt w1.heap.size P K Ui nvi (.slice none 0 0) X0.drew from HD0.out.below (bdrew X0))
        have hs0 : w1.heap.size ≤ X0.drew.heap.size := HBd.out.size
        have HUL := hid (show Ui.length ≤ 1000 by
          have h5 := (adn_fold (L.take k) [oth] (by simp)).1
          rw [← HU.out] at h5
          simp at h5
          have h6 := HLL.out
          omega)
        clear HS0 HD0 HB0
        by_cases hlo : 32 < b.length
        · have hlo' : (32 : Int) < (b.length : Int) := by omega
          have HE := hid (show crE U V T = 40 by unfold crE; rw [if_neg HNB.out, if_pos (HLG.out ⟨b, List.mem_of_getElem? HLk.out, hlo⟩)])
          have HBF := hid (HDO.out _ HBd.out)
          clear hlo
          go_wp2
          go_ret2
          exact ⟨HBF.out, .inl ⟨by rw [HE.out]; decide, by rw [HE.out]; rfl⟩⟩
        · have hlo' : ¬ (32 : Int) < (b.length : Int) := by omega
          have HEN := hid (enter_any w1.heap.size P K Ui nvi (.slice none 0 0) b X0.drew HDd.out hs0 (by omega) HND.out (by have h5 := HUL.out; omega))
          have HLE2 := hid (show ∀ y ∈ L.take (k + 1), y.length ≤ 32 from fun y hy => by
            rw [HTS.out] at hy
            rcases List.mem_append.1 hy with h5 | h5
            · exact HLE.out y h5
            · simp at h5; subst h5; omega)
          have HU2 := hid (show (adn b Ui).1 = (L.take (k + 1)).foldl (fun X b => (adn b X).1) [oth] by rw [HTS.out, List.foldl_append, ← HU.out]; rfl)
          have HN2 := hid (adn_nodup b Ui HND.out)
          clear hlo
          go_wp2_with fail
          refine HEN.out.mono ?_
          rintro e w5 ⟨rfl, b5, nv5, d5, _⟩
          have HB5 := hid (HBd.out.trans b5)
          have HD5 := hid d5
          clear b5 d5 HEN
          go_wp2
          go_roundw
          case rel => exact ⟨k + 1, (adn b Ui).1, nv5, by omega, by go_num, HU2, HLE2, HN2, HD5, HB5⟩
          case measure => simp [intOf]; omega
      · have i3 : ¬ (k : Int) < (n1 : Int) := by omega
        have hkn : k = n1 := by omega
        subst hkn
        have HTK := hid (show L.take k = L from List.take_of_length_le (by have h5 := HLL.out; omega))
        rw [HTK.out] at HU HLE
        obtain ⟨f1, f2, f3⟩ := adn_fold L [oth] (by simp)
        rw [← HU.out] at f1 f2 f3
        have c0 := HD.out.c0
        have hup : 0 < Ui.length := by
          rcases Nat.eq_zero_or_pos Ui.length with h6 | h6
          · have h7 : Ui = [] := List.length_eq_zero_iff.1 h6
            rw [HU.out] at h7
            exact absurd h7 (fold_ne _ _ (by simp))
          · exact h6
        obtain ⟨g0, gc0, hnv, _⟩ := HD.out.hR.form hup
        subst hnv
        have HLF := hid (HLS.out HLE.out)
        by_cases hnd : ([oth] ++ L).Nodup
        · have HUE := hid (f2 hnd)
          have HE := hid (show crE U V T = 0 by unfold crE; rw [if_neg HNB.out, if_neg (by rw [HLF.out]; decide), if_pos (by rw [HCN.out]; exact hnd)])
          have HUL := hid (show Ui.length = nT by rw [HUE.out]; have h5 := HLL.out; simp; omega)
          have HDW := hid HD.out
          rw [HUL.out] at c0 HDW
          have ln : ¬ (nT : Int) < (nT : Int) := by omega
          have HDP := hid (HD.out.parts (.slice lo Lc.length lc))
          rw [HUL.out, HUE.out, ← HCN.out] at HDP
          have c2 := HD.out.c2
          have fz := frozen_row HD.out.hP 2
          have HBF := hid (show Below w.heap.size w (wr.setCell ⟨P, 2, none⟩ (.slice lo Lc.length lc)) from HBW.out.setCell (p := ⟨P, 2, none⟩) (Nat.le_trans HB1.out.size HD.out.bP) _)
          have HRK := hid (show RdK (wr.setCell ⟨P, 2, none⟩ (.slice lo Lc.length lc)) lo (Lc.map rkT) from (rd_own HO2.out).below (HB.out.setCell (p := ⟨P, 2, none⟩) HD.out.bP _))
          clear f1 f2 f3 hnd HU HUE HD HB HND
          go_wp2
          go_ret2
          exact ⟨HBF.out, .inr ⟨HE.out, _, _, _, _, _, _, rfl, HDP.out, HRK.out⟩⟩
        · have HUL := hid (f3 hnd)
          have HE := hid (show crE U V T = 8 by unfold crE; rw [if_neg HNB.out, if_neg (by rw [HLF.out]; decide), if_neg (by rw [HCN.out]; exact hnd)])
          obtain ⟨ul, hul⟩ : ∃ ul, ul = Ui.length := ⟨_, rfl⟩
          rw [← hul] at c0
          have ln : (ul : Int) < (nT : Int) := by have h5 := HUL.out; have h6 := HLL.out; simp at h5; omega
          clear f1 f2 f3 hnd hul
          go_wp2
          go_ret2
          exact ⟨HBW.out, .inl ⟨by rw [HE.out]; decide, by rw [HE.out]; rfl⟩⟩
end Go.Proofs.YtohhokjlgihbgaaGreatDoor
