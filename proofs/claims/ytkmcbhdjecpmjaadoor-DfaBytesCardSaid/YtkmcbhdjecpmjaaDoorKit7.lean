/- Rows of one's own: numbers, bools, tables of rows that grow by themselves. -/
import Derived.Test.YtkmcbhdjecpmjaaDoorRows7
import Derived.Laws.MakeOwn
namespace Go.Proofs.YtkmcbhdjecpmjaaDoor
open Go.RowKit
variable {B : Nat}

def i64s (l : List Int) : List Value := l.map fun z => .int .i64 z
theorem i64s_len (l : List Int) : (i64s l).length = l.length := by simp [i64s]
theorem i64s_at (l : List Int) (k : Nat) : (i64s l)[k]? = (l[k]?).map fun z => .int .i64 z := by simp [i64s]
theorem i64s_one (l : List Int) : ∀ u ∈ i64s l, u.oneCell' = true := fun u hu => by
  obtain ⟨z, _, rfl⟩ := List.mem_map.1 hu
  rfl
theorem i64s_snoc (l : List Int) (z : Int) : i64s (l ++ [z]) = i64s l ++ [.int .i64 z] := by simp [i64s]
/-- The row that lies at a slice: its cells. -/
theorem own_at {w : World} {vo : Option Addr} {m vc : Nat} {l : List Int} (h : w.ownsRow B 3 1 (.slice vo m vc) m (i64s l)) {i : Nat} {x : Int} (hi : l[i]? = some x) : ∃ g, vo = some ⟨g, 0, none⟩ ∧ B ≤ g ∧ g < w.heap.size ∧ w.cell? ⟨g, i, none⟩ = some (.int .i64 x) := by
  have hil := (List.getElem?_eq_some_iff.1 hi).1
  have hl := h.1
  rw [i64s_len] at hl
  rcases h.2 with ⟨_, h0⟩ | ⟨g, cap, cur, hv, hb, hg, _⟩
  · omega
  · simp only [Value.slice.injEq, true_and] at hv
    obtain ⟨rfl, rfl⟩ := hv
    refine ⟨g, rfl, hb, (Array.getElem?_eq_some_iff.1 hg).1, ?_⟩
    rw [h.cellAt i (by omega), i64s_at, hi]
    rfl
theorem rdi_own {B m vc : Nat} {w : World} {vo : Option Addr} {l : List Int} (h : w.ownsRow B 3 1 (.slice vo m vc) m (i64s l)) : RdI w vo l := fun k z hk => by
  obtain ⟨g, e, _, hg, hc⟩ := own_at h hk
  exact ⟨_, e, hg, by rw [Addr.add_lit, Nat.zero_add]; exact hc⟩
theorem news_one (w : World) (v : Value) (T : TypeId) : ∀ j u, [v][j]? = some u → (w.alloc (.cells #[v] T)).cell? ((⟨w.heap.size, 0, none⟩ : Addr).add j) = some u := fun j u hj => by
  match j, hj with
  | 0, hj =>
    have : v = u := by simpa using hj
    subst this
    rw [show (⟨w.heap.size, 0, none⟩ : Addr).add 0 = ⟨w.heap.size, 0, none⟩ by unfold Addr.add; split <;> simp_all]
    rw [cell_of_row _ w.heap.size 0 #[v] T (0, 0) (show (w.heap.push _)[w.heap.size]? = _ by simp)]
    rfl
  | j + 1, hj => simp at hj
theorem own_mono' {w : World} {B B' e size n : Nat} {v : Value} {xs : List Value} (h : w.ownsRow B e size v n xs) (hb : B' ≤ B) : w.ownsRow B' e size v n xs := by
  refine ⟨h.1, ?_⟩
  rcases h.2 with h' | ⟨q, cap, cur, hv, hB, rest⟩
  · exact .inl h'
  · exact .inr ⟨q, cap, cur, hv, Nat.le_trans hb hB, rest⟩
theorem lt_of {W : World} {k : Nat} {o : Obj} (h : W.heap[k]? = some o) : k < W.heap.size := (Array.getElem?_eq_some_iff.1 h).1
theorem own_same {W W' : World} {B e size m : Nat} {v : Value} {xs : List Value} (h : W.ownsRow B e size v m xs) (hh : ∀ k, v.ownBlock = some k → k < W.heap.size → W'.heap[k]? = W.heap[k]?) : W'.ownsRow B e size v m xs := by
  refine ⟨h.1, ?_⟩
  rcases h.2 with h' | ⟨q, cap, cur, hv, hB, hg, rest⟩
  · exact .inl h'
  · exact .inr ⟨q, cap, cur, hv, hB, (hh q (by rw [hv]; rfl) (lt_of hg)).trans hg, rest⟩
theorem own_type {W : World} {B e size m : Nat} {v : Value} {xs : List Value} (h : W.ownsRow B e size v m xs) {k : Nat} (hk : v.ownBlock = some k) : ∃ c, W.heap[k]? = some (.cells c e) := by
  rcases h.2 with ⟨rfl, _⟩ | ⟨q, cap, cur, rfl, hB, hg, _⟩
  · cases hk
  · cases hk; exact ⟨cur, hg⟩
/-- Rising lists with the same members are the same. -/
theorem rising_eq : ∀ {a b : List Int}, a.Pairwise (· < ·) → b.Pairwise (· < ·) → (∀ x, x ∈ a ↔ x ∈ b) → a = b
  | [], [], _, _, _ => rfl
  | [], y :: b, _, _, h => by have := (h y).2 (.head _); simp at this
  | x :: a, [], _, _, h => by have := (h x).1 (.head _); simp at this
  | x :: a, y :: b, ha, hb, h => by
    rw [List.pairwise_cons] at ha hb
    have e : x = y := by
      have h1 := (h x).1 (.head _)
      have h2 := (h y).2 (.head _)
      rcases List.mem_cons.1 h1 with h1 | h1
      · exact h1
      · rcases List.mem_cons.1 h2 with h2 | h2
        · exact h2.symm
        · have := ha.1 y h2; have := hb.1 x h1; omega
    subst e
    rw [rising_eq ha.2 hb.2 fun z => ?_]
    constructor
    · intro hz
      rcases List.mem_cons.1 ((h z).1 (.tail _ hz)) with h1 | h1
      · have := ha.1 z hz; omega
      · exact h1
    · intro hz
      rcases List.mem_cons.1 ((h z).2 (.tail _ hz)) with h1 | h1
      · have := hb.1 z hz; omega
      · exact h1
def bls (l : List Bool) : List Value := l.map fun b => .bool b
theorem bls_len (l : List Bool) : (bls l).length = l.length := by simp [bls]
theorem bls_at (l : List Bool) (k : Nat) : (bls l)[k]? = (l[k]?).map fun b => .bool b := by simp [bls]
theorem bls_set (l : List Bool) (k : Nat) (b : Bool) : (bls l).set k (.bool b) = bls (l.set k b) := by simp [bls, List.map_set]
theorem bls_one (l : List Bool) : ∀ u ∈ bls l, u.oneCell' = true := fun u hu => by
  obtain ⟨z, _, rfl⟩ := List.mem_map.1 hu
  rfl
/-- The numbers of a list of bools. -/
def tru (bs : List Bool) (x : Int) : Prop := 0 ≤ x ∧ bs[x.toNat]? = some true
theorem tru_nat {bs : List Bool} {k : Nat} : tru bs (k : Int) ↔ bs[k]? = some true := by unfold tru; simp
theorem tru_lt {bs : List Bool} {x : Int} (h : tru bs x) : 0 ≤ x ∧ x < (bs.length : Int) := by
  have := (List.getElem?_eq_some_iff.1 h.2).1
  have := h.1
  omega
theorem bls_falses (n : Nat) : (madeCells (Value.bool false).cells (n * 1)).toList = bls (List.replicate n false) := by
  rw [Nat.mul_one, show (Value.bool false).cells = #[.bool false] from rfl, toList_madeCells_one]
  simp [bls]
/-- A slice of bools, nil or not, reads as a list. -/
def RdB (w : World) (ao : Option Addr) (l : List Bool) : Prop :=
  ∀ (k : Nat) (b : Bool), l[k]? = some b → ∃ a : Addr, ao = some a ∧ a.block < w.heap.size ∧ w.cell? (a.add k) = some (.bool b)
theorem RdB.below {w w' : World} {ao : Option Addr} {l : List Bool} (h : RdB w ao l) (hb : Below w.heap.size w w') : RdB w' ao l := fun k z hk => by
  obtain ⟨a, h1, h2, h3⟩ := h k z hk
  exact ⟨a, h1, Nat.lt_of_lt_of_le h2 hb.size, (hb.cell (p := a.add k) (by rw [add_blk]; exact h2)).trans h3⟩
theorem rdb_own {B m vc : Nat} {w : World} {vo : Option Addr} {l : List Bool} (h : w.ownsRow B 4 1 (.slice vo m vc) m (bls l)) : RdB w vo l := fun i x hi => by
  have hil := (List.getElem?_eq_some_iff.1 hi).1
  have hl := h.1
  rw [bls_len] at hl
  rcases h.2 with ⟨_, h0⟩ | ⟨g, cap, cur, hv, hb, hg, _⟩
  · omega
  · simp only [Value.slice.injEq, true_and] at hv
    obtain ⟨rfl, rfl⟩ := hv
    refine ⟨_, rfl, (Array.getElem?_eq_some_iff.1 hg).1, ?_⟩
    rw [Addr.add_lit, Nat.zero_add, h.cellAt i (by omega), bls_at, hi]
    rfl
theorem ownb_at {B m vc g : Nat} {w : World} {l : List Bool} (h : w.ownsRow B 4 1 (.slice (some ⟨g, 0, none⟩) m vc) m (bls l)) {i : Nat} {b : Bool} (hi : l[i]? = some b) : w.cell? ⟨g, i, none⟩ = some (.bool b) := by
  have hil := (List.getElem?_eq_some_iff.1 hi).1
  have hl := h.1
  rw [bls_len] at hl
  rw [h.cellAt i (by omega), bls_at, hi]
  rfl
/-- What a call leaves that tells a set of states: a rising list in a row of its own. -/
def SetQ (w : World) (n : Nat) (A : Int → Prop) (e : Ending) (w' : World) : Prop :=
  ∃ (T : List Int) (vo : Option Addr) (vc : Nat), e = .returned (.slice vo T.length vc) ∧ w'.ownsRow w.heap.size 3 1 (.slice vo T.length vc) T.length (i64s T) ∧ T.Pairwise (· < ·) ∧ (∀ x ∈ T, 0 ≤ x ∧ x < (n : Int)) ∧ (∀ x, x ∈ T ↔ A x) ∧ Below w.heap.size w w'
theorem cell_bl {w w' : World} {p : Addr} {v : Value} (hb : Below w.heap.size w w') (h : w.cell? p = some v) : w'.cell? p = some v := (hb.cell (World.block_lt_of_cell? w p h)).trans h
theorem own_slice {w : World} {B e sz m : Nat} {v : Value} {xs : List Value} (h : w.ownsRow B e sz v m xs) : ∃ vo vc, v = .slice vo m vc := by
  rcases h.2 with ⟨rfl, rfl⟩ | ⟨g, cap, cur, rfl, _⟩
  · exact ⟨none, 0, rfl⟩
  · exact ⟨_, _, rfl⟩
theorem Tryd.info3 : (Tryd.prog.info? 3).map (fun i => (i.zero, i.size, i.bytes)) = some (some (.int .i64 0), 1, 8) := by kernel_rfl
theorem Tryd.info4 : (Tryd.prog.info? 4).map (fun i => (i.zero, i.size, i.bytes)) = some (some (.bool false), 1, 1) := by kernel_rfl
theorem Tryd.info28 : (Tryd.prog.info? 28).map (fun i => (i.zero, i.size, i.bytes)) = some (some (.slice none 0 0), 1, 24) := by kernel_rfl
theorem mkS {t e : TypeId} {i : TypeInfo} {z : Value} {by_ : Nat} (ht : Tryd.prog.underlying t = some (.slice e)) (hi : Tryd.prog.info? e = some i) (hz : i.zero = some z) (h1 : i.size = 1) (h2 : i.bytes = by_) (hb : by_ ≤ 24) (n : Nat) (hn : n ≤ 1000000) (W : World) :
    (Instr.makeSlice t (.int .i64 (n : Int)) (.int .i64 (n : Int))).run Tryd.prog W = .ok (.slice (some ⟨W.heap.size, 0, none⟩) n n) (W.alloc (.cells (madeCells z.cells n) e)) := by
  have h := run_make (P := Tryd.prog) W t e i z ht hi hz .i64 .i64 (n : Int) (n : Int) (by omega) (Int.le_refl _) (by rw [h2]; have : (by_ : Int) * (n : Int) ≤ 24 * 1000000 := Int.mul_le_mul (by omega) (by omega) (by omega) (by omega); omega) (by omega)
  rw [h1, Nat.mul_one] at h
  simpa using h
/-- One more at place t. -/
def adL {α : Type} (M : List (List α)) (t : Nat) (x : α) : List (List α) := M.modify t (· ++ [x])
theorem adL_len {α : Type} (M : List (List α)) (t : Nat) (x : α) : (adL M t x).length = M.length := by simp [adL]
theorem adL_at {α : Type} (M : List (List α)) (t : Nat) (x : α) (u : Nat) : (adL M t x)[u]? = (M[u]?).map fun l => if t = u then l ++ [x] else l := by
  unfold adL
  rw [List.getElem?_modify]
  by_cases h : t = u <;> simp [h]
theorem map_adL {α : Type} (f : List α → List Value) {M : List (List α)} {t : Nat} {l : List α} {x : α} {ys : List Value} (h : M[t]? = some l) (hf : f (l ++ [x]) = f l ++ ys) : (adL M t x).map f = (M.map f).set t (f l ++ ys) := by
  apply List.ext_getElem?
  intro u
  rw [List.getElem?_map, adL_at]
  by_cases e : t = u
  · subst e
    rw [List.getElem?_set_self (by rw [List.length_map]; exact (List.getElem?_eq_some_iff.1 h).1), h]
    simp [hf]
  · rw [List.getElem?_set_ne e, List.getElem?_map]
    cases M[u]? <;> simp [e]
section
variable {R : List Value}
theorem set_at {p q : Nat} {v' x : Value} (hq : (R.set p v')[q]? = some x) : (q = p ∧ x = v') ∨ (q ≠ p ∧ R[q]? = some x) := by
  by_cases e : q = p
  · subst e
    have hl := (List.getElem?_eq_some_iff.1 hq).1
    rw [List.length_set] at hl
    rw [List.getElem?_set_self hl] at hq
    exact .inl ⟨rfl, (Option.some.inj hq).symm⟩
  · rw [List.getElem?_set_ne (Ne.symm e)] at hq
    exact .inr ⟨e, hq⟩
end
/-- The table lies at g, its rows lie from B on, each by itself; C: their cells. -/
structure Tbl (w : World) (B g n T e sz : Nat) (C : List (List Value)) (R : List Value) : Prop where
  len : C.length = n
  rlen : R.length = n
  low : g < B
  row : w.heap[g]? = some (.cells R.toArray T)
  apart : ∀ (p q : Nat) (u v : Value) (b : Nat), R[p]? = some u → R[q]? = some v → u.ownBlock = some b → v.ownBlock = some b → p = q
  slot : ∀ (t : Nat) (xs : List Value), C[t]? = some xs → ∃ v m, R[t]? = some v ∧ xs.length = m * sz ∧ w.ownsRow B e sz v m xs
section
variable {w w' : World} {B g n T e sz : Nat} {C : List (List Value)} {R : List Value}
theorem Tbl.own (h : Tbl w B g n T e sz C R) {t : Nat} {v : Value} (hv : R[t]? = some v) : ∃ m xs, C[t]? = some xs ∧ w.ownsRow B e sz v m xs := by
  have ht := (List.getElem?_eq_some_iff.1 hv).1
  have h1 := h.rlen
  have h2 := h.len
  obtain ⟨v', m, h3, _, h4⟩ := h.slot t C[t] (List.getElem?_eq_getElem (by omega))
  rw [hv] at h3
  cases h3
  exact ⟨m, _, List.getElem?_eq_getElem (by omega), h4⟩
theorem Tbl.cell (h : Tbl w B g n T e sz C R) {t : Nat} {v : Value} (hv : R[t]? = some v) : w.cell? ⟨g, t, none⟩ = some v ∧ w.frozen? ⟨g, t, none⟩ = false := ⟨by rw [cell_of_row w g t _ T (0, 0) h.row, List.getElem?_toArray]; exact hv, frozen_of_row w g t _ T h.row⟩
/-- All that it has stays. -/
theorem Tbl.keep (h : Tbl w B g n T e sz C R) (hg : w'.heap[g]? = w.heap[g]?) (hk : ∀ v ∈ R, ∀ b, v.ownBlock = some b → w'.heap[b]? = w.heap[b]?) : Tbl w' B g n T e sz C R :=
  ⟨h.len, h.rlen, h.low, hg.trans h.row, h.apart, fun t xs hx => by
    obtain ⟨v, m, h1, h2, h3⟩ := h.slot t xs hx
    exact ⟨v, m, h1, h2, own_same h3 fun k hk' _ => hk v (List.mem_of_getElem? h1) k hk'⟩⟩
theorem Tbl.below (h : Tbl w B g n T e sz C R) (hb : Below w.heap.size w w') : Tbl w' B g n T e sz C R :=
  h.keep (hb.block g (lt_of h.row)) fun v hv b hb' => by
    obtain ⟨t, ht⟩ := List.mem_iff_getElem?.1 hv
    obtain ⟨m, xs, _, h1⟩ := h.own ht
    exact hb.block b (h1.lt b hb').2
/-- A row grows: append's new row, and the store of it. -/
theorem Tbl.add (h : Tbl w B g n T e sz C R) {t m q qc : Nat} {v : Value} {xs ys : List Value} {w8 : World} (hC : C[t]? = some xs) (hv : R[t]? = some v) (hys : ys.length = sz) (hxm : xs.length = m * sz) (ho : w8.ownsRow B e sz (.slice (some ⟨q, 0, none⟩) (m + 1) qc) (m + 1) (xs ++ ys)) (hk : ∀ k, k < w.heap.size → v.ownBlock ≠ some k → w8.heap[k]? = w.heap[k]?) (hq : v.ownBlock = some q ∨ w.heap.size ≤ q) : Tbl (w8.setCell ⟨g, t, none⟩ (.slice (some ⟨q, 0, none⟩) (m + 1) qc)) B g n T e sz (C.set t (xs ++ ys)) (R.set t (.slice (some ⟨q, 0, none⟩) (m + 1) qc)) := by
  have hown := fun {t : Nat} {v : Value} (hv : R[t]? = some v) => h.own hv
  have htl := (List.getElem?_eq_some_iff.1 hv).1
  have hgv : v.ownBlock ≠ some g := fun e' => by
    obtain ⟨_, _, _, h1⟩ := hown hv
    have h2 := (h1.lt g e').1
    have h3 := h.low
    omega
  have hqB : B ≤ q := (ho.lt q rfl).1
  have hg8 : w8.heap[g]? = some (.cells R.toArray T) := (hk g (lt_of h.row) hgv).trans h.row
  have hset : ∀ b, b ≠ g → (w8.setCell ⟨g, t, none⟩ (.slice (some ⟨q, 0, none⟩) (m + 1) qc)).heap[b]? = w8.heap[b]? := fun b hb => heap_setCell_other w8 ⟨g, t, none⟩ b _ (fun e => hb e)
  have key : ∀ {i : Nat} {u : Value}, i ≠ t → R[i]? = some u → u.ownBlock ≠ some q := fun {i u} hi hu e' => by
    rcases hq with h1 | h1
    · exact hi (h.apart i t u v q hu hv e' h1)
    · obtain ⟨_, _, _, h2⟩ := hown hu
      have := (h2.lt q e').2
      omega
  refine ⟨by rw [List.length_set]; exact h.len, by rw [List.length_set]; exact h.rlen, h.low, ?_, fun i j u x b hu hx hbu hbx => ?_, fun i zs hz => ?_⟩
  · rw [heap_setCell_same w8 g t _ T _ hg8, List.setIfInBounds_toArray]
  · rcases set_at hu with ⟨e1, rfl⟩ | ⟨e1, hu1⟩
    · rcases set_at hx with ⟨e2, _⟩ | ⟨e2, hx1⟩
      · exact e1.trans e2.symm
      · have : q = b := Option.some.inj hbu
        subst this
        exact absurd hbx (key e2 hx1)
    · rcases set_at hx with ⟨e2, rfl⟩ | ⟨e2, hx1⟩
      · have : q = b := Option.some.inj hbx
        subst this
        exact absurd hbu (key e1 hu1)
      · exact h.apart i j u x b hu1 hx1 hbu hbx
  · by_cases e' : i = t
    · subst e'
      rw [List.getElem?_set_self (by have h1 := h.len; have h2 := h.rlen; omega)] at hz
      cases hz
      exact ⟨_, m + 1, by rw [List.getElem?_set_self htl], by rw [List.length_append, hys, hxm, Nat.add_mul, Nat.one_mul], own_same ho fun b hb _ => hset b (by have e2 : q = b := Option.some.inj hb; have := h.low; omega)⟩
    · rw [List.getElem?_set_ne (Ne.symm e')] at hz
      obtain ⟨u, m', h1, h2, h3⟩ := h.slot i zs hz
      refine ⟨u, m', by rw [List.getElem?_set_ne (Ne.symm e')]; exact h1, h2, own_same h3 fun b hb hl => ?_⟩
      rw [hset b (by have h4 := (h3.lt b hb).1; have := h.low; omega)]
      exact hk b hl (fun e2 => e' (h.apart i t u v b h1 hv hb e2))
end
theorem Tbl.start {w : World} {B g n T e sz : Nat} (hg : w.heap[g]? = some (.cells (madeCells (Value.slice none 0 0).cells n) T)) (hB : g < B) : Tbl w B g n T e sz (List.replicate n []) (List.replicate n (.slice none 0 0)) := by
  have hm : madeCells (Value.slice none 0 0).cells n = (List.replicate n (Value.slice none 0 0)).toArray := by
    apply Array.ext'
    apply List.ext_getElem?
    intro k
    rw [Array.getElem?_toList, List.toList_toArray, List.getElem?_replicate]
    unfold madeCells
    rw [Array.getElem?_map, Array.getElem?_range]
    split
    · have e : k % (Value.slice none 0 0).cells.size = 0 := Nat.mod_one k
      simp only [Option.map_some, e]
      rfl
    · rfl
  rw [hm] at hg
  refine ⟨by simp, by simp, hB, hg, fun p q u v b hu _ hb => ?_, fun t xs hx => ?_⟩
  · rw [(List.mem_replicate.1 (List.mem_of_getElem? hu)).2] at hb; cases hb
  · have ht := (List.getElem?_eq_some_iff.1 hx).1
    simp at ht
    rw [List.getElem?_replicate, if_pos ht] at hx
    cases hx
    exact ⟨.slice none 0 0, 0, by rw [List.getElem?_replicate, if_pos ht], by simp, World.ownsRow_nil _ _ _ _⟩
end Go.Proofs.YtkmcbhdjecpmjaaDoor
