/- What stands between the rounds of leading. -/
import Derived.Test.YtmgoedcaeemilaaDoorLead0
namespace Go.Proofs.YtmgoedcaeemilaaDoor
open Go.RowKit

/-- While the rows are gone through. -/
def P1 (w wr : World) (bx : Obj) (B g gl n : Nat) (R : Rw) (aim : Nat → Prop) (i j : Nat) (qo : Option Addr) (qm qc : Nat) : Prop :=
  ∃ (M : List (List Int)) (Rv : List Value) (bs : List Bool) (q : List Int), LI w wr bx B g gl n M Rv bs qo qm qc q ∧ BkI R n i j M ∧ LQ R aim n bs q ∧ (∀ s, s < i → aim s → bs[s]? = some true) ∧ (∀ s, i ≤ s → s < n → bs[s]? = some false)
/-- While what waits is gone through. -/
def P2 (w wr : World) (bx : Obj) (B g gl n : Nat) (R : Rw) (aim : Nat → Prop) (M : List (List Int)) (Rv : List Value) (i : Nat) (qo : Option Addr) (qm qc : Nat) : Prop :=
  ∃ (bs : List Bool) (q : List Int), LI w wr bx B g gl n M Rv bs qo qm qc q ∧ LQ R aim n bs q ∧ (∀ s, aim s → bs[s]? = some true) ∧ (∀ (k t : Nat) (l : List Int), k < i → q[k]? = some (t : Int) → M[t]? = some l → ∀ x ∈ l, ∃ s : Nat, x = (s : Int) ∧ bs[s]? = some true)
/-- While those from which one comes to the state t are gone through. -/
def P3 (w wr : World) (bx : Obj) (B g gl n : Nat) (R : Rw) (aim : Nat → Prop) (M : List (List Int)) (Rv : List Value) (i t j : Nat) (l : List Int) (qo : Option Addr) (qm qc : Nat) : Prop :=
  ∃ (bs : List Bool) (q : List Int), LI w wr bx B g gl n M Rv bs qo qm qc q ∧ LQ R aim n bs q ∧ (∀ s, aim s → bs[s]? = some true) ∧ (∀ (k t : Nat) (l : List Int), k < i → q[k]? = some (t : Int) → M[t]? = some l → ∀ x ∈ l, ∃ s : Nat, x = (s : Int) ∧ bs[s]? = some true) ∧ q[i]? = some (t : Int) ∧ (∀ (k : Nat) (x : Int), k < j → l[k]? = some x → ∃ s : Nat, x = (s : Int) ∧ bs[s]? = some true)
section
variable {w wr : World} {bx : Obj} {B g gl n : Nat} {R : Rw} {aim : Nat → Prop} {M : List (List Int)} {Rv : List Value} {i t j : Nat} {l : List Int} {qo : Option Addr} {qm qc : Nat}
theorem P1.small (h : P1 w wr bx B g gl n R aim i j qo qm qc) : qm ≤ n ∧ B ≤ wr.heap.size ∧ Below (w.heap.size + 1) (w.alloc bx) wr := by
  obtain ⟨M, Rv, bs, q, h1, _, h2, _⟩ := h
  exact ⟨by have := h2.few; have := h1.len; omega, h1.hB, h1.low⟩
theorem P2.small (h : P2 w wr bx B g gl n R aim M Rv i qo qm qc) : qm ≤ n ∧ B ≤ wr.heap.size ∧ Below (w.heap.size + 1) (w.alloc bx) wr := by
  obtain ⟨bs, q, h1, h2, _⟩ := h
  exact ⟨by have := h2.few; have := h1.len; omega, h1.hB, h1.low⟩
theorem P3.small (h : P3 w wr bx B g gl n R aim M Rv i t j l qo qm qc) : qm ≤ n ∧ B ≤ wr.heap.size ∧ Below (w.heap.size + 1) (w.alloc bx) wr := by
  obtain ⟨bs, q, h1, h2, _⟩ := h
  exact ⟨by have := h2.few; have := h1.len; omega, h1.hB, h1.low⟩
/-- A class leads nowhere. -/
theorem P1.skip (h : P1 w wr bx B g gl n R aim i j qo qm qc) {row : List Int} (hr : R[i]? = some row) (hj : row[j]? = some (-1)) : P1 w wr bx B g gl n R aim i (j + 1) qo qm qc := by
  obtain ⟨M, Rv, bs, q, h1, h2, h3, h4⟩ := h
  exact ⟨M, Rv, bs, q, h1, h2.skip hr hj, h3, h4⟩
/-- The row of the state to which a class leads. -/
theorem P1.slot (h : P1 w wr bx B g gl n R aim i j qo qm qc) (ht : t < n) (hn : n ≤ 1024) (hi : i < n) (hj : j ≤ 64) : ∃ (ro : Option Addr) (rm rc : Nat) (xs : List Int), wr.cell? ⟨g, t, none⟩ = some (.slice ro rm rc) ∧ rm ≤ 100000 ∧ wr.ownsRow B 3 1 (.slice ro rm rc) rm (i64s xs) ∧
    (∀ W : World, (∀ b, b < wr.heap.size → (Value.slice ro rm rc).ownBlock ≠ some b → W.heap[b]? = wr.heap[b]?) → W.cell? ⟨g, t, none⟩ = some (.slice ro rm rc) ∧ W.frozen? ⟨g, t, none⟩ = false) ∧
    ∀ (row : List Int), R[i]? = some row → row[j]? = some (t : Int) → ∀ (g5 ec5 : Nat) (w5 : World) (o : Obj), w5.ownsRow B 3 1 (.slice (some ⟨g5, 0, none⟩) (rm + 1) ec5) (rm + 1) (i64s xs ++ [.int .i64 (i : Int)]) → (wr.alloc o).grownBy w5 (Value.slice ro rm rc).ownBlock → ((Value.slice ro rm rc).ownBlock = some g5 ∨ g5 = wr.heap.size + 1) →
      P1 w (w5.setCell ⟨g, t, none⟩ (.slice (some ⟨g5, 0, none⟩) (rm + 1) ec5)) bx B g gl n R aim i (j + 1) qo qm qc := by
  obtain ⟨M, Rv, bs, q, h1, h2, h3, h4, h5⟩ := h
  obtain ⟨xs, hx⟩ : ∃ xs, M[t]? = some xs := ⟨_, List.getElem?_eq_getElem (by rw [h2.len]; exact ht)⟩
  obtain ⟨v, m', hv, hm', hown⟩ := h1.tbl.slot t (i64s xs) (by rw [List.getElem?_map, hx]; rfl)
  obtain ⟨ro, rc, rfl⟩ := own_slice hown
  have hm : xs.length = m' := by rw [i64s_len] at hm'; omega
  obtain ⟨c1, c2⟩ := h1.tbl.cell hv
  refine ⟨ro, m', rc, xs, c1, ?_, hown, fun W hW => ?_, fun row hr hj g5 ec5 w5 o ho hg hl => ?_⟩
  · have := h2.few xs (List.mem_of_getElem? hx)
    omega
  · have e : W.heap[g]? = wr.heap[g]? := hW g (lt_of h1.tbl.row) (fun e => by have := (hown.lt g e).1; have := h1.tbl.low; omega)
    exact ⟨(World.cell?_of_block (a := ⟨g, t, none⟩) e).trans c1, (World.frozen?_of_block (a := ⟨g, t, none⟩) e).trans c2⟩
  · exact ⟨_, _, bs, q, h1.row hx hv hm ho hg hl, h2.add hr hj, h3, h4, h5⟩
/-- The mark of the state i. -/
theorem P1.mark (h : P1 w wr bx B g gl n R aim i j qo qm qc) (hi : i < n) {row : List Int} (hr : R[i]? = some row) (hj : row.length = j) (h64 : j ≤ 64) :
    (wr.cell? ⟨gl, i, none⟩ = some (.bool false) ∧ wr.frozen? ⟨gl, i, none⟩ = false) ∧ (wr.setCell ⟨gl, i, none⟩ (.bool true)).heap.size = wr.heap.size ∧ ∃ q : List Int, qm = q.length ∧ (wr.setCell ⟨gl, i, none⟩ (.bool true)).ownsRow B 3 1 (.slice qo qm qc) qm (i64s q) ∧
    (aim i → ∀ (g5 ec5 : Nat) (w5 : World) (o : Obj), w5.ownsRow B 3 1 (.slice (some ⟨g5, 0, none⟩) (qm + 1) ec5) (qm + 1) (i64s q ++ [.int .i64 (i : Int)]) → ((wr.setCell ⟨gl, i, none⟩ (.bool true)).alloc o).grownBy w5 (Value.slice qo qm qc).ownBlock → ((Value.slice qo qm qc).ownBlock = some g5 ∨ g5 = wr.heap.size + 1) → P1 w w5 bx B g gl n R aim (i + 1) 0 (some ⟨g5, 0, none⟩) (qm + 1) ec5) := by
  obtain ⟨M, Rv, bs, q, h1, h2, h3, h4, h5⟩ := h
  have hf := h5 i (Nat.le_refl _) hi
  have hm := h1.mark i
  refine ⟨h1.mcell hf, by simp, q, h1.len, hm.que, fun ha g5 ec5 w5 o ho hg hl => ?_⟩
  subst hj
  rw [← i64s_snoc] at ho
  have hset : ∀ s : Nat, s ≠ i → (bs.set i true)[s]? = bs[s]? := fun s hs => List.getElem?_set_ne (Ne.symm hs)
  refine ⟨M, Rv, bs.set i true, q ++ [(i : Int)], hm.push ho hg (by simpa using hl), h2.next hr h64, h3.push hf (.here ha), fun s hs ha' => ?_, fun s hs hsn => ?_⟩
  · by_cases e : s = i
    · subst e
      rw [List.getElem?_set_self (by rw [h3.len]; exact hi)]
    · rw [hset s e]
      exact h4 s (by omega) ha'
  · rw [hset s (by omega)]
    exact h5 s (by omega) hsn
theorem P1.over (h : P1 w wr bx B g gl n R aim i j qo qm qc) {row : List Int} (hr : R[i]? = some row) (hj : row.length = j) (h64 : j ≤ 64) (ha : ¬ aim i) : P1 w wr bx B g gl n R aim (i + 1) 0 qo qm qc := by
  obtain ⟨M, Rv, bs, q, h1, h2, h3, h4, h5⟩ := h
  subst hj
  refine ⟨M, Rv, bs, q, h1, h2.next hr h64, h3, fun s hs ha' => ?_, fun s hs hsn => h5 s (by omega) hsn⟩
  by_cases e : s = i
  · subst e; exact absurd ha' ha
  · exact h4 s (by omega) ha'
/-- The second part begins. -/
theorem P1.turn (h : P1 w wr bx B g gl n R aim n 0 qo qm qc) (ha : ∀ s, aim s → s < n) : ∃ (M : List (List Int)) (Rv : List Value), BkI R n n 0 M ∧ P2 w wr bx B g gl n R aim M Rv 0 qo qm qc := by
  obtain ⟨M, Rv, bs, q, h1, h2, h3, h4, _⟩ := h
  exact ⟨M, Rv, h2, bs, q, h1, h3, fun s hs => h4 s (ha s hs) hs, fun k t l hk => (by omega)⟩
/-- The next that waits. -/
theorem P2.open (h : P2 w wr bx B g gl n R aim M Rv i qo qm qc) (hM : BkI R n n 0 M) (hi : i < qm) (hn : n ≤ 1024) : ∃ (t gq : Nat) (ro : Option Addr) (rm rc : Nat) (l : List Int), t < n ∧ qo = some ⟨gq, 0, none⟩ ∧ wr.cell? ⟨gq, i, none⟩ = some (.int .i64 (t : Int)) ∧ wr.cell? ⟨g, t, none⟩ = some (.slice ro rm rc) ∧ M[t]? = some l ∧ rm = l.length ∧ rm ≤ 100000 ∧ Rv[t]? = some (.slice ro rm rc) ∧ P3 w wr bx B g gl n R aim M Rv i t 0 l qo qm qc := by
  obtain ⟨bs, q, h1, h2, h3, h4⟩ := h
  have hql : i < q.length := by rw [← h1.len]; exact hi
  obtain ⟨t, ht, hb⟩ := h2.of q[i] (List.getElem_mem hql)
  have hqi : q[i]? = some (t : Int) := by rw [List.getElem?_eq_getElem hql, ht]
  have htn : t < n := by rw [← h2.len]; exact (List.getElem?_eq_some_iff.1 hb).1
  obtain ⟨gq, e1, _, _, hc⟩ := own_at h1.que hqi
  obtain ⟨l, hl⟩ : ∃ l, M[t]? = some l := ⟨_, List.getElem?_eq_getElem (by rw [hM.len]; exact htn)⟩
  obtain ⟨v, m', hv, hm', hown⟩ := h1.tbl.slot t (i64s l) (by rw [List.getElem?_map, hl]; rfl)
  obtain ⟨ro, rc, rfl⟩ := own_slice hown
  have hm : m' = l.length := by rw [i64s_len] at hm'; omega
  exact ⟨t, gq, ro, m', rc, l, htn, e1, hc, (h1.tbl.cell hv).1, hl, hm, by have := hM.few l (List.mem_of_getElem? hl); omega, hv, bs, q, h1, h2, h3, h4, hqi, fun k x hk => (by omega)⟩
/-- One from which one comes there. -/
theorem P3.look (h : P3 w wr bx B g gl n R aim M Rv i t j l qo qm qc) (hM : BkI R n n 0 M) (hR : R.length = n) {ro : Option Addr} {rm rc : Nat} (hv : Rv[t]? = some (.slice ro rm rc)) (hl : M[t]? = some l) (hrm : rm = l.length) (hj : j < rm) : ∃ (s gr : Nat) (b : Bool), s < n ∧ ro = some ⟨gr, 0, none⟩ ∧ wr.cell? ⟨gr, j, none⟩ = some (.int .i64 (s : Int)) ∧ wr.cell? ⟨gl, s, none⟩ = some (.bool b) ∧ wr.frozen? ⟨gl, s, none⟩ = false ∧ (b = true → P3 w wr bx B g gl n R aim M Rv i t (j + 1) l qo qm qc) ∧
    (b = false → qm < n ∧ (wr.setCell ⟨gl, s, none⟩ (.bool true)).heap.size = wr.heap.size ∧ ∃ q : List Int, qm = q.length ∧ (wr.setCell ⟨gl, s, none⟩ (.bool true)).ownsRow B 3 1 (.slice qo qm qc) qm (i64s q) ∧ (∀ (g5 ec5 : Nat) (w5 : World) (o : Obj), w5.ownsRow B 3 1 (.slice (some ⟨g5, 0, none⟩) (qm + 1) ec5) (qm + 1) (i64s q ++ [.int .i64 (s : Int)]) → ((wr.setCell ⟨gl, s, none⟩ (.bool true)).alloc o).grownBy w5 (Value.slice qo qm qc).ownBlock → ((Value.slice qo qm qc).ownBlock = some g5 ∨ g5 = wr.heap.size + 1) → P3 w w5 bx B g gl n R aim M Rv i t (j + 1) l (some ⟨g5, 0, none⟩) (qm + 1) ec5)) := by
  obtain ⟨bs, q, h1, h2, h3, h4, h5, h6⟩ := h
  have hjl : j < l.length := by omega
  have hlj : l[j]? = some l[j] := List.getElem?_eq_getElem hjl
  obtain ⟨s, row, k, hs, hr, hk, _⟩ := (hM.mem t l hl l[j]).1 (List.getElem_mem hjl)
  rw [hs] at hlj
  have hsn : s < n := by rw [← hR]; exact (List.getElem?_eq_some_iff.1 hr).1
  obtain ⟨v, m', hv', hm', hown⟩ := h1.tbl.slot t (i64s l) (by rw [List.getElem?_map, hl]; rfl)
  rw [hv] at hv'
  cases hv'
  have hm : m' = rm := by rw [i64s_len] at hm'; omega
  subst hm
  obtain ⟨gr, e1, _, _, hc⟩ := own_at hown hlj
  obtain ⟨b, hb⟩ : ∃ b, bs[s]? = some b := ⟨_, List.getElem?_eq_getElem (by rw [h2.len]; exact hsn)⟩
  obtain ⟨c1, c2⟩ := h1.mcell hb
  have htq : bs[t]? = some true := by
    obtain ⟨t', e, h⟩ := h2.of _ (List.mem_of_getElem? h5)
    have : t = t' := by omega
    subst this
    exact h
  refine ⟨s, gr, b, hsn, e1, hc, c1, c2, fun e => ?_, fun e => ?_⟩
  · subst e
    refine ⟨bs, q, h1, h2, h3, h4, h5, fun k x hk hx => ?_⟩
    by_cases ek : k = j
    · subst ek
      rw [hlj] at hx
      cases hx
      exact ⟨s, rfl, hb⟩
    · exact h6 k x (by omega) hx
  · subst e
    have hm := h1.mark s
    have hlead : Lead R aim s := .on hr (List.mem_of_getElem? hk) (h2.lead t htq)
    have hset : ∀ u : Nat, bs[u]? = some true → (bs.set s true)[u]? = some true := fun u hu => by
      by_cases e : u = s
      · subst e
        rw [List.getElem?_set_self (by rw [h2.len]; exact hsn)]
      · rw [List.getElem?_set_ne (Ne.symm e)]
        exact hu
    have hqn : ∀ k, k < q.length → ∀ x : Int, (q ++ [(s : Int)])[k]? = some x → q[k]? = some x := fun k hk x hx => by rwa [List.getElem?_append_left hk] at hx
    have hil : i < q.length := (List.getElem?_eq_some_iff.1 h5).1
    refine ⟨?_, by simp, q, h1.len, hm.que, fun g5 ec5 w5 o ho hg hlo => ?_⟩
    · have h7 := cnt_set_false hb
      have h8 := h2.few
      have := h1.len
      omega
    · rw [← i64s_snoc] at ho
      refine ⟨bs.set s true, q ++ [(s : Int)], hm.push ho hg (by simpa using hlo), h2.push hb hlead, fun u hu => hset u (h3 u hu), fun k u l' hk hu hl' x hx => ?_, ?_, fun k x hk hx => ?_⟩
      · obtain ⟨y, hy1, hy2⟩ := h4 k u l' hk (hqn k (by omega) _ hu) hl' x hx
        exact ⟨y, hy1, hset y hy2⟩
      · rw [List.getElem?_append_left hil]
        exact h5
      · by_cases ek : k = j
        · subst ek
          rw [hlj] at hx
          cases hx
          exact ⟨s, rfl, by rw [List.getElem?_set_self (by rw [h2.len]; exact hsn)]⟩
        · obtain ⟨y, hy1, hy2⟩ := h6 k x (by omega) hx
          exact ⟨y, hy1, hset y hy2⟩
theorem P3.shut (h : P3 w wr bx B g gl n R aim M Rv i t j l qo qm qc) (hl : M[t]? = some l) (hj : l.length ≤ j) : P2 w wr bx B g gl n R aim M Rv (i + 1) qo qm qc ∧ i + 1 ≤ qm := by
  obtain ⟨bs, q, h1, h2, h3, h4, h5, h6⟩ := h
  have hil : i < q.length := (List.getElem?_eq_some_iff.1 h5).1
  refine ⟨⟨bs, q, h1, h2, h3, fun k u l' hk hu hl' x hx => ?_⟩, by have := h1.len; omega⟩
  by_cases ek : k = i
  · subst ek
    rw [h5] at hu
    have e : t = u := by have := Option.some.inj hu; omega
    subst e
    rw [hl] at hl'
    cases hl'
    obtain ⟨a, ha⟩ := List.mem_iff_getElem?.1 hx
    exact h6 a x (by have := (List.getElem?_eq_some_iff.1 ha).1; omega) ha
  · exact h4 k u l' (by omega) hu hl' x hx
theorem P2.done (h : P2 w wr bx B g gl n R aim M Rv i qo qm qc) (hM : BkI R n n 0 M) (hR : R.length = n) (hi : qm ≤ i) (hrow : ∀ (s t : Nat) (row : List Int), R[s]? = some row → (t : Int) ∈ row → t < n) : ∃ bs : List Bool, bs.length = n ∧ wr.heap[gl]? = some (.cells (bls bs).toArray 4) ∧ (∀ s : Nat, bs[s]? = some true ↔ Lead R aim s) ∧ w.heap.size + 1 ≤ gl := by
  obtain ⟨bs, q, h1, h2, h3, h4⟩ := h
  refine ⟨bs, h2.len, h1.mrk, h2.done hM (by omega) hR h3 hrow fun t l ht hl x hx => ?_, h1.gl0⟩
  obtain ⟨k, hk⟩ := List.mem_iff_getElem?.1 ht
  exact h4 k t l (by have := (List.getElem?_eq_some_iff.1 hk).1; have := h1.len; omega) hk hl x hx
end
end Go.Proofs.YtmgoedcaeemilaaDoor
