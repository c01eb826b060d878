/- What leading keeps: in memory, and what it means. -/
import Derived.Test.YtmgoedcaeemilaaDoorKit7
import Derived.Test.YtmgoedcaeemilaaDoorAim7
namespace Go.Proofs.YtmgoedcaeemilaaDoor
open Go.RowKit

structure LI (w wr : World) (bx : Obj) (B g gl n : Nat) (M : List (List Int)) (Rv : List Value) (bs : List Bool) (qo : Option Addr) (qm qc : Nat) (q : List Int) : Prop where
  low : Below (w.heap.size + 1) (w.alloc bx) wr
  tbl : Tbl wr B g n 28 3 1 (M.map i64s) Rv
  mrk : wr.heap[gl]? = some (.cells (bls bs).toArray 4)
  len : qm = q.length
  que : wr.ownsRow B 3 1 (.slice qo qm qc) qm (i64s q)
  ap : ∀ (p : Nat) (u : Value) (b : Nat), Rv[p]? = some u → u.ownBlock = some b → (Value.slice qo qm qc).ownBlock ≠ some b
  hB : B ≤ wr.heap.size
  g0 : w.heap.size + 1 ≤ g
  gl0 : w.heap.size + 1 ≤ gl
  glB : gl < B
  ne : gl ≠ g
section
variable {w wr : World} {bx : Obj} {B g gl n : Nat} {M : List (List Int)} {Rv : List Value} {bs : List Bool} {qo : Option Addr} {qm qc : Nat} {q : List Int}
theorem LI.mark (h : LI w wr bx B g gl n M Rv bs qo qm qc q) (s : Nat) : LI w (wr.setCell ⟨gl, s, none⟩ (.bool true)) bx B g gl n M Rv (bs.set s true) qo qm qc q := by
  have ho : ∀ b, b ≠ gl → (wr.setCell ⟨gl, s, none⟩ (.bool true)).heap[b]? = wr.heap[b]? := fun b hb => heap_setCell_other wr ⟨gl, s, none⟩ b _ hb
  refine ⟨h.low.setCell (p := ⟨gl, s, none⟩) h.gl0 _, h.tbl.keep (ho g (Ne.symm h.ne)) (fun v hv b hb => ho b ?_), ?_, h.len, own_same h.que (fun k hk _ => ho k ?_), h.ap, ?_, h.g0, h.gl0, h.glB, h.ne⟩
  · obtain ⟨t, ht⟩ := List.mem_iff_getElem?.1 hv
    obtain ⟨m, xs, _, h1⟩ := h.tbl.own ht
    have := (h1.lt b hb).1
    have := h.glB
    omega
  · rw [heap_setCell_same wr gl s _ 4 _ h.mrk, List.setIfInBounds_toArray, bls_set]
  · have := (h.que.lt k hk).1
    have := h.glB
    omega
  · have h1 := h.hB
    have h2 := (h.low.setCell (p := ⟨gl, s, none⟩) h.gl0 (.bool true)).size
    simp
    exact h1
theorem LI.mcell (h : LI w wr bx B g gl n M Rv bs qo qm qc q) {s : Nat} {b : Bool} (hb : bs[s]? = some b) : wr.cell? ⟨gl, s, none⟩ = some (.bool b) ∧ wr.frozen? ⟨gl, s, none⟩ = false := by
  refine ⟨?_, frozen_of_row wr gl s _ 4 h.mrk⟩
  rw [cell_of_row wr gl s _ 4 (0, 0) h.mrk, List.getElem?_toArray, bls_at, hb]
  rfl
/-- The queue grows. -/
theorem LI.push (h : LI w wr bx B g gl n M Rv bs qo qm qc q) {x : Int} {g5 ec5 : Nat} {w5 : World} {o : Obj} (ho : w5.ownsRow B 3 1 (.slice (some ⟨g5, 0, none⟩) (qm + 1) ec5) (qm + 1) (i64s (q ++ [x]))) (hg : (wr.alloc o).grownBy w5 (Value.slice qo qm qc).ownBlock) (hl : (Value.slice qo qm qc).ownBlock = some g5 ∨ g5 = wr.heap.size + 1) :
    LI w w5 bx B g gl n M Rv bs (some ⟨g5, 0, none⟩) (qm + 1) ec5 (q ++ [x]) := by
  have hsz : wr.heap.size + 1 ≤ w5.heap.size := by have := hg.size; simpa using this
  have hk : ∀ k, k < wr.heap.size → (Value.slice qo qm qc).ownBlock ≠ some k → w5.heap[k]? = wr.heap[k]? := fun k h1 h2 => by
    rw [hg.block k (by simp; omega) (fun e => h2 e.symm), Below.heap_alloc wr o k h1]
  have hBk : ∀ k, (Value.slice qo qm qc).ownBlock = some k → B ≤ k := fun k e => (h.que.lt k e).1
  refine ⟨?_, h.tbl.keep (hk g (lt_of h.tbl.row) (fun e => ?_)) (fun v hv b hb => ?_), (hk gl (lt_of h.mrk) (fun e => ?_)).trans h.mrk, by rw [h.len]; simp, ho, fun p u b hu hb e => ?_, ?_, h.g0, h.gl0, h.glB, h.ne⟩
  · have hs := h.low.size
    simp at hs
    exact (h.low.alloc (by omega) o).grown hg (by simp; omega) fun k e => by
      have h1 := hBk k e
      have h2 := h.glB
      have h3 := h.gl0
      omega
  · have := hBk g e
    have := h.tbl.low
    omega
  · obtain ⟨t, ht⟩ := List.mem_iff_getElem?.1 hv
    obtain ⟨m, xs, _, h1⟩ := h.tbl.own ht
    exact hk b (h1.lt b hb).2 (h.ap t v b ht hb)
  · have := hBk gl e
    have := h.glB
    omega
  · have e1 : g5 = b := Option.some.inj e
    subst e1
    rcases hl with h1 | h1
    · exact h.ap p u g5 hu hb h1
    · obtain ⟨m, xs, _, h2⟩ := h.tbl.own hu
      have := (h2.lt g5 hb).2
      omega
  · have := h.hB
    omega
/-- A row of the table grows. -/
theorem LI.row (h : LI w wr bx B g gl n M Rv bs qo qm qc q) {x : Int} {t m g5 ec5 : Nat} {l : List Int} {v : Value} {w5 : World} {o : Obj} (hM : M[t]? = some l) (hv : Rv[t]? = some v) (hm : l.length = m) (ho : w5.ownsRow B 3 1 (.slice (some ⟨g5, 0, none⟩) (m + 1) ec5) (m + 1) (i64s l ++ [.int .i64 x])) (hg : (wr.alloc o).grownBy w5 v.ownBlock) (hl : v.ownBlock = some g5 ∨ g5 = wr.heap.size + 1) :
    LI w (w5.setCell ⟨g, t, none⟩ (.slice (some ⟨g5, 0, none⟩) (m + 1) ec5)) bx B g gl n (adL M t x) (Rv.set t (.slice (some ⟨g5, 0, none⟩) (m + 1) ec5)) bs qo qm qc q := by
  have hsz : wr.heap.size + 1 ≤ w5.heap.size := by have := hg.size; simpa using this
  have hk : ∀ k, k < wr.heap.size → v.ownBlock ≠ some k → w5.heap[k]? = wr.heap[k]? := fun k h1 h2 => by
    rw [hg.block k (by simp; omega) (fun e => h2 e.symm), Below.heap_alloc wr o k h1]
  obtain ⟨m', xs', hc', hown⟩ := h.tbl.own hv
  have hBk : ∀ k, v.ownBlock = some k → B ≤ k := fun k e => (hown.lt k e).1
  have hC : (M.map i64s)[t]? = some (i64s l) := by rw [List.getElem?_map, hM]; rfl
  have T1 := h.tbl.add (ys := [.int .i64 x]) hC hv rfl (by rw [i64s_len, hm, Nat.mul_one]) ho hk (by rcases hl with h1 | h1; exact .inl h1; exact .inr (by omega))
  have hset : ∀ b, b ≠ g → (w5.setCell ⟨g, t, none⟩ (.slice (some ⟨g5, 0, none⟩) (m + 1) ec5)).heap[b]? = w5.heap[b]? := fun b hb => heap_setCell_other w5 ⟨g, t, none⟩ b _ hb
  have hnq : ∀ k, (Value.slice qo qm qc).ownBlock = some k → v.ownBlock ≠ some k := fun k e e2 => h.ap t v k hv e2 e
  refine ⟨?_, ?_, ?_, h.len, own_same h.que (fun k e hk' => ?_), fun p u b hu hb e => ?_, ?_, h.g0, h.gl0, h.glB, h.ne⟩
  · have hs := h.low.size
    simp at hs
    exact ((h.low.alloc (by omega) o).grown hg (by simp; omega) fun k e => by
      have h1 := hBk k e
      have h2 := h.glB
      have h3 := h.gl0
      omega).setCell (p := ⟨g, t, none⟩) h.g0 _
  · have e : (adL M t x).map i64s = (M.map i64s).set t (i64s l ++ [.int .i64 x]) := map_adL i64s hM (i64s_snoc l x)
    rw [e]
    exact T1
  · rw [hset gl h.ne, hk gl (lt_of h.mrk) (fun e => ?_)]
    · exact h.mrk
    · have := hBk gl e
      have := h.glB
      omega
  · rw [hset k (by have := (h.que.lt k e).1; have := h.tbl.low; omega)]
    exact hk k hk' (hnq k e)
  · rcases set_at hu with ⟨_, rfl⟩ | ⟨_, hu1⟩
    · have e1 : g5 = b := Option.some.inj hb
      subst e1
      rcases hl with h1 | h1
      · exact hnq g5 e h1
      · have := (h.que.lt g5 e).2
        omega
    · exact h.ap p u b hu1 hb e
  · have := h.hB
    simp
    omega
end
/-! what it means -/
theorem cnt_set_false {l : List Bool} {k : Nat} (h : l[k]? = some false) : cnt false (l.set k true) + 1 = cnt false l := cnt_set h
/-- What is marked, and what waits. -/
structure LQ (R : Rw) (aim : Nat → Prop) (n : Nat) (bs : List Bool) (q : List Int) : Prop where
  len : bs.length = n
  of : ∀ x ∈ q, ∃ s : Nat, x = (s : Int) ∧ bs[s]? = some true
  inq : ∀ s : Nat, bs[s]? = some true → (s : Int) ∈ q
  lead : ∀ s : Nat, bs[s]? = some true → Lead R aim s
  few : q.length + cnt false bs ≤ n
theorem LQ.start (R : Rw) (aim : Nat → Prop) (n : Nat) : LQ R aim n (List.replicate n false) [] := by
  have hf : ∀ s : Nat, (List.replicate n false)[s]? ≠ some true := fun s h => by
    rw [List.getElem?_replicate] at h
    split at h <;> cases h
  exact ⟨by simp, fun x hx => (by cases hx), fun s h => absurd h (hf s), fun s h => absurd h (hf s), by have := cnt_le false (List.replicate n false); simp at this ⊢; omega⟩
theorem LQ.push {R : Rw} {aim : Nat → Prop} {n : Nat} {bs : List Bool} {q : List Int} (h : LQ R aim n bs q) {s : Nat} (hs : bs[s]? = some false) (hl : Lead R aim s) : LQ R aim n (bs.set s true) (q ++ [(s : Int)]) := by
  have hlt := (List.getElem?_eq_some_iff.1 hs).1
  have hset : ∀ t : Nat, (bs.set s true)[t]? = some true ↔ t = s ∨ bs[t]? = some true := fun t => by
    rw [List.getElem?_set]
    by_cases e : s = t
    · subst e; simp [hlt]
    · rw [if_neg e]
      constructor
      · exact fun h => .inr h
      · rintro (h | h)
        · exact absurd h.symm e
        · exact h
  refine ⟨by rw [List.length_set]; exact h.len, fun x hx => ?_, fun t ht => ?_, fun t ht => ?_, ?_⟩
  · rcases List.mem_append.1 hx with h1 | h1
    · obtain ⟨t, rfl, h2⟩ := h.of x h1
      exact ⟨t, rfl, (hset t).2 (.inr h2)⟩
    · exact ⟨s, List.mem_singleton.1 h1, (hset s).2 (.inl rfl)⟩
  · rcases (hset t).1 ht with rfl | h1
    · simp
    · exact List.mem_append_left _ (h.inq t h1)
  · rcases (hset t).1 ht with rfl | h1
    · exact hl
    · exact h.lead t h1
  · have h1 := cnt_set_false hs
    have h2 := h.few
    rw [List.length_append]
    simp
    omega
/-- From where one comes to each state, as far as the rows have been gone through. -/
structure BkI (R : Rw) (n i j : Nat) (M : List (List Int)) : Prop where
  len : M.length = n
  mem : ∀ (t : Nat) (l : List Int), M[t]? = some l → ∀ x : Int, x ∈ l ↔ ∃ (s : Nat) (row : List Int) (k : Nat), x = (s : Int) ∧ R[s]? = some row ∧ row[k]? = some (t : Int) ∧ (s < i ∨ s = i ∧ k < j)
  few : ∀ l ∈ M, l.length ≤ i * 64 + j
theorem BkI.start (R : Rw) (n : Nat) : BkI R n 0 0 (List.replicate n []) := by
  refine ⟨by simp, fun t l hl x => ?_, fun l hl => ?_⟩
  · rw [List.getElem?_replicate] at hl
    split at hl
    · cases hl
      exact ⟨fun h => (by cases h), fun ⟨s, _, k, _, _, _, h⟩ => by omega⟩
    · cases hl
  · rw [(List.mem_replicate.1 hl).2]; simp
theorem BkI.add {R : Rw} {n i j t : Nat} {M : List (List Int)} {row : List Int} (h : BkI R n i j M) (hr : R[i]? = some row) (hj : row[j]? = some (t : Int)) : BkI R n i (j + 1) (adL M t (i : Int)) := by
  refine ⟨by rw [adL_len]; exact h.len, fun u l hl x => ?_, fun l hl => ?_⟩
  · rw [adL_at] at hl
    obtain ⟨l0, h0, rfl⟩ := Option.map_eq_some_iff.1 hl
    have h1 := h.mem u l0 h0 x
    by_cases e : t = u
    · subst e
      rw [if_pos rfl, List.mem_append, h1, List.mem_singleton]
      constructor
      · rintro (⟨s, r, k, h2, h3, h4, h5⟩ | h2)
        · exact ⟨s, r, k, h2, h3, h4, by omega⟩
        · exact ⟨i, row, j, h2, hr, hj, .inr ⟨rfl, by omega⟩⟩
      · rintro ⟨s, r, k, h2, h3, h4, h5⟩
        by_cases e2 : s = i ∧ k = j
        · exact .inr (by rw [h2, e2.1])
        · exact .inl ⟨s, r, k, h2, h3, h4, by omega⟩
    · rw [if_neg e, h1]
      constructor
      · rintro ⟨s, r, k, h2, h3, h4, h5⟩
        exact ⟨s, r, k, h2, h3, h4, by omega⟩
      · rintro ⟨s, r, k, h2, h3, h4, h5⟩
        refine ⟨s, r, k, h2, h3, h4, ?_⟩
        by_cases e2 : s = i ∧ k = j
        · exfalso
          obtain ⟨rfl, rfl⟩ := e2
          rw [hr] at h3
          cases h3
          rw [hj] at h4
          have := Option.some.inj h4
          omega
        · omega
  · obtain ⟨u, hu⟩ := List.mem_iff_getElem?.1 hl
    rw [adL_at] at hu
    obtain ⟨l0, h0, rfl⟩ := Option.map_eq_some_iff.1 hu
    have := h.few l0 (List.mem_of_getElem? h0)
    split
    · rw [List.length_append]; simp; omega
    · omega
theorem BkI.skip {R : Rw} {n i j : Nat} {M : List (List Int)} {row : List Int} (h : BkI R n i j M) (hr : R[i]? = some row) (hj : row[j]? = some (-1)) : BkI R n i (j + 1) M := by
  refine ⟨h.len, fun u l hl x => ?_, fun l hl => by have := h.few l hl; omega⟩
  rw [h.mem u l hl x]
  constructor
  · rintro ⟨s, r, k, h2, h3, h4, h5⟩
    exact ⟨s, r, k, h2, h3, h4, by omega⟩
  · rintro ⟨s, r, k, h2, h3, h4, h5⟩
    refine ⟨s, r, k, h2, h3, h4, ?_⟩
    by_cases e2 : s = i ∧ k = j
    · exfalso
      obtain ⟨rfl, rfl⟩ := e2
      rw [hr] at h3
      cases h3
      rw [hj] at h4
      have := Option.some.inj h4
      omega
    · omega
theorem BkI.next {R : Rw} {n i : Nat} {M : List (List Int)} {row : List Int} (h : BkI R n i row.length M) (hr : R[i]? = some row) (h64 : row.length ≤ 64) : BkI R n (i + 1) 0 M := by
  refine ⟨h.len, fun u l hl x => ?_, fun l hl => by have := h.few l hl; omega⟩
  rw [h.mem u l hl x]
  constructor
  · rintro ⟨s, r, k, h2, h3, h4, h5⟩
    exact ⟨s, r, k, h2, h3, h4, by omega⟩
  · rintro ⟨s, r, k, h2, h3, h4, h5⟩
    refine ⟨s, r, k, h2, h3, h4, ?_⟩
    rcases h5 with h5 | h5
    · by_cases e : s = i
      · subst e
        rw [hr] at h3
        cases h3
        exact .inr ⟨rfl, (List.getElem?_eq_some_iff.1 h4).1⟩
      · exact .inl (by omega)
    · omega
/-- All that waited has been looked at: what is marked is all that leads. -/
theorem LQ.done {R : Rw} {aim : Nat → Prop} {n i j : Nat} {bs : List Bool} {q : List Int} {M : List (List Int)} (h : LQ R aim n bs q) (hM : BkI R n i j M) (hi : R.length ≤ i) (hR : R.length = n) (ha : ∀ s, aim s → bs[s]? = some true) (hrow : ∀ (s t : Nat) (row : List Int), R[s]? = some row → (t : Int) ∈ row → t < n)
    (hp : ∀ (t : Nat) (l : List Int), (t : Int) ∈ q → M[t]? = some l → ∀ x ∈ l, ∃ s : Nat, x = (s : Int) ∧ bs[s]? = some true) (s : Nat) : bs[s]? = some true ↔ Lead R aim s := by
  refine ⟨h.lead s, fun hl => ?_⟩
  refine Lead.least (A := fun s => bs[s]? = some true) ha (fun s t row hr ht htr => ?_) hl
  have htn := hrow s t row hr ht
  have hMt : M[t]? = some (M[t]'(by rw [hM.len]; exact htn)) := List.getElem?_eq_getElem _
  obtain ⟨k, hk⟩ := List.mem_iff_getElem?.1 ht
  have hsl := (List.getElem?_eq_some_iff.1 hr).1
  obtain ⟨s', h1, h2⟩ := hp t _ (h.inq t htr) hMt (s : Int) ((hM.mem t _ hMt s).2 ⟨s, row, k, rfl, hr, hk, .inl (by omega)⟩)
  have e : s = s' := by omega
  subst e
  exact h2
end Go.Proofs.YtmgoedcaeemilaaDoor
