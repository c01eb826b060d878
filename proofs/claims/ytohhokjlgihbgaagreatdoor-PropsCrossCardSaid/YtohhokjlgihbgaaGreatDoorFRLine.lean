/- The document's database in memory: its names, and of each class its set. -/
import Derived.Test.YtohhokjlgihbgaaGreatDoorFBare
import Derived.Test.YtohhokjlgihbgaaGreatDoorFROr
import Derived.Test.YtohhokjlgihbgaaGreatDoorFRead
import Derived.Test.YtohhokjlgihbgaaGreatDoorFEvMath
import Derived.Test.YtohhokjlgihbgaaGreatDoorFNot
import Derived.Test.YtohhokjlgihbgaaGreatDoorFRCut
import Derived.Test.YtohhokjlgihbgaaGreatDoorFItem
import Derived.Test.YtohhokjlgihbgaaGreatDoorFReadMath
import Derived.Test.YtohhokjlgihbgaaGreatDoorFBkMath2
import Derived.Test.YtohhokjlgihbgaaGreatDoorFRows2
import Derived.Test.YtohhokjlgihbgaaGreatDoorFRSpaced
import Derived.Test.YtohhokjlgihbgaaGreatDoorFRdMath2
import Derived.Test.YtohhokjlgihbgaaGreatDoorFRTrim5
import Derived.Test.YtohhokjlgihbgaaGreatDoorFName
namespace Go.Proofs.YtohhokjlgihbgaaGreatDoor
open Go.RowKit

structure DocAt (B Q : Nat) (U : List (List UInt8)) (D : List (List Rg)) (nv sv : Value) (vs : List Value) (w : World) : Prop where
  hQ : w.heap[Q]? = some (.cells #[nv, sv] 79 (0, 0))
  hN : w.ownsRow B 9 1 nv U.length (nms U)
  hS : w.ownsRow B 47 1 sv D.length vs
  hV : ∀ (k : Nat) (l : List Rg), D[k]? = some l → ∃ v, vs[k]? = some v ∧ w.ownsRow B 84 2 v l.length (rgcs l)
  bQ : B ≤ Q
/-- A list of sets, as a slice of slices that begins at a place. -/
def RdD (w : World) (so : Option Addr) (D : List (List Rg)) : Prop := ∀ (k : Nat) (l : List Rg), D[k]? = some l → ∃ a, so = some a ∧ a.block < w.heap.size ∧ ∃ ao ac, w.cell? (a.add k) = some (.slice ao l.length ac) ∧ RdR w ao l ∧ (ao = none → ac = 0)
theorem RdD.below {w w' : World} {so : Option Addr} {D : List (List Rg)} (h : RdD w so D) (hb : Below w.heap.size w w') : RdD w' so D := fun k l hk => by
  obtain ⟨a, h1, h2, ao, ac, h3, h4, h5⟩ := h k l hk
  exact ⟨a, h1, Nat.lt_of_lt_of_le h2 hb.size, ao, ac, (hb.cell (p := a.add k) (by rw [add_blk]; exact h2)).trans h3, h4.below hb, h5⟩
theorem add_zero0 (g k : Nat) : (⟨g, 0, none⟩ : Addr).add k = ⟨g, k, none⟩ := by simp [Addr.add]; exact fun h => h.symm
theorem bdrew (w : World) : Below w.heap.size w w.drew := ⟨rfl, rfl, rfl, Nat.le_refl _, fun _ _ => rfl⟩
section
variable {B Q : Nat} {U : List (List UInt8)} {D : List (List Rg)} {nv sv : Value} {vs : List Value} {w w' : World}
theorem DocAt.keep (h : DocAt B Q U D nv sv vs w) (e : ∀ b, b < w.heap.size → (b = Q ∨ nv.ownBlock = some b ∨ sv.ownBlock = some b ∨ ∃ cs, w.heap[b]? = some (.cells cs 84 (0, 0))) → w'.heap[b]? = w.heap[b]?) : DocAt B Q U D nv sv vs w' :=
  ⟨(e Q (lt_of_heap h.hQ) (.inl rfl)).trans h.hQ, row_keep h.hN (fun b hb => e b (h.hN.lt b hb).2 (.inr (.inl hb))), row_keep h.hS (fun b hb => e b (h.hS.lt b hb).2 (.inr (.inr (.inl hb)))),
    fun k l hk => by
      obtain ⟨v, h1, h2⟩ := h.hV k l hk
      exact ⟨v, h1, row_keep h2 (fun b hb => e b (h2.lt b hb).2 (.inr (.inr (.inr (row_blk h2 hb)))))⟩, h.bQ⟩
theorem DocAt.below (h : DocAt B Q U D nv sv vs w) (hb : Below w.heap.size w w') : DocAt B Q U D nv sv vs w' := h.keep fun b h1 _ => hb.block b h1
theorem DocAt.c0 (h : DocAt B Q U D nv sv vs w) : w.cell? ⟨Q, 0, none⟩ = some nv := cell_row w Q 0 [nv, sv] 79 _ h.hQ rfl
theorem DocAt.c1 (h : DocAt B Q U D nv sv vs w) : w.cell? ⟨Q, 1, none⟩ = some sv := cell_row w Q 1 [nv, sv] 79 _ h.hQ rfl
theorem DocAt.rd (h : DocAt B Q U D nv sv vs w) : ∃ so sc, sv = .slice so D.length sc ∧ RdD w so D := by
  by_cases h0 : D.length = 0
  · obtain ⟨so, sc, rfl⟩ := own_form h.hS
    exact ⟨so, sc, rfl, fun k l hk => by have h5 := (List.getElem?_eq_some_iff.1 hk).1; omega⟩
  · obtain ⟨q, cap, e, _, hq⟩ := h.hS.form (by omega)
    refine ⟨_, _, e, fun k l hk => ?_⟩
    have hk' := (List.getElem?_eq_some_iff.1 hk).1
    obtain ⟨v, h1, h2⟩ := h.hV k l hk
    obtain ⟨ao, ac, rfl, h3, h4⟩ := rdr_row3 h2
    have h5 := h.hS
    rw [e] at h5
    exact ⟨_, rfl, hq, ao, ac, by rw [add_zero0, h5.cellAt k (by omega)]; exact h1, h3, h4⟩
/-- What a line of the document leaves alone: all but the database's own block, its names and lists of sets. -/
structure FarQ (Q : Nat) (nv nv' : Value) (w w' : World) : Prop where
  st : ∀ x, x < w.heap.size → x ≠ Q → nv.ownBlock ≠ some x → (∀ cs f, w.heap[x]? ≠ some (.cells cs 47 f)) → w'.heap[x]? = w.heap[x]?
  nw : ∀ x, nv'.ownBlock = some x → nv.ownBlock = some x ∨ w.heap.size ≤ x
  sz : w.heap.size ≤ w'.heap.size
theorem FarQ.of_below (h : Below w.heap.size w w') : FarQ Q nv nv w w' := ⟨fun x hx _ _ _ => h.block x hx, fun _ h => .inl h, h.size⟩
theorem FarQ.trans {a b c : Value} {u v x : World} (h : FarQ Q a b u v) (h2 : FarQ Q b c v x) : FarQ Q a c u x :=
  ⟨fun y hy h3 h4 h5 => by
    have e := h.st y hy h3 h4 h5
    refine (h2.st y (Nat.lt_of_lt_of_le hy h.sz) h3 (fun h6 => ?_) (fun cs f h6 => h5 cs f (e.symm.trans h6))).trans e
    rcases h.nw y h6 with h7 | h7
    · exact h4 h7
    · omega,
   fun y e => by
    rcases h2.nw y e with h3 | h3
    · exact h.nw y h3
    · exact .inr (Nat.le_trans h.sz h3), Nat.le_trans h.sz h2.sz⟩
/-- A set stored into its place. -/
theorem DocAt.store {g c cap n : Nat} {x : List Rg} {v : Value} (h : DocAt B Q U D nv (.slice (some ⟨g, 0, none⟩) n cap) vs w) (hn : n = D.length) (hc : c < D.length) (hv : w.ownsRow B 84 2 v x.length (rgcs x)) :
    DocAt B Q U (D.set c x) nv (.slice (some ⟨g, 0, none⟩) n cap) (vs.set c v) (w.setCell ⟨g, c, none⟩ v) ∧ FarQ Q nv nv w (w.setCell ⟨g, c, none⟩ v) ∧ Below B w (w.setCell ⟨g, c, none⟩ v) := by
  subst hn
  obtain ⟨o1, g1⟩ := h.hS.stored c v
  obtain ⟨cs, hcs⟩ := row_blk h.hS (x := g) rfl
  have hB : B ≤ g := (h.hS.lt g rfl).1
  have hk : ∀ b, b < w.heap.size → b ≠ g → (w.setCell ⟨g, c, none⟩ v).heap[b]? = w.heap[b]? := fun b hb hne => g1.block b hb (fun e => hne (by injection e))
  have hk84 : ∀ {s n : Nat} {u : Value} {xs : List Value} {B' : Nat}, w.ownsRow B' 84 s u n xs → (w.setCell ⟨g, c, none⟩ v).ownsRow B' 84 s u n xs := fun hr => row_keep hr (fun b hb => hk b (hr.lt b hb).2 (fun e => by subst e; exact row_other hr b _ 47 hcs (by decide) hb))
  have hlen : vs.length = D.length := by have := h.hS.1; omega
  have hQg : Q ≠ g := fun e => by have h5 := h.hQ; rw [e, hcs] at h5; cases h5
  refine ⟨⟨(hk Q (lt_of_heap h.hQ) hQg).trans h.hQ, row_keep h.hN (fun b hb => hk b (h.hN.lt b hb).2 (fun e => by subst e; exact row_other h.hN b _ 47 hcs (by decide) hb)), by rw [List.length_set]; exact o1, fun k l hl => ?_, h.bQ⟩, ⟨fun y hy _ _ h5 => hk y hy (fun e => by subst e; exact h5 _ _ hcs), fun _ e => .inl e, g1.size⟩, (Below.refl B w).setCell (p := ⟨g, c, none⟩) hB v⟩
  by_cases e : k = c
  · subst e
    rw [List.getElem?_set_self hc] at hl
    injection hl with hl
    subst hl
    exact ⟨v, by rw [List.getElem?_set_self (by omega)], hk84 hv⟩
  · rw [List.getElem?_set_ne (fun h => e h.symm)] at hl
    obtain ⟨u, h1, h2⟩ := h.hV k l hl
    exact ⟨u, by rw [List.getElem?_set_ne (fun h => e h.symm)]; exact h1, hk84 h2⟩
/-- A name put behind the others, where the list of sets stays. -/
theorem DocAt.named {b : List UInt8} {q2 c2 n : Nat} {w1 w2 : World} (h : DocAt B Q U D nv sv vs w) (hn : n = U.length) (hb1 : Below w.heap.size w w1) (o2 : w2.ownsRow B 9 1 (.slice (some ⟨q2, 0, none⟩) (n + 1) c2) (n + 1) (nms U ++ [.string ⟨b.toArray⟩])) (gr : w1.grownBy w2 nv.ownBlock) (hl2 : nv.ownBlock = some q2 ∨ q2 = w1.heap.size) :
    DocAt B Q (U ++ [b]) D (.slice (some ⟨q2, 0, none⟩) (n + 1) c2) sv vs (w2.setCell ⟨Q, 0, none⟩ (.slice (some ⟨q2, 0, none⟩) (n + 1) c2)) ∧ FarQ Q nv (.slice (some ⟨q2, 0, none⟩) (n + 1) c2) w (w2.setCell ⟨Q, 0, none⟩ (.slice (some ⟨q2, 0, none⟩) (n + 1) c2)) ∧ Below B w1 (w2.setCell ⟨Q, 0, none⟩ (.slice (some ⟨q2, 0, none⟩) (n + 1) c2)) := by
  subst hn
  have hs1 := hb1.size
  have k1 : ∀ x, x < w.heap.size → nv.ownBlock ≠ some x → w2.heap[x]? = w.heap[x]? := fun x hx hne => (gr.block x (by omega) (fun e => hne e.symm)).trans (hb1.block x hx)
  have hQ2 : w2.heap[Q]? = some (.cells #[nv, sv] 79 (0, 0)) := (k1 Q (lt_of_heap h.hQ) (row_other h.hN Q _ 79 h.hQ (by decide))).trans h.hQ
  obtain ⟨v', hv'⟩ : ∃ v', v' = Value.slice (some ⟨q2, 0, none⟩) (U.length + 1) c2 := ⟨_, rfl⟩
  rw [← hv'] at o2 ⊢
  have k2 : ∀ x, x < w.heap.size → x ≠ Q → nv.ownBlock ≠ some x → (w2.setCell ⟨Q, 0, none⟩ v').heap[x]? = w.heap[x]? := fun x hx h1 h2 => (Below.heap_setCell w2 ⟨Q, 0, none⟩ v' x h1).trans (k1 x hx h2)
  have hnw : ∀ x, v'.ownBlock = some x → nv.ownBlock = some x ∨ w.heap.size ≤ x := fun x e => by
    have e2 : q2 = x := by rw [hv'] at e; simpa [Value.ownBlock] using e
    subst e2
    rcases hl2 with h9 | h9
    · exact .inl h9
    · exact .inr (by omega)
  have hsz : w1.heap.size ≤ (w2.setCell ⟨Q, 0, none⟩ v').heap.size := by have h9 := gr.size; simp [World.setCell]; exact h9
  refine ⟨⟨set_row w2 Q 0 [nv, sv] 79 v' hQ2, ?_, row_keep h.hS (fun x hx => k2 x (h.hS.lt x hx).2 (fun e => by subst e; exact row_other h.hS x _ 79 h.hQ (by decide) hx) (row_ne h.hS h.hN (by decide) hx)), fun k l hl => ?_, h.bQ⟩, ⟨fun x hx h1 h2 _ => k2 x hx h1 h2, hnw, by omega⟩, ?_⟩
  · rw [nms_snoc, List.length_append]
    exact ownsRow_setCell_other o2 (a := ⟨Q, 0, none⟩) (row_other o2 Q _ 79 hQ2 (by decide)) v'
  · obtain ⟨u, h1, h2⟩ := h.hV k l hl
    exact ⟨u, h1, row_keep h2 (fun x hx => k2 x (h2.lt x hx).2 (fun e => by subst e; exact row_other h2 x _ 79 h.hQ (by decide) hx) (row_ne h2 h.hN (by decide) hx))⟩
  · exact ((Below.refl B w1).grown gr (by have h5 := lt_of_heap h.hQ; have h6 := h.bQ; omega) (fun k hk => (h.hN.lt k hk).1)).setCell (p := ⟨Q, 0, none⟩) h.bQ v'
/-- An empty set put behind the others. -/
theorem DocAt.grown {q2 c2 n : Nat} {w1 w2 : World} (h : DocAt B Q U D nv sv vs w) (hn : n = D.length) (hb1 : Below w.heap.size w w1) (o2 : w2.ownsRow B 47 1 (.slice (some ⟨q2, 0, none⟩) (n + 1) c2) (n + 1) (vs ++ [.slice none 0 0])) (gr : w1.grownBy w2 sv.ownBlock) :
    DocAt B Q U (D ++ [[]]) nv (.slice (some ⟨q2, 0, none⟩) (n + 1) c2) (vs ++ [.slice none 0 0]) (w2.setCell ⟨Q, 1, none⟩ (.slice (some ⟨q2, 0, none⟩) (n + 1) c2)) ∧ FarQ Q nv nv w (w2.setCell ⟨Q, 1, none⟩ (.slice (some ⟨q2, 0, none⟩) (n + 1) c2)) ∧ Below B w1 (w2.setCell ⟨Q, 1, none⟩ (.slice (some ⟨q2, 0, none⟩) (n + 1) c2)) := by
  subst hn
  have hs1 := hb1.size
  have k1 : ∀ x, x < w.heap.size → sv.ownBlock ≠ some x → w2.heap[x]? = w.heap[x]? := fun x hx hne => (gr.block x (by omega) (fun e => hne e.symm)).trans (hb1.block x hx)
  have hQ2 : w2.heap[Q]? = some (.cells #[nv, sv] 79 (0, 0)) := (k1 Q (lt_of_heap h.hQ) (row_other h.hS Q _ 79 h.hQ (by decide))).trans h.hQ
  have hl1 : (D ++ [[]]).length = D.length + 1 := by simp
  obtain ⟨v', hv'⟩ : ∃ v', v' = Value.slice (some ⟨q2, 0, none⟩) (D.length + 1) c2 := ⟨_, rfl⟩
  rw [← hv'] at o2 ⊢
  have k2 : ∀ x, x < w.heap.size → x ≠ Q → sv.ownBlock ≠ some x → (w2.setCell ⟨Q, 1, none⟩ v').heap[x]? = w.heap[x]? := fun x hx h1 h2 => (Below.heap_setCell w2 ⟨Q, 1, none⟩ v' x h1).trans (k1 x hx h2)
  have hlen : vs.length = D.length := by have := h.hS.1; omega
  have hsz : w1.heap.size ≤ (w2.setCell ⟨Q, 1, none⟩ v').heap.size := by have h9 := gr.size; simp [World.setCell]; exact h9
  refine ⟨⟨set_row w2 Q 1 [nv, sv] 79 v' hQ2, row_keep h.hN (fun x hx => k2 x (h.hN.lt x hx).2 (fun e => by subst e; exact row_other h.hN x _ 79 h.hQ (by decide) hx) (row_ne h.hN h.hS (by decide) hx)), ?_, fun k l hl => ?_, h.bQ⟩, ⟨fun x hx h1 _ h3 => k2 x hx h1 (fun e => by obtain ⟨cs, hcs⟩ := row_blk h.hS e; exact h3 _ _ hcs), fun _ e => .inl e, by omega⟩, ?_⟩
  · rw [hl1]
    exact ownsRow_setCell_other o2 (a := ⟨Q, 1, none⟩) (row_other o2 Q _ 79 hQ2 (by decide)) v'
  · by_cases e : k < D.length
    · rw [List.getElem?_append_left e] at hl
      obtain ⟨u, h1, h2⟩ := h.hV k l hl
      exact ⟨u, by rw [List.getElem?_append_left (by omega)]; exact h1, row_keep h2 (fun x hx => k2 x (h2.lt x hx).2 (fun e => by subst e; exact row_other h2 x _ 79 h.hQ (by decide) hx) (row_ne h2 h.hS (by decide) hx))⟩
    · rw [List.getElem?_append_right (by omega)] at hl
      have e2 : k - D.length = 0 := by have h5 := (List.getElem?_eq_some_iff.1 hl).1; simp at h5; omega
      rw [e2] at hl
      cases hl
      exact ⟨.slice none 0 0, by rw [List.getElem?_append_right (by omega), hlen, e2]; rfl, World.ownsRow_nil _ _ _ _⟩
  · exact ((Below.refl B w1).grown gr (by have h5 := lt_of_heap h.hQ; have h6 := h.bQ; omega) (fun k hk => (h.hS.lt k hk).1)).setCell (p := ⟨Q, 1, none⟩) h.bQ v'
end
end Go.Proofs.YtohhokjlgihbgaaGreatDoor
/- What is made whole of ranges: the sets of its classes are those of the ranges, in normal form. -/
namespace Go.Proofs.YtohhokjlgihbgaaGreatDoor

theorem hd_app (d r : Nat) (P Q : List Tr) : Hd d r (P ++ Q) ↔ Hd d r P ∨ Hd d r Q := by
  unfold Hd
  constructor
  · rintro ⟨g, hg, h⟩
    rcases List.mem_append.1 hg with hg | hg
    · exact .inl ⟨g, hg, h⟩
    · exact .inr ⟨g, hg, h⟩
  · rintro (⟨g, hg, h⟩ | ⟨g, hg, h⟩)
    · exact ⟨g, List.mem_append.2 (.inl hg), h⟩
    · exact ⟨g, List.mem_append.2 (.inr hg), h⟩
theorem hd_one (d r : Nat) (g : Tr) : Hd d r [g] ↔ g.2.2 = d ∧ g.1 ≤ r ∧ r ≤ g.2.1 := by
  rw [hd_cons]
  exact ⟨fun h => h.elim id (fun h => absurd h (hd_nil d r)), .inl⟩
theorem hd_step (o : List Tr) (nx : Nat) (g : Tr) (h : InvW o nx) (h1 : nx ≤ g.1) (h2 : g.1 ≤ g.2.1) (h3 : g.2.2 ≠ 0) (d r : Nat) (hd : d ≠ 0) : Hd d r (jn (gp o nx g) g) ↔ Hd d r o ∨ Hd d r [g] := by
  unfold gp
  by_cases c : nx < g.1
  · rw [if_pos c, jn_snoc, if_neg (fun e => h3 e.symm), hd_app, hd_app, hd_one d r (nx, g.1 - 1, 0)]
    constructor
    · rintro ((h5 | h5) | h5)
      · exact .inl h5
      · exact absurd h5.1.symm hd
      · exact .inr h5
    · rintro (h5 | h5)
      · exact .inl (.inl h5)
      · exact .inr h5
  · rw [if_neg c]
    rcases List.eq_nil_or_concat o with rfl | ⟨Q, z, rfl⟩
    · rw [jn_nil]
      exact ⟨.inr, fun h5 => h5.elim (fun h6 => absurd h6 (hd_nil d r)) id⟩
    · rw [List.concat_eq_append] at *
      rw [jn_snoc]
      split
      · rename_i hz
        obtain ⟨k1, k2, k3⟩ := cov_last Q 0 _ z h.1
        rw [hd_app, hd_app, hd_one, hd_one, hd_one, or_assoc]
        show _ ∨ (g.2.2 = d ∧ z.1 ≤ r ∧ r ≤ g.2.1) ↔ _
        rw [hz]
        constructor
        · rintro (h5 | ⟨h5, h6, h7⟩)
          · exact .inl h5
          · by_cases h8 : r ≤ z.2.1
            · exact .inr (.inl ⟨h5, h6, h8⟩)
            · exact .inr (.inr ⟨h5, by omega, h7⟩)
        · rintro (h5 | ⟨h5, h6, h7⟩ | ⟨h5, h6, h7⟩)
          · exact .inl h5
          · exact .inr ⟨h5, h6, by omega⟩
          · exact .inr ⟨h5, by omega, h7⟩
      · rw [hd_app]
theorem whF_hd : ∀ (L o : List Tr) (nx : Nat), InvW o nx → Rs nx L → (∀ g ∈ L, g.2.2 ≠ 0) → ∀ d r, d ≠ 0 → (Hd d r (whF o nx L) ↔ Hd d r o ∨ Hd d r L)
  | [], o, nx, h, _, _, d, r, hd => by
    have hn : ¬ Hd d r [] := hd_nil d r
    unfold whF
    split
    · rw [hd_app, hd_one]
      constructor
      · rintro (h5 | h5)
        · exact .inl h5
        · exact absurd h5.1.symm hd
      · rintro (h5 | h5)
        · exact .inl h5
        · exact absurd h5 hn
    · exact ⟨.inl, fun h5 => h5.elim id (fun h6 => absurd h6 hn)⟩
  | g :: L, o, nx, h, hR, hc, d, r, hd => by
    obtain ⟨r1, r2, r3, r4⟩ := hR
    have h3 := hc g (by simp)
    show Hd d r (whF (jn (gp o nx g) g) (g.2.1 + 1) L) ↔ _
    rw [whF_hd L _ _ (inv_step o nx g h r1 r2 h3) r4 (fun x hx => hc x (by simp [hx])) d r hd, hd_step o nx g h r1 r2 h3 d r hd, hd_one, hd_cons, or_assoc]
theorem whl_hd (S : List Tr) (h : Rs 0 S) (hc : ∀ g ∈ S, g.2.2 ≠ 0) (d r : Nat) (hd : d ≠ 0) : Hd d r (whl S) ↔ Hd d r S := by
  unfold whl
  rw [whF_hd S [] 0 ⟨rfl, trivial, fun Q z e => by simp at e⟩ h hc d r hd]
  exact ⟨fun h5 => h5.elim (fun h6 => absurd h6 (hd_nil d r)) id, .inr⟩
/-- What has no class has class 0. -/
theorem cov_hd0 (A : List Tr) (h : Cov 0 A 1114112) (r : Nat) (hr : r ≤ 1114111) : Hd 0 r A ↔ ∀ d, d ≠ 0 → ¬ Hd d r A := by
  constructor
  · rintro ⟨g, h1, h2, h3, h4⟩ d hd ⟨g', k1, k2, k3, k4⟩
    have e1 := gtp_in A 0 _ (r : Int) g h h1 (by omega) (by omega)
    have e2 := gtp_in A 0 _ (r : Int) g' h k1 (by omega) (by omega)
    omega
  · intro hn
    obtain ⟨g, hg, h3, h4⟩ := cov_ex A 0 1114112 (r : Int) h (by omega) (by omega)
    by_cases h0 : g.2.2 = 0
    · exact ⟨g, hg, h0, by omega, by omega⟩
    · exact absurd ⟨g, hg, rfl, by omega, by omega⟩ (hn g.2.2 h0)
/-- Two normal forms with the same numbers. -/
theorem nf_hd {a b : List Rg} (ha : nf a) (hb : nf b) (h : ∀ r : Nat, r ≤ 1114111 → (isin (r : Int) a ↔ isin (r : Int) b)) : a = b := by
  refine nf_one ha hb (fun r => ?_)
  constructor
  · intro h5
    have g1 := isin_ge ha h5
    have g2 := isin_le ha h5
    unfold top at g2
    obtain ⟨n, rfl⟩ : ∃ n : Nat, r = (n : Int) := ⟨r.toNat, by omega⟩
    exact (h n (by omega)).1 h5
  · intro h5
    have g1 := isin_ge hb h5
    have g2 := isin_le hb h5
    unfold top at g2
    obtain ⟨n, rfl⟩ : ∃ n : Nat, r = (n : Int) := ⟨r.toNat, by omega⟩
    exact (h n (by omega)).2 h5
theorem means_nat (r : Nat) (hr : r ≤ 1114111) (l : List Rg) : means (r : Int) l ↔ isin (r : Int) l := by
  unfold means top
  exact ⟨fun h => h.2.2, fun h => ⟨by omega, by omega, h⟩⟩
/-- The sets of classes 1 and above, as the document keeps them. -/
def DRel (n : Nat) (S : List Tr) (D : List (List Rg)) : Prop := D.length = n ∧ D[0]? = some [] ∧ ∀ d, 1 ≤ d → d < n → D[d]? = some (nrm (stc (d : Int) S))
/-- The sets of all classes. -/
def dst (n : Nat) (A : List Tr) : List (List Rg) := (List.range n).map fun i : Nat => stc (i : Int) A
theorem isin_flat (r : Int) : ∀ (D : List (List Rg)), isin r D.flatten ↔ ∃ l ∈ D, isin r l
  | [] => by simp [isin]
  | l :: D => by
    rw [List.flatten_cons, isin_app, isin_flat r D]
    simp
theorem dst_at (n : Nat) (A : List Tr) (i : Nat) (hi : i < n) : (dst n A)[i]? = some (stc (i : Int) A) := by
  unfold dst
  rw [List.getElem?_map, List.getElem?_range hi]
  rfl
theorem dst_len (n : Nat) (A : List Tr) : (dst n A).length = n := by unfold dst; simp
theorem drel_fin (n : Nat) (S : List Tr) (D : List (List Rg)) (hn : 1 ≤ n) (hR : Rs 0 S) (hc : ∀ g ∈ S, 1 ≤ g.2.2 ∧ g.2.2 < n) (hC : Cov 0 (whl S) 1114112) (hA : Alt (whl S)) (h : DRel n S D) : D.set 0 (nt (D.drop 1).flatten) = dst n (whl S) := by
  obtain ⟨d1, d2, d3⟩ := h
  have hc0 : ∀ g ∈ S, g.2.2 ≠ 0 := fun g hg => by have := hc g hg; omega
  have hnf : ∀ c : Nat, nf (stc (c : Int) (whl S)) := fun c => (nf_stc (whl S) 0 _ (c : Int) hC hA (Nat.le_refl _)).1
  apply List.ext_getElem?
  intro i
  by_cases hi : i < n
  · rw [dst_at n _ i hi]
    by_cases h0 : i = 0
    · subst h0
      rw [List.getElem?_set_self (by omega)]
      congr 1
      refine nf_hd (nt_nf _) (hnf 0) (fun r hr => ?_)
      rw [nt_in, isin_hd, cov_hd0 _ hC r hr, means_nat r hr, isin_flat]
      constructor
      · rintro ⟨_, _, h5⟩ d hd h6
        rw [whl_hd S hR hc0 d r hd] at h6
        apply h5
        have hdn : d < n := by
          obtain ⟨g, hg, h7, _⟩ := h6
          have := hc g hg; omega
        have h8 := d3 d (by omega) hdn
        refine ⟨nrm (stc (d : Int) S), ?_, ?_⟩
        · rw [List.mem_iff_getElem?]
          exact ⟨d - 1, by rw [List.getElem?_drop, show 1 + (d - 1) = d by omega]; exact h8⟩
        · rw [nrm_in, means_nat r hr, isin_hd]; exact h6
      · intro h5
        refine ⟨by omega, by unfold top; omega, ?_⟩
        rintro ⟨l, hl, h6⟩
        obtain ⟨k, hk⟩ := List.mem_iff_getElem?.1 hl
        rw [List.getElem?_drop] at hk
        have hk2 := (List.getElem?_eq_some_iff.1 hk).1
        have h8 := d3 (1 + k) (by omega) (by omega)
        rw [h8] at hk
        injection hk with hk
        rw [← hk, nrm_in, means_nat r hr, isin_hd] at h6
        exact h5 (1 + k) (by omega) ((whl_hd S hR hc0 _ r (by omega)).2 h6)
    · rw [List.getElem?_set_ne (by omega), d3 i (by omega) hi]
      congr 1
      refine nf_hd (nrm_nf _) (hnf i) (fun r hr => ?_)
      rw [nrm_in, means_nat r hr, isin_hd, isin_hd, whl_hd S hR hc0 i r h0]
  · rw [List.getElem?_eq_none (by rw [List.length_set]; omega), List.getElem?_eq_none (by rw [dst_len]; omega)]
end Go.Proofs.YtohhokjlgihbgaaGreatDoor
/- The document cuts a line where the program does: the place of the first ; and what stands at its sides. -/
namespace Go.Proofs.YtohhokjlgihbgaaGreatDoor

theorem decodeN_tail (N b0 b1 b2 b3 j : Nat) (h1 : 1 ≤ j) (h2 : j < (Lib.decodeN N b0 b1 b2 b3).2) : 128 ≤ (if j = 1 then b1 else if j = 2 then b2 else b3) := by
  unfold Lib.decodeN at h2
  have c : j = 1 ∨ j = 2 ∨ j = 3 ∨ 4 ≤ j := by omega
  revert h2
  repeat' split
  all_goals (intro h2; dsimp only at h2; omega)
theorem dec_tail (l : List UInt8) (j : Nat) (h1 : 1 ≤ j) (h2 : j < (dec l).2) : 128 ≤ (l.getD j 0).toNat := by
  have hne : l ≠ [] := fun e => by rw [e] at h2; have h6 := dec_in []; rw [List.length_nil] at h6; omega
  have h4 := dec_le4 l
  rw [dec_eqL l hne, Lib.decodeL_N] at h2
  have h5 := decodeN_tail _ _ _ _ _ j h1 h2
  have h6 : j = 1 ∨ j = 2 ∨ j = 3 := by
    rw [dec_eqL l hne, Lib.decodeL_N] at h4
    omega
  rcases h6 with rfl | rfl | rfl
  · exact h5
  · exact h5
  · exact h5
theorem getD_takeL (l : List UInt8) (n i : Nat) (h : i < n) : (l.take n).getD i 0 = l.getD i 0 := by
  simp [List.getD, h]
theorem getD_dropL (l : List UInt8) (n i : Nat) : (l.drop n).getD i 0 = l.getD (n + i) 0 := by
  simp [List.getD, List.getElem?_drop]
/-- Cut behind the first thing, the first thing stays. -/
theorem stp_take (m : List UInt8) (n : Nat) (h1 : stp m ≤ n) (hn : n ≤ m.length) : stp (m.take n) = stp m := by
  have hp := stp_pos m
  have e0 : (m.take n).getD 0 0 = m.getD 0 0 := getD_takeL m n 0 (by omega)
  have ed : (m.take n).drop 1 = (m.drop 1).take (n - 1) := by rw [List.drop_take]
  have hl : (m.take n).length = n := by rw [List.length_take]; omega
  by_cases hc : m.getD 0 0 = 39 ∧ 0 < (dec (m.drop 1)).2 ∧ 1 + (dec (m.drop 1)).2 < m.length ∧ m.getD (1 + (dec (m.drop 1)).2) 0 = 39
  · have hs : stp m = (dec (m.drop 1)).2 + 2 := by unfold stp; rw [if_pos hc]
    obtain ⟨c1, c2, c3, c4⟩ := hc
    have hne : m.drop 1 ≠ [] := fun e => by have h5 := congrArg List.length e; have h6 := dec_in (m.drop 1); rw [e] at h6; rw [List.length_nil] at h6; rw [e] at c2; omega
    have ew : dec ((m.take n).drop 1) = dec (m.drop 1) := by rw [ed]; exact dec_take _ hne _ (by omega)
    rw [hs]
    unfold stp
    rw [ew, e0, hl, getD_takeL m n _ (by omega), if_pos ⟨c1, c2, by omega, c4⟩]
  · have hs : stp m = 1 := by unfold stp; rw [if_neg hc]
    rw [hs]
    unfold stp
    rw [if_neg]
    rintro ⟨c1, c2, c3, c4⟩
    rw [e0] at c1
    rw [hl] at c3
    rw [getD_takeL m n _ (by omega)] at c4
    rw [ed] at c2 c3 c4
    have hne : m.drop 1 ≠ [] := fun e => by rw [e] at c2; simp only [List.take_nil] at c2; have h6 := dec_in []; rw [List.length_nil] at h6; omega
    by_cases hw : (dec (m.drop 1)).2 ≤ n - 1
    · have ew := dec_take (m.drop 1) hne (n - 1) hw
      rw [ew] at c2 c3 c4
      exact hc ⟨c1, c2, by omega, c4⟩
    · have h5 := dec_tail (m.drop 1) (dec ((m.drop 1).take (n - 1))).2 (by omega) (by omega)
      rw [getD_dropL, c4] at h5
      revert h5; decide
theorem fdF_ge (c : UInt8) (l : List UInt8) : ∀ (f t : Nat), t ≤ fdF c l f t
  | 0, t => Nat.le_refl _
  | f + 1, t => by
    unfold fdF
    split
    · exact Nat.le_trans (Nat.le_add_right _ _) (fdF_ge c l f _)
    · exact Nat.le_refl _
theorem stp_cut (l : List UInt8) (k i : Nat) (hk : k ≤ l.length) (hi : i + stp (l.drop i) ≤ k) : stp ((l.take k).drop i) = stp (l.drop i) := by
  rw [List.drop_take]
  exact stp_take _ _ (by omega) (by rw [List.length_drop]; omega)
theorem ctF_pos (l : List UInt8) : ∀ (f i : Nat) (s : Int), 0 ≤ s → (ctF l f i s).2 = s
  | 0, _, _, _ => rfl
  | f + 1, i, s, hs => by
    unfold ctF
    split
    · rw [if_neg (fun h => by omega)]; exact ctF_pos l f _ s hs
    · rfl
theorem ct_fd (l : List UInt8) (k : Nat) (hk : k ≤ l.length) : ∀ (f g i : Nat), i ≤ k → fdF 35 l f i = k → l.length < f + i → k < g + i →
    (ctF l f i (-1)).2 = if fdF 59 (l.take k) g i < k then (fdF 59 (l.take k) g i : Int) else -1
  | 0, g, i, h1, h2, h3, h4 => by omega
  | f + 1, 0, i, h1, h2, h3, h4 => by omega
  | f + 1, g + 1, i, h1, h2, h3, h4 => by
    have hl : (l.take k).length = k := by rw [List.length_take]; omega
    unfold ctF
    unfold fdF at h2
    by_cases hc : i < l.length ∧ l.getD i 0 ≠ 35
    · rw [if_pos hc] at h2 ⊢
      have h5 := fdF_ge 35 l f (i + stp (l.drop i))
      have h6 := stp_pos (l.drop i)
      have e1 := stp_cut l k i hk (by omega)
      have e2 : (l.take k).getD i 0 = l.getD i 0 := getD_takeL l k i (by omega)
      have ef : fdF 59 (l.take k) (g + 1) i = if i < k ∧ l.getD i 0 ≠ 59 then fdF 59 (l.take k) g (i + stp (l.drop i)) else i := by
        conv => lhs; unfold fdF
        rw [hl, e2, e1]
      by_cases c9 : l.getD i 0 = 59
      · rw [if_neg (fun h => h.2 c9)] at ef
        rw [ef, if_pos ⟨c9, by omega⟩, ctF_pos l f _ _ (by omega), if_pos (by omega)]
      · rw [if_pos ⟨by omega, c9⟩] at ef
        rw [ef, if_neg (fun h => c9 h.1)]
        exact ct_fd l k hk f g _ (by omega) h2 (by omega) (by omega)
    · rw [if_neg hc] at h2 ⊢
      subst h2
      have ef : fdF 59 (l.take i) (g + 1) i = i := by
        unfold fdF
        rw [hl, if_neg (fun h => Nat.lt_irrefl _ h.1)]
      rw [ef, if_neg (Nat.lt_irrefl _)]
/-- The place of the first ; is that which find tells ahead of the remark. -/
theorem ctp_snd (l : List UInt8) : (ctp l).2 = if fdp 59 (l.take (fdp 35 l)) < fdp 35 l then (fdp 59 (l.take (fdp 35 l)) : Int) else -1 := by
  have hk := fdp_le 35 l
  have hl : (l.take (fdp 35 l)).length = fdp 35 l := by rw [List.length_take]; omega
  unfold ctp
  rw [ct_fd l (fdp 35 l) hk (l.length + 1) ((l.take (fdp 35 l)).length + 1) 0 (by omega) rfl (by omega) (by omega)]
  rfl
/-- The name and the set of a line. -/
def dl3 (s : List UInt8) : Option (List UInt8 × List Rg × Int) :=
  if fdp 59 s < s.length then some (tls (s.drop (fdp 59 s + 1)), (par ((s.take (fdp 59 s)).map tbl)).1, (par ((s.take (fdp 59 s)).map tbl)).2.1) else none
theorem fdF_cons (c x : UInt8) (t : List UInt8) : ∀ (f i : Nat), fdF c (x :: t) f (i + 1) = fdF c t f i + 1
  | 0, _ => rfl
  | f + 1, i => by
    unfold fdF
    have e1 : (x :: t).getD (i + 1) 0 = t.getD i 0 := rfl
    have e2 : (x :: t).drop (i + 1) = t.drop i := rfl
    rw [e1, e2]
    by_cases hc : i < t.length ∧ t.getD i 0 ≠ c
    · rw [if_pos hc, if_pos ⟨by rw [List.length_cons]; omega, hc.2⟩, ← fdF_cons c x t f (i + stp (t.drop i))]
      congr 1; omega
    · rw [if_neg hc, if_neg (fun h => hc ⟨by have := h.1; rw [List.length_cons] at this; omega, h.2⟩)]
theorem blk_cases {x : UInt8} (h : blk x = true) : x = 32 ∨ x = 9 := by
  unfold blk at h; simpa using h
theorem fdp_blk (c x : UInt8) (t : List UInt8) (hx : x ≠ c) (h9 : x ≠ 39) : fdp c (x :: t) = fdp c t + 1 := by
  show fdF c (x :: t) (t.length + 1 + 1) 0 = _
  unfold fdF
  rw [if_pos ⟨by simp, hx⟩, show stp ((x :: t).drop 0) = 1 from stp_one (x :: t) h9]
  exact fdF_cons c x t (t.length + 1) 0
theorem dl3_cons (x : UInt8) (t : List UInt8) (hx : blk x = true) : dl3 (x :: t) = dl3 t := by
  have e : fdp 59 (x :: t) = fdp 59 t + 1 := fdp_blk 59 x t (by rcases blk_cases hx with rfl | rfl <;> decide) (by rcases blk_cases hx with rfl | rfl <;> decide)
  have et : tbl x = 32 := by rcases blk_cases hx with rfl | rfl <;> rfl
  unfold dl3
  rw [e]
  by_cases hc : fdp 59 t < t.length
  · rw [if_pos hc, if_pos (by rw [List.length_cons]; omega), List.take_succ_cons, List.map_cons, et, (par_blank _).1, (par_blank _).2, List.drop_succ_cons]
  · rw [if_neg hc, if_neg (by rw [List.length_cons]; omega)]
theorem tls_snoc (t : List UInt8) (x : UInt8) (hx : blk x = true) : tls (t ++ [x]) = tls t := by
  rw [tls_eq, tls_eq, rtr_snoc, if_pos hx]
theorem stp_snoc (t : List UInt8) (x : UInt8) (h9 : x ≠ 39) (i : Nat) (hi : i < t.length) : i + stp ((t ++ [x]).drop i) ≤ t.length := by
  unfold stp
  split
  · rename_i h
    obtain ⟨_, c2, c3, c4⟩ := h
    rw [getD_dropL] at c4
    rw [List.length_drop, List.length_append, List.length_singleton] at c3
    by_cases h5 : i + (1 + (dec (List.drop 1 (List.drop i (t ++ [x])))).2) = t.length
    · rw [h5] at c4
      exfalso; apply h9
      simpa [List.getD] using c4
    · omega
  · omega
theorem fdF_snoc (c x : UInt8) (t : List UInt8) (hx : x ≠ c) (h9 : x ≠ 39) : ∀ (f g i : Nat), i ≤ t.length → t.length + 1 < f + i → t.length < g + i →
    fdF c (t ++ [x]) f i = if fdF c t g i < t.length then fdF c t g i else t.length + 1
  | 0, g, i, h1, h2, h3 => by omega
  | f + 1, 0, i, h1, h2, h3 => by omega
  | f + 1, g + 1, i, h1, h2, h3 => by
    have hl : (t ++ [x]).length = t.length + 1 := by simp
    have ht : (t ++ [x]).take t.length = t := by simp
    by_cases hi : i < t.length
    · have e1 := stp_snoc t x h9 i hi
      have e2 := stp_cut (t ++ [x]) t.length i (by omega) e1
      rw [ht] at e2
      have e3 : (t ++ [x]).getD i 0 = t.getD i 0 := by simp [List.getD, List.getElem?_append_left hi]
      have h6 := stp_pos ((t ++ [x]).drop i)
      have ef : fdF c t (g + 1) i = if i < t.length ∧ t.getD i 0 ≠ c then fdF c t g (i + stp (t.drop i)) else i := by
        conv => lhs; unfold fdF
      have eg : fdF c (t ++ [x]) (f + 1) i = if i < t.length + 1 ∧ t.getD i 0 ≠ c then fdF c (t ++ [x]) f (i + stp (t.drop i)) else i := by
        conv => lhs; unfold fdF
        rw [hl, e3, ← e2]
      rw [← e2] at e1 h6
      by_cases hc : t.getD i 0 = c
      · rw [if_neg (fun h => h.2 hc)] at ef eg
        rw [ef, eg, if_pos hi]
      · rw [if_pos ⟨hi, hc⟩] at ef
        rw [if_pos ⟨by omega, hc⟩] at eg
        rw [ef, eg]
        exact fdF_snoc c x t hx h9 f g _ (by omega) (by omega) (by omega)
    · have hi' : i = t.length := by omega
      subst hi'
      have eg : fdF c t (g + 1) t.length = t.length := by unfold fdF; rw [if_neg (by omega)]
      rw [eg, if_neg (by omega)]
      have e3 : (t ++ [x]).getD t.length 0 = x := by simp [List.getD]
      have e4 : stp ((t ++ [x]).drop t.length) = 1 := stp_one _ (by rw [getD_dropL, Nat.add_zero, e3]; exact h9)
      unfold fdF
      rw [hl, e3, e4, if_pos ⟨by omega, hx⟩]
      cases f with
      | zero => rfl
      | succ f => unfold fdF; rw [hl, if_neg (by omega)]
theorem dl3_snoc (t : List UInt8) (x : UInt8) (hx : blk x = true) : dl3 (t ++ [x]) = dl3 t := by
  have hx9 : x ≠ 39 := by rcases blk_cases hx with rfl | rfl <;> decide
  have hx5 : x ≠ 59 := by rcases blk_cases hx with rfl | rfl <;> decide
  have e : fdp 59 (t ++ [x]) = if fdp 59 t < t.length then fdp 59 t else t.length + 1 := fdF_snoc 59 x t hx5 hx9 _ _ 0 (by omega) (by simp) (by omega)
  have hl : (t ++ [x]).length = t.length + 1 := by simp
  unfold dl3
  rw [e, hl]
  by_cases hc : fdp 59 t < t.length
  · rw [if_pos hc, if_pos hc, if_pos (by omega), List.take_append_of_le_length (by omega), List.drop_append_of_le_length (by omega), tls_snoc _ _ hx]
  · rw [if_neg hc, if_neg hc, if_neg (by omega)]
theorem dl3_dw : ∀ (l : List UInt8), dl3 (l.dropWhile blk) = dl3 l
  | [] => rfl
  | x :: t => by
    rw [List.dropWhile_cons]
    split
    · rename_i h; rw [dl3_dw t, dl3_cons x t h]
    · rfl
theorem dl3_rtr : ∀ (n : Nat) (l : List UInt8), l.length = n → dl3 (rtr l) = dl3 l
  | 0, l, h => by
    cases l with
    | nil => rfl
    | cons => simp at h
  | n + 1, l, h => by
    rcases List.eq_nil_or_concat l with rfl | ⟨t, x, rfl⟩
    · rfl
    · rw [List.concat_eq_append] at h ⊢
      rw [rtr_snoc]
      split
      · rename_i hx
        rw [dl3_rtr n t (by simpa using h), dl3_snoc t x hx]
      · rfl
theorem dl3_tls (l : List UInt8) : dl3 (tls l) = dl3 l := by
  rw [tls_eq, dl3_dw, dl3_rtr l.length l rfl]
end Go.Proofs.YtohhokjlgihbgaaGreatDoor
/- The lines of the document, over names and sets, held against those of the program, over names and ranges. -/
namespace Go.Proofs.YtohhokjlgihbgaaGreatDoor

theorem mtR_iff (l m : List Rg) (hl : ∀ g ∈ l, g.1 ≤ g.2) (hm : ∀ g ∈ m, g.1 ≤ g.2) : mtR l m = true ↔ ∃ r, isin r l ∧ isin r m := by
  unfold mtR ovl
  rw [List.any_eq_true]
  constructor
  · rintro ⟨g, hg, h⟩
    obtain ⟨h', hh, h5⟩ := List.any_eq_true.1 h
    simp only [Bool.and_eq_true, decide_eq_true_eq] at h5
    have h6 := hl g hg
    have h7 := hm h' hh
    exact ⟨max g.1 h'.1, isin_iff.2 ⟨g, hg, by omega, by omega⟩, isin_iff.2 ⟨h', hh, by omega, by omega⟩⟩
  · rintro ⟨r, h1, h2⟩
    obtain ⟨g, hg, p1, p2⟩ := isin_iff.1 h1
    obtain ⟨h', hh, q1, q2⟩ := isin_iff.1 h2
    refine ⟨g, hg, List.any_eq_true.2 ⟨h', hh, ?_⟩⟩
    simp only [Bool.and_eq_true, decide_eq_true_eq]
    omega
/-- Has a class below n but c something in common with a set? -/
def cls1 (D : List (List Rg)) (c : Nat) (L : List Rg) (i : Nat) : Bool := decide (1 ≤ i) && (decide (i ≠ c) && mtR (D.getD i []) L)
def clsh (D : List (List Rg)) (n c : Nat) (L : List Rg) : Bool := (List.range n).any (cls1 D c L)
theorem clsh_iff (n : Nat) (S : List Tr) (D : List (List Rg)) (c : Nat) (L : List Rg) (hL : nf L) (hc : ∀ g ∈ S, 1 ≤ g.2.2 ∧ g.2.2 < n) (h : DRel n S D) :
    clsh D n c L = true ↔ ∃ d r : Nat, d ≠ c ∧ Hd d r S ∧ isin (r : Int) L := by
  obtain ⟨d1, d2, d3⟩ := h
  have hm : ∀ g ∈ L, g.1 ≤ g.2 := fun g hg => (nf_bounds L hL g hg).2.1
  have ho : ∀ i, 1 ≤ i → i < n → D.getD i [] = nrm (stc (i : Int) S) := fun i h1 h2 => by
    rw [List.getD_eq_getElem?_getD, d3 i h1 h2]; rfl
  have hx : ∀ i : Nat, ∀ g ∈ nrm (stc (i : Int) S), g.1 ≤ g.2 := fun i g hg => (nf_bounds _ (nrm_nf _) g hg).2.1
  unfold clsh cls1
  rw [List.any_eq_true]
  constructor
  · rintro ⟨i, hi, h5⟩
    have hi' := List.mem_range.1 hi
    simp only [Bool.and_eq_true, decide_eq_true_eq] at h5
    obtain ⟨k1, k2, k3⟩ := h5
    rw [ho i k1 hi', mtR_iff _ _ (hx i) hm] at k3
    obtain ⟨r, p1, p2⟩ := k3
    have g1 := isin_ge hL p2
    have g2 := isin_le hL p2
    unfold top at g2
    obtain ⟨m, rfl⟩ : ∃ m : Nat, r = (m : Int) := ⟨r.toNat, by omega⟩
    rw [nrm_in, means_nat m (by omega), isin_hd] at p1
    exact ⟨i, m, k2, p1, p2⟩
  · rintro ⟨d, r, k1, k2, k3⟩
    have hd : 1 ≤ d ∧ d < n := by
      obtain ⟨g, hg, h7, _⟩ := k2
      have := hc g hg; omega
    have g2 := isin_le hL k3
    unfold top at g2
    refine ⟨d, List.mem_range.2 hd.2, ?_⟩
    simp only [Bool.and_eq_true, decide_eq_true_eq]
    refine ⟨hd.1, k1, ?_⟩
    rw [ho d hd.1 hd.2, mtR_iff _ _ (hx d) hm]
    exact ⟨(r : Int), by rw [nrm_in, means_nat r (by omega), isin_hd]; exact k2, k3⟩
/-- What a line does to the names and the sets of the document's database. -/
def dcN (U : List (List UInt8)) (D : List (List Rg)) (b : List UInt8) (L : List Rg) : Int × List (List UInt8) × List (List Rg) :=
  if b ∉ U ∧ 64 ≤ U.length then (6, U, D)
  else if clsh D U.length (adn b U).2 L = true then (41, U, D)
  else (0, (adn b U).1, if b ∈ U then D.set (U.idxOf b) (orN (D.getD (U.idxOf b) []) L) else D ++ [orN [] L])
def dcS (U : List (List UInt8)) (D : List (List Rg)) (l : List UInt8) : Int × List (List UInt8) × List (List Rg) :=
  if tls (l.take (ctp l).1) = [] then (0, U, D)
  else if (ctp l).2 < 0 then (42, U, D)
  else if nam (tls ((l.take (ctp l).1).drop ((ctp l).2.toNat + 1))) = false ∨ tls ((l.take (ctp l).1).drop ((ctp l).2.toNat + 1)) = oth then (40, U, D)
  else if (par (((l.take (ctp l).1).take (ctp l).2.toNat).map tbl)).2.1 ≠ 0 then ((par (((l.take (ctp l).1).take (ctp l).2.toNat).map tbl)).2.1, U, D)
  else dcN U D (tls ((l.take (ctp l).1).drop ((ctp l).2.toNat + 1))) (par (((l.take (ctp l).1).take (ctp l).2.toNat).map tbl)).1
/-- The same, over what dl3 tells. -/
def dcO (U : List (List UInt8)) (D : List (List Rg)) : Option (List UInt8 × List Rg × Int) → Int × List (List UInt8) × List (List Rg)
  | none => (42, U, D)
  | some (b, L, e) => if nam b = false ∨ b = oth then (40, U, D) else if e ≠ 0 then (e, U, D) else dcN U D b L
theorem dcS_O (U : List (List UInt8)) (D : List (List Rg)) (l : List UInt8) : dcS U D l = if rlin l = [] then (0, U, D) else dcO U D (dl3 (rlin l)) := by
  have hl : (l.take (fdp 35 l)).length = fdp 35 l := by rw [List.length_take]; have := fdp_le 35 l; omega
  have e2 := ctp_snd l
  unfold dcS
  rw [ctp_fst]
  unfold rlin
  rw [dl3_tls]
  unfold dl3
  rw [hl]
  by_cases h0 : tls (l.take (fdp 35 l)) = []
  · rw [if_pos h0, if_pos h0]
  · rw [if_neg h0, if_neg h0]
    by_cases hc : fdp 59 (l.take (fdp 35 l)) < fdp 35 l
    · rw [if_pos hc] at e2 ⊢
      have e3 : (ctp l).2.toNat = fdp 59 (l.take (fdp 35 l)) := by rw [e2]; rfl
      rw [if_neg (by omega), e3]
      rfl
    · rw [if_neg hc] at e2 ⊢
      rw [if_pos (by omega)]
      rfl
def rdO (U : List (List UInt8)) (S : List Tr) : Option (List UInt8 × List Rg × Int) → Int × List (List UInt8) × List Tr
  | none => (42, U, S)
  | some (b, L, e) => if nam b = false ∨ b = oth then (40, U, S) else if e ≠ 0 then (e, U, S) else if (adn b U).2 = 64 then (6, U, S) else
      match sayL S L (adn b U).2 with
      | none => (41, U, S)
      | some S' => (0, (adn b U).1, S')
theorem rdS_O (U : List (List UInt8)) (S : List Tr) (l : List UInt8) : rdS U S l = if rlin l = [] then (0, U, S) else rdO U S (dl3 (rlin l)) := by
  unfold rdS dl3
  by_cases h0 : rlin l = []
  · rw [if_pos h0, if_pos h0]
  · rw [if_neg h0, if_neg h0]
    have hle := fdp_le 59 (rlin l)
    by_cases hc : fdp 59 (rlin l) = (rlin l).length
    · rw [if_pos hc, if_neg (by omega)]
      rfl
    · rw [if_neg hc, if_pos (show fdp 59 (rlin l) < (rlin l).length by omega)]
      rfl
theorem adn_64 (b : List UInt8) (U : List (List UInt8)) (h : U.length ≤ 64) : (adn b U).2 = 64 ↔ b ∉ U ∧ 64 ≤ U.length := by
  unfold adn
  by_cases hb : b ∈ U
  · rw [if_pos hb]
    have h5 := List.idxOf_lt_length_of_mem hb
    dsimp only
    constructor
    · intro h6; omega
    · intro h6; exact absurd hb h6.1
  · rw [if_neg hb]
    dsimp only
    exact ⟨fun h6 => ⟨hb, by omega⟩, fun h6 => by omega⟩
theorem dl3_nf (s : List UInt8) (b : List UInt8) (L : List Rg) (e : Int) (h : dl3 s = some (b, L, e)) : nf L := by
  unfold dl3 at h
  split at h
  · injection h with h; injection h with _ h; injection h with h _
    rw [← h]; exact par_nf _
  · cases h
theorem nf_ok {L : List Rg} (h : nf L) : okR L := fun g hg => nf_bounds L h g hg
/-- What stands between the lines. -/
structure Both (U : List (List UInt8)) (S : List Tr) (D : List (List Rg)) : Prop where
  good : GoodR U S
  rs : Rs 0 S
  len : U.length ≤ 64
  rel : DRel U.length S D
theorem adn_len (b : List UInt8) (U : List (List UInt8)) (h : U.length ≤ 64) (h4 : (adn b U).2 ≠ 64) : (adn b U).1.length ≤ 64 := by
  unfold adn at *
  by_cases hb : b ∈ U
  · rw [if_pos hb]; exact h
  · rw [if_neg hb] at h4 ⊢
    dsimp only at *
    simp; omega
theorem both_say (U : List (List UInt8)) (S : List Tr) (D : List (List Rg)) (b : List UInt8) (L : List Rg) (S' : List Tr) (h : Both U S D) (hL : nf L) (hb : b ≠ oth) (h4 : (adn b U).2 ≠ 64) (hs : sayL S L (adn b U).2 = some S') (hG : GoodR (adn b U).1 S') :
    Both (adn b U).1 S' (if b ∈ U then D.set (U.idxOf b) (orN (D.getD (U.idxOf b) []) L) else D ++ [orN [] L]) := by
  obtain ⟨q1, q2⟩ := sayL_some L S _ S' h.rs (nf_ok hL) hs
  obtain ⟨d1, d2, d3⟩ := h.rel
  refine ⟨hG, q1, adn_len b U h.len h4, ?_⟩
  have hU0 : 0 < U.length := by
    have := (List.getElem?_eq_some_iff.1 h.good.1).1; exact this
  have key : ∀ d : Nat, d ≠ (adn b U).2 → nrm (stc (d : Int) S') = nrm (stc (d : Int) S) := fun d hd =>
    nf_hd (nrm_nf _) (nrm_nf _) (fun r hr => by
      rw [nrm_in, nrm_in, means_nat r hr, means_nat r hr, isin_hd, isin_hd, q2]
      exact ⟨fun h5 => h5.elim id (fun h6 => absurd h6.1 hd), .inl⟩)
  have keyc : ∀ a : List Rg, nf a → (∀ r : Nat, r ≤ 1114111 → (isin (r : Int) a ↔ Hd (adn b U).2 r S)) → nrm (stc ((adn b U).2 : Int) S') = orN a L := fun a ha hr5 =>
    nf_hd (nrm_nf _) (nrm_nf _) (fun r hr => by
      show _ ↔ isin (r : Int) (orN a L)
      rw [nrm_in, orN_in, means_nat r hr, means_nat r hr, means_nat r hr, isin_hd, q2, hr5 r hr]
      exact ⟨fun h5 => h5.elim .inl (fun h6 => .inr h6.2), fun h5 => h5.elim .inl (fun h6 => .inr ⟨rfl, h6⟩)⟩)
  by_cases hm : b ∈ U
  · have ea : adn b U = (U, U.idxOf b) := by unfold adn; rw [if_pos hm]
    rw [if_pos hm]
    rw [ea] at key keyc ⊢
    have hi := List.idxOf_lt_length_of_mem hm
    have hi0 : U.idxOf b ≠ 0 := fun e => hb (by
      have h5 := List.getElem_idxOf hi
      have h6 := h.good.1
      rw [List.getElem?_eq_getElem hU0] at h6
      injection h6 with h6
      rw [← h5, ← h6]; simp only [e])
    have hgd : D.getD (U.idxOf b) [] = nrm (stc ((U.idxOf b : Nat) : Int) S) := by
      rw [List.getD_eq_getElem?_getD, d3 _ (by omega) hi]; rfl
    refine ⟨by rw [List.length_set]; exact d1, by rw [List.getElem?_set_ne (by omega)]; exact d2, fun d h1 h2 => ?_⟩
    by_cases hd : d = U.idxOf b
    · subst hd
      rw [List.getElem?_set_self (by omega), hgd]
      congr 1
      exact (keyc _ (nrm_nf _) (fun r hr => by rw [nrm_in, means_nat r hr, isin_hd])).symm
    · rw [List.getElem?_set_ne (by omega), d3 d h1 h2, key d hd]
  · have ea : adn b U = (U ++ [b], U.length) := by unfold adn; rw [if_neg hm]
    rw [if_neg hm]
    rw [ea] at key keyc ⊢
    dsimp only at *
    have hl : (U ++ [b]).length = U.length + 1 := by simp
    rw [hl]
    refine ⟨by simp [d1], by rw [List.getElem?_append_left (by omega)]; exact d2, fun d h1 h2 => ?_⟩
    by_cases hd : d = U.length
    · subst hd
      rw [List.getElem?_append_right (by omega), d1, Nat.sub_self]
      show some _ = some _
      congr 1
      refine (keyc [] trivial (fun r hr => ⟨fun h5 => absurd h5 (by simp [isin]), fun h5 => ?_⟩)).symm
      obtain ⟨g, hg, h7, _⟩ := h5
      have := h.good.2 g hg
      omega
    · rw [List.getElem?_append_left (by omega), d3 d h1 (by omega), key d hd]
theorem dc_rd (U : List (List UInt8)) (S : List Tr) (D : List (List Rg)) (l : List UInt8) (h : Both U S D) :
    (dcS U D l).1 = (rdS U S l).1 ∧ ((rdS U S l).1 = 0 → (dcS U D l).2.1 = (rdS U S l).2.1 ∧ Both (rdS U S l).2.1 (rdS U S l).2.2 (dcS U D l).2.2) := by
  have hG := rdS_good U S l h.good
  rw [rdS_O] at hG ⊢
  rw [dcS_O]
  by_cases h0 : rlin l = []
  · rw [if_pos h0, if_pos h0]
    exact ⟨rfl, fun _ => ⟨rfl, h⟩⟩
  · rw [if_neg h0, if_neg h0]
    rw [if_neg h0] at hG
    have hnf := dl3_nf (rlin l)
    generalize dl3 (rlin l) = o at hG hnf ⊢
    cases o with
    | none => exact ⟨rfl, fun h5 => absurd (show (42 : Int) = 0 from h5) (by decide)⟩
    | some x =>
      obtain ⟨b, L, e⟩ := x
      have hL := hnf b L e rfl
      dsimp only [dcO, rdO] at hG ⊢
      by_cases c1 : nam b = false ∨ b = oth
      · rw [if_pos c1, if_pos c1]
        exact ⟨rfl, fun h5 => absurd (show (40 : Int) = 0 from h5) (by decide)⟩
      · rw [if_neg c1, if_neg c1]
        rw [if_neg c1] at hG
        by_cases c2 : e ≠ 0
        · rw [if_pos c2, if_pos c2]
          exact ⟨rfl, fun h5 => absurd h5 c2⟩
        · rw [if_neg c2, if_neg c2]
          rw [if_neg c2] at hG
          unfold dcN
          have h64 := adn_64 b U h.len
          by_cases c3 : (adn b U).2 = 64
          · rw [if_pos c3, if_pos (h64.1 c3)]
            exact ⟨rfl, fun h5 => absurd (show (6 : Int) = 0 from h5) (by decide)⟩
          · rw [if_neg c3, if_neg (fun h5 => c3 (h64.2 h5))]
            rw [if_neg c3] at hG
            have hcl := (clsh_iff U.length S D (adn b U).2 L hL h.good.2 h.rel).trans (sayL_none L S (adn b U).2 h.rs (nf_ok hL)).symm
            cases hs : sayL S L (adn b U).2 with
            | none =>
              rw [if_pos (hcl.2 hs)]
              exact ⟨rfl, fun h5 => absurd (show (41 : Int) = 0 from h5) (by decide)⟩
            | some S' =>
              rw [hs] at hG
              rw [if_neg (fun h5 => by rw [hcl.1 h5] at hs; cases hs)]
              dsimp only at hG ⊢
              exact ⟨rfl, fun _ => ⟨rfl, both_say U S D b L S' h hL (fun h5 => c1 (.inr h5)) c3 hs (hG rfl).1⟩⟩
/-- Lines one behind the other. -/
def dwF : Nat → List (List UInt8) → List (List Rg) → List (List UInt8) → (Int × Nat) × List (List UInt8) × List (List Rg)
  | _, U, D, [] => ((0, 0), U, D)
  | i, U, D, l :: L => if (dcS U D l).1 = 0 then dwF (i + 1) (dcS U D l).2.1 (dcS U D l).2.2 L else (((dcS U D l).1, i + 1), U, D)
theorem dwF_at (i : Nat) (U : List (List UInt8)) (D : List (List Rg)) (L : List (List UInt8)) (k : Nat) (x : List UInt8) (hx : L[k]? = some x) :
    dwF i U D (L.drop k) = if (dcS U D x).1 = 0 then dwF (i + 1) (dcS U D x).2.1 (dcS U D x).2.2 (L.drop (k + 1)) else (((dcS U D x).1, i + 1), U, D) := by
  obtain ⟨hk, rfl⟩ := List.getElem?_eq_some_iff.1 hx
  rw [List.drop_eq_getElem_cons hk]
  rfl
theorem dw_nw : ∀ (L : List (List UInt8)) (i : Nat) (U : List (List UInt8)) (S : List Tr) (D : List (List Rg)), Both U S D →
    (dwF i U D L).1 = (nwF i U S L).1 ∧ ((nwF i U S L).1.1 = 0 → (dwF i U D L).2.1 = (nwF i U S L).2.1 ∧ Both (nwF i U S L).2.1 (nwF i U S L).2.2 (dwF i U D L).2.2)
  | [], i, U, S, D, h => ⟨rfl, fun _ => ⟨rfl, h⟩⟩
  | l :: L, i, U, S, D, h => by
    obtain ⟨h1, h2⟩ := dc_rd U S D l h
    unfold dwF nwF
    rw [h1]
    by_cases h0 : (rdS U S l).1 = 0
    · rw [if_pos h0, if_pos h0]
      obtain ⟨h3, h4⟩ := h2 h0
      rw [h3]
      exact dw_nw L (i + 1) _ _ _ h4
    · rw [if_neg h0, if_neg h0]
      exact ⟨rfl, fun h5 => absurd h5 h0⟩
theorem both_start : Both [oth] [] [[]] := ⟨⟨rfl, fun g hg => by cases hg⟩, trivial, by decide, rfl, rfl, fun d h1 h2 => by simp at h2; omega⟩
/-- How many ranges there are in all. -/
def tot : List (List Rg) → Nat
  | [] => 0
  | l :: D => l.length + tot D
theorem tot_set : ∀ (D : List (List Rg)) (c : Nat) (x : List Rg), tot (D.set c x) ≤ tot D - (D.getD c []).length + x.length
  | [], c, x => by simp [tot]
  | l :: D, 0, x => by show x.length + tot D ≤ l.length + tot D - l.length + x.length; omega
  | l :: D, c + 1, x => by
    have ih := tot_set D c x
    have h5 : (D.getD c []).length ≤ tot D := tot_get D c
    show l.length + tot (D.set c x) ≤ l.length + tot D - (D.getD c []).length + x.length
    omega
where
  tot_get : ∀ (D : List (List Rg)) (c : Nat), (D.getD c []).length ≤ tot D
    | [], c => by simp [tot]
    | l :: D, 0 => by show l.length ≤ l.length + tot D; omega
    | l :: D, c + 1 => by
      have := tot_get D c
      show (D.getD c []).length ≤ l.length + tot D
      omega
end Go.Proofs.YtohhokjlgihbgaaGreatDoor
/- The contract of the document's line. -/
namespace Go.Proofs.YtohhokjlgihbgaaGreatDoor
open Go.RowKit

theorem Tryz.info47 : (Tryz.prog.info? 47).map (fun i => (i.zero, i.size, i.bytes)) = some (some (.slice none 0 0), 1, 24) := by kernel_rfl
theorem rtrim_eq (s : ByteArray) (l m : List UInt8) (hm : m = tls l) (w : World) (hs : s = ⟨l.toArray⟩) (hl : l.length ≤ 1000000000) :
    Calls Tryz.prog 72 #[.string s] w fun e w' => e = .returned (.string ⟨m.toArray⟩) ∧ w' = w := by
  subst hs hm
  exact trim_any l w (by omega)
theorem spaced_eq (s : ByteArray) (l r : List UInt8) (hr : r = l.map tbl) (w : World) (hs : s = ⟨l.toArray⟩) (hl : l.length ≤ 100000) :
    Calls Tryz.prog 74 #[.string s] w fun e w' => e = .returned (.string ⟨r.toArray⟩) ∧ Below w.heap.size w w' := by
  subst hs hr
  exact spaced_any l w (by omega)
theorem news_v (w : World) (b : Value) (T : TypeId) : ∀ j u, [b][j]? = some u → (w.alloc (.cells #[b] T)).cell? ((⟨w.heap.size, 0, none⟩ : Addr).add j) = some u := World.news_of_block (cs := #[b]) (heap_alloc_new w _)
theorem news_vH (w : World) (H : Nat) (hH : w.heap.size = H) (b : Value) (T : TypeId) : ∀ j u, [b][j]? = some u → (w.alloc (.cells #[b] T)).cell? ((⟨H, 0, none⟩ : Addr).add j) = some u := by
  subst hH
  exact news_v w b T
theorem vs_one (b : Value) (h : b.oneCell' = true := by rfl) : ∀ v ∈ [b], v.oneCell' = true := fun v hv => by
  simp at hv; subst hv; exact h
theorem hsw {B Q n sc : Nat} {U : List (List UInt8)} {D : List (List Rg)} {nv : Value} {so : Option Addr} {vs : List Value} {w : World} (h : DocAt B Q U D nv (.slice so n sc) vs w) (hn : n = D.length) : w.ownsRow B 47 1 (.slice so n sc) n vs := by
  have h5 := h.hS
  rw [← hn] at h5
  exact h5
theorem hsz4 {B : Nat} {w w' : World} {o : Obj} (h : w.heap.size ≤ w'.heap.size) (hB : B ≤ w.heap.size) : B ≤ (w'.alloc o).heap.size := by
  rw [World.size_alloc]; omega
theorem hq6 {B Q n sc : Nat} {U : List (List UInt8)} {D : List (List Rg)} {nv : Value} {so : Option Addr} {vs : List Value} {w w2 : World} {o : Obj} (h : DocAt B Q U D nv (.slice so n sc) vs w) (gr : (w.alloc o).grownBy w2 (Value.slice so n sc).ownBlock) : w2.cell? ⟨Q, 1, none⟩ = some (.slice so n sc) ∧ w2.frozen? ⟨Q, 1, none⟩ = false := by
  have hQ2 : w2.heap[Q]? = some (.cells #[nv, .slice so n sc] 79 (0, 0)) := (gr.block Q (by rw [World.size_alloc]; have h5 := lt_of_heap h.hQ; omega) (fun e => row_other h.hS Q _ 79 h.hQ (by decide) e.symm)).trans ((heap_alloc_old w _ Q (lt_of_heap h.hQ)).trans h.hQ)
  exact ⟨cell_row w2 Q 1 [_, _] 79 _ hQ2 rfl, frozen_row hQ2 1⟩
theorem grown_eq {B Q n sc q2 c2 : Nat} {U : List (List UInt8)} {D : List (List Rg)} {nv : Value} {so : Option Addr} {vs : List Value} {w w2 : World} {o : Obj} (h : DocAt B Q U D nv (.slice so n sc) vs w) (hn : n = D.length) (o2 : w2.ownsRow B 47 1 (.slice (some ⟨q2, 0, none⟩) (n + 1) c2) (n + 1) (vs ++ [.slice none 0 0])) (gr : (w.alloc o).grownBy w2 (Value.slice so n sc).ownBlock) :
    DocAt B Q U (D ++ [[]]) nv (.slice (some ⟨q2, 0, none⟩) (n + 1) c2) (vs ++ [.slice none 0 0]) (w2.setCell ⟨Q, 1, none⟩ (.slice (some ⟨q2, 0, none⟩) (n + 1) c2)) ∧ FarQ Q nv nv w (w2.setCell ⟨Q, 1, none⟩ (.slice (some ⟨q2, 0, none⟩) (n + 1) c2)) ∧ Below B w (w2.setCell ⟨Q, 1, none⟩ (.slice (some ⟨q2, 0, none⟩) (n + 1) c2)) := by
  obtain ⟨r1, r2, r3⟩ := h.grown hn ((Below.refl _ w).alloc (Nat.le_refl _) o) o2 gr
  exact ⟨r1, r2, ((Below.refl B w).alloc (by have h5 := lt_of_heap h.hQ; have h6 := h.bQ; omega) _).trans r3⟩
theorem row_q {B Q : Nat} {U : List (List UInt8)} {D : List (List Rg)} {nv nv' sv : Value} {vs : List Value} {w w' : World} (h : DocAt B Q U D nv sv vs w) (hf : FarQ Q nv nv' w w') {B' s n : Nat} {v : Value} {xs : List Value} (hr : w.ownsRow B' 84 s v n xs) : w'.ownsRow B' 84 s v n xs :=
  row_keep hr (fun b hb => hf.st b (hr.lt b hb).2 (fun e => by subst e; exact row_other hr b _ 79 h.hQ (by decide) hb) (fun e => row_ne h.hN hr (by decide) e hb) (fun cs f e => by obtain ⟨c, hc⟩ := row_blk hr hb; rw [hc] at e; cases e))
theorem ctp_lt (l : List UInt8) (h : ¬ (ctp l).2 < 0) : (ctp l).2.toNat < (l.take (ctp l).1).length := by
  have e2 := ctp_snd l
  have hl : (l.take (fdp 35 l)).length = fdp 35 l := by rw [List.length_take]; have := fdp_le 35 l; omega
  rw [ctp_fst, hl]
  by_cases hc : fdp 59 (l.take (fdp 35 l)) < fdp 35 l
  · rw [if_pos hc] at e2
    rw [e2]
    exact hc
  · rw [if_neg hc] at e2
    omega
theorem cls1_one (D : List (List Rg)) (c : Nat) (L : List Rg) : ∀ j, j < 1 → cls1 D c L j = false := fun j hj => by
  have h : j = 0 := by omega
  subst h
  rfl
theorem clsh_no (D : List (List Rg)) (n c : Nat) (L : List Rg) (h : ∀ j, j < n → cls1 D c L j = false) : clsh D n c L = false := by
  unfold clsh
  rw [List.any_eq_false]
  intro x hx
  rw [h x (List.mem_range.1 hx)]
  decide
theorem clsh_yes (D : List (List Rg)) (n c : Nat) (L : List Rg) (j : Nat) (hj : j < n) (h : cls1 D c L j = true) : clsh D n c L = true := by
  unfold clsh
  exact List.any_eq_true.2 ⟨j, List.mem_range.2 hj, h⟩
set_option maxRecDepth 100000 in
set_option maxHeartbeats 6000000 in
theorem rline_any (B Q : Nat) (U : List (List UInt8)) (D : List (List Rg)) (nv sv : Value) (vs : List Value) (l : List UInt8) (w : World) (h : DocAt B Q U D nv sv vs w) (hB : B ≤ w.heap.size) (hl : l.length ≤ 12000) (hU : U.length ≤ 64) (hU0 : 1 ≤ U.length) (hUD : D.length = U.length) (hD : ∀ x ∈ D, x.length ≤ 20000) :
    Calls Tryz.prog 39 #[.pointer (some ⟨Q, 0, none⟩), .string ⟨l.toArray⟩] w fun e w' => e = .returned (.int .i64 (dcS U D l).1) ∧ Below B w w' ∧
      ((dcS U D l).1 = 0 → ∃ nv' sv' vs', DocAt B Q (dcS U D l).2.1 (dcS U D l).2.2 nv' sv' vs' w' ∧ FarQ Q nv nv' w w') := by
  obtain ⟨i9, hi9, hz90, hz91, hz92⟩ := info_parts Tryz.info9
  obtain ⟨i47, hi47, hz470, hz471, hz472⟩ := info_parts Tryz.info47
  have HR := hid h
  obtain ⟨N, hN⟩ : ∃ N, N = w.heap.size := ⟨_, rfl⟩
  have HN := hid hN
  have hBN : B ≤ N := by omega
  obtain ⟨R, hR⟩ : ∃ R, R = dcS U D l := ⟨_, rfl⟩
  rw [← hR]
  unfold dcS at hR
  have hzl := ctp_lt l
  obtain ⟨z, hz⟩ : ∃ z, z = (ctp l).2 := ⟨_, rfl⟩
  obtain ⟨s, hs⟩ : ∃ s, s = l.take (ctp l).1 := ⟨_, rfl⟩
  have hsl : s.length ≤ 12000 := by rw [hs, List.length_take]; omega
  have HCU := hid (rcut_any l w (by omega))
  rw [← hs, ← hz] at hR hzl
  rw [← hs, ← hz] at HCU
  obtain ⟨t, ht⟩ : ∃ t, t = tls s := ⟨_, rfl⟩
  have HT1 := hid (show ∀ W, Calls Tryz.prog 72 #[.string ⟨s.toArray⟩] W fun e w' => e = .returned (.string ⟨t.toArray⟩) ∧ w' = W from fun W => rtrim_eq _ s t ht W rfl (by omega))
  rw [← ht] at hR
  have HR' := hid hR
  have HZL := hid hzl
  have HSZ := hid (show (⟨s.toArray⟩ : ByteArray).size = s.length by show s.toArray.size = _; simp)
  clear hs ht hR hzl h hz hN
  go_enter Tryz.func39, Tryz.ntmps39
  go_wp2_with fail
  refine HCU.out.mono ?_
  rintro e w1 ⟨rfl, b1⟩
  have HB1 := hid (show Below N w w1 by rw [HN.out]; exact b1)
  clear b1 HCU
  go_wp2_with fail
  refine (HT1.out w1).mono ?_
  rintro e w1' ⟨rfl, hw⟩
  obtain rfl := hw.symm
  clear HT1
  by_cases hz0 : t = []
  · have HE := hid (show R = (0, U, D) by rw [HR'.out, if_pos hz0])
    subst hz0
    go_wp2
    go_ret
    rw [HE.out]
    exact ⟨rfl, HB1.out.mono hBN, fun _ => ⟨nv, sv, vs, HR.out.below (by rw [← HN.out]; exact HB1.out), .of_below (by rw [← HN.out]; exact HB1.out)⟩⟩
  have hie : t.isEmpty = false := by cases t with | nil => exact absurd rfl hz0 | cons => rfl
  have HE1 := hid (show R = _ by rw [HR'.out, if_neg hz0])
  clear hz0 HR'
  by_cases hneg : z < 0
  · have HE := hid (show R = (42, U, D) by rw [HE1.out, if_pos hneg])
    go_wp2
    go_ret
    rw [HE.out]
    exact ⟨rfl, HB1.out.mono hBN, fun h => by cases h⟩
  have HE2 := hid (show R = _ by rw [HE1.out, if_neg hneg])
  have hml := HZL.out (by omega)
  obtain ⟨m, rfl⟩ : ∃ m : Nat, z = (m : Int) := ⟨z.toNat, by omega⟩
  rw [Int.toNat_natCast] at hml
  have HTN := hid (show ((m : Int)).toNat = m from Int.toNat_natCast m)
  rw [HTN.out] at HE2
  obtain ⟨b, hb⟩ : ∃ b, b = tls (s.drop (m + 1)) := ⟨_, rfl⟩
  have hbl : b.length ≤ 12000 := by rw [hb]; have h5 := tls_len (s.drop (m + 1)); rw [List.length_drop] at h5; omega
  obtain ⟨sp, hsp⟩ : ∃ sp, sp = (s.take m).map tbl := ⟨_, rfl⟩
  have hspl : sp.length ≤ 12000 := by rw [hsp, List.length_map, List.length_take]; omega
  rw [← hb, ← hsp] at HE2
  have HT2 := hid (show ∀ W, Calls Tryz.prog 72 #[.string ((⟨s.toArray⟩ : ByteArray).extract (m + 1) s.length)] W fun e w' => e = .returned (.string ⟨b.toArray⟩) ∧ w' = W from fun W => rtrim_eq _ (s.drop (m + 1)) b hb W (ext_drop s (m + 1)) (by simp; omega))
  have HSP := hid (show ∀ W, Calls Tryz.prog 74 #[.string ((⟨s.toArray⟩ : ByteArray).extract 0 m)] W fun e w' => e = .returned (.string ⟨sp.toArray⟩) ∧ Below W.heap.size W w' from fun W => spaced_eq _ (s.take m) sp hsp W (ext_take s m) (by simp; omega))
  have HPA := hid (fun W => rparse_any sp W (by omega))
  have HGL := hid (show (par sp).1.length ≤ 12000 by have h5 := par_len sp; omega)
  obtain ⟨G, hG⟩ : ∃ G, G = (par sp).1 := ⟨_, rfl⟩
  obtain ⟨er, her⟩ : ∃ er, er = (par sp).2.1 := ⟨_, rfl⟩
  obtain ⟨ep, hep⟩ : ∃ ep, ep = (par sp).2.2 := ⟨_, rfl⟩
  rw [← hG, ← her] at HE2
  rw [← hG] at HGL
  rw [← hG, ← her, ← hep] at HPA
  have HNA := hid (show ∀ W, Calls Tryz.prog 31 #[.string ⟨b.toArray⟩] W fun e w' => e = .returned (.bool (nam b)) ∧ w' = W from fun W => rname_any b W (by omega))
  have e1 : IntKind.i64.wrap ((m : Int) + 1) = ((m + 1 : Nat) : Int) := by rw [IntKind.wrap_i64]; omega
  have j1 : (m : Int) + 1 ≤ (s.length : Int) := by omega
  have j0 : (0 : Int) ≤ (m : Int) + 1 := by omega
  have j2 : (m : Int) ≤ (s.length : Int) := by omega
  have j3 : (0 : Int) ≤ (m : Int) := by omega
  clear HZL HE1 hb hsp hG her hep HTN
  go_wp2_with fail
  refine (HT2.out w1).mono ?_
  rintro e w1' ⟨rfl, hw⟩
  obtain rfl := hw.symm
  clear HT2
  go_wp2_with fail
  refine (HNA.out w1).mono ?_
  rintro e w1' ⟨rfl, hw⟩
  obtain rfl := hw.symm
  clear HNA
  cases hna : nam b with
  | false =>
    have HE := hid (show R = (40, U, D) by rw [HE2.out, if_pos (.inl hna)])
    clear hna
    go_wp2
    go_ret
    rw [HE.out]
    exact ⟨rfl, HB1.out.mono hBN, fun h => by cases h⟩
  | true =>
    by_cases ho : b = oth
    · have HE := hid (show R = (40, U, D) by rw [HE2.out, if_pos (.inr ho)])
      subst ho
      clear hna
      go_wp2
      go_ret
      rw [HE.out]
      exact ⟨rfl, HB1.out.mono hBN, fun h => by cases h⟩
    have HE3 := hid (show R = _ by rw [HE2.out, if_neg (by rw [hna]; rintro (h | h); cases h; exact ho h)])
    have ho' : (b == [79, 116, 104, 101, 114]) = false := by
      rw [beq_eq_false_iff_ne]; exact ho
    clear HE2 ho hna
    go_wp2_with fail
    refine (HSP.out w1).mono ?_
    rintro e w2 ⟨rfl, b2⟩
    have HB2 := hid (HB1.out.trans (b2.mono (by have h5 := HN.out; have h6 := HB1.out.size; omega)))
    clear b2 HB1 HSP ho'
    go_wp2_with fail
    refine (HPA.out w2).mono ?_
    rintro e w3 ⟨v3, rfl, o3, b3⟩
    have HB3 := hid (HB2.out.trans (b3.mono (by have h5 := HN.out; have h6 := HB2.out.size; omega)))
    have HO3 := hid (ownsRow_base2 o3 (show B ≤ w2.heap.size by have h5 := HN.out; have h6 := HB2.out.size; omega))
    clear b3 HB2 HPA o3
    by_cases he : er = 0
    · subst he
      have HE4 := hid (show R = dcN U D b G by rw [HE3.out, if_neg (by simp)])
      have HR3 := hid (HR.out.below (show Below w.heap.size w w3 by rw [← HN.out]; exact HB3.out))
      obtain ⟨no, nc, rfl, hrdn⟩ := rdn_own HR3.out.hN rfl
      obtain ⟨so, sc, rfl, hrdd⟩ := HR3.out.rd
      obtain ⟨go, gc, rfl, hgr, hgn⟩ := rdr_row3 HO3.out
      have c0 := HR3.out.c0
      have c1 := HR3.out.c1
      have HRD := hid hrdd
      have HGR := hid hgr
      have HGN := hid hgn
      have HCL := hid (rclass_any Q no nc U.length U b w3 c0 hrdn rfl (by omega))
      clear HE3 HR hrdn hrdd hgr hgn
      by_cases hm : b ∈ U
      · have HD1 := hid (show clx U b = ((U.idxOf b : Nat) : Int) by unfold clx; rw [if_pos hm])
        have HD2 := hid (show cly U b = true from decide_eq_true hm)
        rw [HD1.out, HD2.out] at HCL
        have hcU := List.idxOf_lt_length_of_mem hm
        have HAD := hid (show adn b U = (U, U.idxOf b) by unfold adn; rw [if_pos hm])
        have HE5 := hid (show R = if clsh D U.length (U.idxOf b) G = true then (41, U, D) else (0, U, D.set (U.idxOf b) (orN (D.getD (U.idxOf b) []) G)) by
          rw [HE4.out]; unfold dcN; rw [if_neg (fun h => h.1 hm), HAD.out, if_pos hm])
        obtain ⟨c, hc⟩ : ∃ c, c = U.idxOf b := ⟨_, rfl⟩
        rw [← hc] at HCL hcU HE5
        clear hm HD1 HD2 HAD HE4 hc
        obtain ⟨n, hn⟩ : ∃ n, n = U.length := ⟨_, rfl⟩
        have HNU := hid hn
        have HNDn := hid (show n = D.length by omega)
        rw [← hn] at c0 hU hcU HE5
        have hDn : D.length = n := by omega
        rw [hDn] at c1
        clear hn hUD hDn
        go_wp2_with fail
        refine HCL.out.mono ?_
        rintro e w3' ⟨rfl, hw⟩
        obtain rfl := hw.symm
        clear HCL
        go_wp2
        go_loopw [12] (fun x wr => ∃ i : Nat, 1 ≤ i ∧ i ≤ n ∧ x = .int .i64 (i : Int) ∧ Hid (∀ j, j < i → cls1 D c G j = false) ∧ Hid (Below w3.heap.size w3 wr)) (fun x _ => n - (intOf x).toNat)
        case atStart => exact ⟨1, by omega, by omega, rfl, cls1_one D c G, Below.refl _ _⟩
        case round =>
          obtain ⟨i, hi1, hi, rfl, HI, HBr⟩ := hrel
          have d0 := (HBr.out.cell (p := ⟨Q, 0, none⟩) (lt_of_heap HR3.out.hQ)).trans c0
          have d1 := (HBr.out.cell (p := ⟨Q, 1, none⟩) (lt_of_heap HR3.out.hQ)).trans c1
          by_cases hlt : i < n
          · have i3 : (i : Int) < (n : Int) := by omega
            by_cases hic : i = c
            · have i4 : ((i : Int) != (c : Int)) = false := by rw [hic]; simp
              have HZ := hid (show ∀ j, j < i + 1 → cls1 D c G j = false from fun j hj => by
                by_cases h5 : j < i
                · exact HI.out j h5
                · have h6 : j = c := by omega
                  unfold cls1; rw [h6]; simp)
              clear hic
              go_wp2
              go_roundw
              case rel => exact ⟨i + 1, by omega, by omega, by go_num, HZ, HBr⟩
              case measure => simp [intOf]; omega
            · have i4 : ((i : Int) != (c : Int)) = true := bne_iff_ne.2 (by omega)
              have hiD : i < D.length := by have h5 := HNDn.out; omega
              obtain ⟨a, rfl, ha, ao, ac, a0, hra, hna⟩ := HRD.out.below HBr.out i D[i] (List.getElem?_eq_getElem hiD)
              have HXL := hid (hD D[i] (List.getElem_mem hiD))
              have HME := hid (meet_any ao go ac gc D[i] G wr hra (HGR.out.below HBr.out) (by have h5 := HXL.out; omega) (by have h5 := HGL.out; omega))
              have HC1 := hid (show cls1 D c G i = mtR D[i] G by
                unfold cls1
                rw [decide_eq_true hi1, decide_eq_true hic, List.getD_eq_getElem?_getD, List.getElem?_eq_getElem hiD]; rfl)
              have i0 : (0 : Int) ≤ (i : Int) := by omega
              generalize D[i].length = nx at *
              obtain ⟨mt, hmt⟩ : ∃ mt, mt = mtR D[i] G := ⟨_, rfl⟩
              rw [← hmt] at HME HC1
              clear hmt hic hra hna hiD
              cases mt with
              | true =>
                have HE := hid (show R = (41, U, D) by rw [HE5.out, if_pos (clsh_yes D n c G i hlt HC1.out)])
                go_wp2_with fail
                refine HME.out.mono ?_
                rintro e w4 ⟨rfl, b4⟩
                have HB4 := hid (HBr.out.trans (b4.mono HBr.out.size))
                clear b4 HME
                go_wp2
                go_ret
                rw [HE.out]
                exact ⟨rfl, (HB3.out.mono hBN).trans (HB4.out.mono (by have h5 := HB3.out.size; have h6 := HN.out; omega)), fun h => by cases h⟩
              | false =>
                have HZ := hid (show ∀ j, j < i + 1 → cls1 D c G j = false from fun j hj => by
                  by_cases h5 : j < i
                  · exact HI.out j h5
                  · have h6 : j = i := by omega
                    rw [h6]; exact HC1.out)
                go_wp2_with fail
                refine HME.out.mono ?_
                rintro e w4 ⟨rfl, b4⟩
                have HB4 := hid (HBr.out.trans (b4.mono HBr.out.size))
                clear b4 HME
                go_wp2
                go_roundw
                case rel => exact ⟨i + 1, by omega, by omega, by go_num, HZ, HB4⟩
                case measure => simp [intOf]; omega
          · have hin : i = n := by omega
            have i3 : ¬ (i : Int) < (n : Int) := by omega
            have HEZ := hid (show R = (0, U, D.set c (orN (D.getD c []) G)) by rw [HE5.out, if_neg (by rw [clsh_no D n c G (fun j hj => HI.out j (by omega))]; decide)])
            have HRr := hid (HR3.out.below HBr.out)
            have hwr := HBr.out.size
            have hw3 := HB3.out.size
            clear hin HI HRD HE5 c0 c1
            have hcD : c < D.length := (by have h5 := HNDn.out; omega)
            obtain ⟨q, cap, hq, _, hqs⟩ := HRr.out.hS.form (by omega)
            cases hq
            obtain ⟨vc, hv1, hv2⟩ := HRr.out.hV c D[c] (List.getElem?_eq_getElem hcD)
            obtain ⟨ao, ac, rfl, hra, hrn⟩ := rdr_row3 hv2
            have HXL := hid (show D[c].length ≤ 20000 from hD _ (List.getElem_mem hcD))
            have HHS := hid (show wr.ownsRow B 47 1 (.slice (some ⟨q, 0, none⟩) D.length sc) D.length vs from HRr.out.hS)
            have HS1 := hid (show wr.cell? ⟨Q, 1, none⟩ = some (.slice (some ⟨q, 0, none⟩) D.length sc) from HRr.out.c1)
            have HS2 := hid (show wr.cell? ⟨q, c, none⟩ = some (.slice ao D[c].length ac) by rw [HHS.out.cellAt c (by omega)]; exact hv1)
            have HGW := hid (show RdR wr go G from HGR.out.below HBr.out)
            have HRA := hid hra
            have HOR := hid (show Calls Tryz.prog 76 #[.slice ao D[c].length ac, .slice go G.length gc] wr.drew fun e w' => ∃ v, e = .returned v ∧ w'.ownsRow wr.heap.size 84 2 v (orN D[c] G).length (rgcs (orN D[c] G)) ∧ Below wr.heap.size wr.drew w' from ror_any ao go ac gc D[c] G wr.drew (HRA.out.below (bdrew wr)) (HGW.out.below (bdrew wr)) hrn HGN.out (by have h5 := HXL.out; omega) (by have h5 := HGL.out; omega))
            have HGD := hid (show D.getD c [] = D[c] by rw [List.getD_eq_getElem?_getD, List.getElem?_eq_getElem hcD]; rfl)
            rw [HGD.out] at HEZ
            obtain ⟨xc, hxc⟩ : ∃ xc, xc = orN D[c] G := ⟨_, rfl⟩
            rw [← hxc] at HOR HEZ
            have HC2 := hid (show ∀ W', Below wr.heap.size wr W' → W'.cell? ⟨Q, 1, none⟩ = some (.slice (some ⟨q, 0, none⟩) D.length sc) ∧ W'.cell? ⟨q, c, none⟩ = some (.slice ao D[c].length ac) from fun W' hW => ⟨(hW.cell (p := ⟨Q, 1, none⟩) (lt_of_heap HRr.out.hQ)).trans HS1.out, (hW.cell (p := ⟨q, c, none⟩) hqs).trans HS2.out⟩)
            generalize D[c].length = nx at HOR HC2
            obtain ⟨nd, hnd⟩ : ∃ nd, nd = D.length := ⟨_, rfl⟩
            rw [← hnd] at HC2
            have k1 : (c : Int) < (nd : Int) := by omega
            have k0 : (0 : Int) ≤ (c : Int) := by omega
            have HND := hid hnd
            clear HS1 HS2 HRA HGW hra hrn hv1 hv2 hxc HGD hnd
            go_wp2
            refine wp_region_mixC [(0, 1), (1, 1), (2, 1), (3, 0), (4, 1), (5, 1), (6, 1), (7, 1), (8, 0), (9, 1), (10, 1), (11, 0), (12, 1), (13, 2), (14, 1), (15, 2)] (fun W => W.cell? ⟨Q, 1, none⟩ = some (.slice (some ⟨q, 0, none⟩) nd sc) ∧ W.cell? ⟨q, c, none⟩ = some (.slice ao nx ac)) (fun _ => True) (fun j => j == 15) (by kernel_rfl) (by kernel_rfl) (fun j hj => by simp at hj; rw [hj]; decide) rfl (by kernel_rfl) (HC2.out _ (bdrew wr)) trivial ?_
            iterate 13 ((first | refine mixC_s ?_ rfl (by kernel_rfl) (fun w' hS => ?_) ?_ | refine mixC_t ?_ rfl (by kernel_rfl) (fun w' hS => ?_) ?_); (rotate_left; ((first | obtain ⟨s1, s2⟩ := hS | clear hS); go_simp; with_reducible rfl); rotate_left))
            simp only [Act.put, List.setIfInBounds_toArray]
            refine mixC_go rfl (by kernel_rfl) fun KK hKK => ?_
            go_simp
            refine HOR.out.mono ?_
            rintro e w5 ⟨v5, rfl, o5, b5⟩
            have b5' : Below wr.heap.size wr w5 := (bdrew wr).trans b5
            have HR5 := hid (HRr.out.below b5')
            have HO5 := hid (ownsRow_base2 o5 (show B ≤ wr.heap.size from (by have h5 := HN.out; omega)))
            obtain ⟨d5, f5, l5⟩ := HR5.out.store rfl hcD HO5.out
            obtain ⟨xo, xcp, rfl⟩ := own_form HO5.out
            have p1 := (HC2.out w5 b5').2
            have HHS5 := hid (own_keep HHS.out b5')
            have p2 := HHS5.out.frozenAt c
            have HD5 := hid d5
            have HF5 := hid (show FarQ Q _ _ w _ from (FarQ.of_below (Q := Q) (show Below w.heap.size w wr by rw [← HN.out]; exact HB3.out.trans (HBr.out.mono (by have h5 := HN.out; omega)))).trans ((FarQ.of_below b5').trans f5))
            have HB5 := hid (show Below B w _ from (((HB3.out.mono hBN).trans (HBr.out.mono (by have h5 := HN.out; omega))).trans (b5'.mono (by have h5 := HN.out; omega))).trans l5)
            refine hKK _ _ (fun _ => HC2.out w5 b5') trivial ?_
            clear hKK KK o5 b5 b5' d5 f5 l5 HR5 HO5
            refine mixC_t ?_ rfl (by kernel_rfl) (fun w' hS => ?_) ?_; (rotate_left; (go_simp; with_reducible rfl); rotate_left)
            simp only [Act.put, List.setIfInBounds_toArray]
            refine mixC_go rfl (by kernel_rfl) fun KK hKK => ?_
            go_simp
            refine hKK _ _ (fun h => by cases h) trivial ?_
            clear hKK KK p1 p2
            refine mixC_end (NoPanic.normal ?_)
            go_wp2
            go_ret
            rw [HEZ.out]
            exact ⟨rfl, HB5.out, fun _ => ⟨_, _, _, HD5.out, HF5.out⟩⟩
      · have HD1 := hid (show clx U b = 0 by unfold clx; rw [if_neg hm])
        have HD2 := hid (show cly U b = false from decide_eq_false hm)
        rw [HD1.out, HD2.out] at HCL
        have HAD := hid (show adn b U = (U ++ [b], U.length) by unfold adn; rw [if_neg hm])
        have HE5' := hid (show R = if 64 ≤ U.length then (6, U, D) else if clsh D U.length U.length G = true then (41, U, D) else (0, U ++ [b], D ++ [orN [] G]) by
          rw [HE4.out]; unfold dcN; rw [HAD.out, if_neg hm]
          by_cases h6 : 64 ≤ U.length
          · rw [if_pos ⟨hm, h6⟩, if_pos h6]
          · rw [if_neg (fun h => h6 h.2), if_neg h6])
        clear hm HD1 HD2 HAD HE4
        obtain ⟨n, hn⟩ : ∃ n, n = U.length := ⟨_, rfl⟩
        have HNU := hid hn
        have HNDn := hid (show n = D.length by omega)
        rw [← hn] at c0 hU hU0 HE5'
        have hDn : D.length = n := by omega
        rw [hDn] at c1
        have hn0 : 1 ≤ n := hU0
        clear hn hUD hDn
        by_cases h64 : 64 ≤ n
        · have HE := hid (show R = (6, U, D) by rw [HE5'.out, if_pos h64])
          have h64' : (64 : Int) ≤ (n : Int) := by omega
          go_wp2_with fail
          refine HCL.out.mono ?_
          rintro e w3' ⟨rfl, hw⟩
          obtain rfl := hw.symm
          clear HCL
          go_wp2
          go_ret
          rw [HE.out]
          exact ⟨rfl, HB3.out.mono hBN, fun h => by cases h⟩
        have HE5 := hid (show R = _ by rw [HE5'.out, if_neg h64])
        have h64' : ¬ (64 : Int) ≤ (n : Int) := by omega
        clear HE5' h64
        go_wp2_with fail
        refine HCL.out.mono ?_
        rintro e w3' ⟨rfl, hw⟩
        obtain rfl := hw.symm
        clear HCL
        go_wp2
        go_loopw [12] (fun x wr => ∃ i : Nat, 1 ≤ i ∧ i ≤ n ∧ x = .int .i64 (i : Int) ∧ Hid (∀ j, j < i → cls1 D n G j = false) ∧ Hid (Below w3.heap.size w3 wr)) (fun x _ => n - (intOf x).toNat)
        case atStart => exact ⟨1, by omega, hn0, rfl, cls1_one D n G, Below.refl _ _⟩
        case round =>
          obtain ⟨i, hi1, hi, rfl, HI, HBr⟩ := hrel
          have d0 := (HBr.out.cell (p := ⟨Q, 0, none⟩) (lt_of_heap HR3.out.hQ)).trans c0
          have d1 := (HBr.out.cell (p := ⟨Q, 1, none⟩) (lt_of_heap HR3.out.hQ)).trans c1
          by_cases hlt : i < n
          · have i3 : (i : Int) < (n : Int) := by omega
            by_cases hic : i = n
            · have i4 : ((i : Int) != (n : Int)) = false := by rw [hic]; simp
              have HZ := hid (show ∀ j, j < i + 1 → cls1 D n G j = false from fun j hj => by
                by_cases h5 : j < i
                · exact HI.out j h5
                · have h6 : j = n := by omega
                  unfold cls1; rw [h6]; simp)
              clear hic
              go_wp2
              go_roundw
              case rel => exact ⟨i + 1, by omega, by omega, by go_num, HZ, HBr⟩
              case measure => simp [intOf]; omega
            · have i4 : ((i : Int) != (n : Int)) = true := bne_iff_ne.2 (by omega)
              have hiD : i < D.length := by have h5 := HNDn.out; omega
              obtain ⟨a, rfl, ha, ao, ac, a0, hra, hna⟩ := HRD.out.below HBr.out i D[i] (List.getElem?_eq_getElem hiD)
              have HXL := hid (hD D[i] (List.getElem_mem hiD))
              have HME := hid (meet_any ao go ac gc D[i] G wr hra (HGR.out.below HBr.out) (by have h5 := HXL.out; omega) (by have h5 := HGL.out; omega))
              have HC1 := hid (show cls1 D n G i = mtR D[i] G by
                unfold cls1
                rw [decide_eq_true hi1, decide_eq_true hic, List.getD_eq_getElem?_getD, List.getElem?_eq_getElem hiD]; rfl)
              have i0 : (0 : Int) ≤ (i : Int) := by omega
              generalize D[i].length = nx at *
              obtain ⟨mt, hmt⟩ : ∃ mt, mt = mtR D[i] G := ⟨_, rfl⟩
              rw [← hmt] at HME HC1
              clear hmt hic hra hna hiD
              cases mt with
              | true =>
                have HE := hid (show R = (41, U, D) by rw [HE5.out, if_pos (clsh_yes D n n G i hlt HC1.out)])
                go_wp2_with fail
                refine HME.out.mono ?_
                rintro e w4 ⟨rfl, b4⟩
                have HB4 := hid (HBr.out.trans (b4.mono HBr.out.size))
                clear b4 HME
                go_wp2
                go_ret
                rw [HE.out]
                exact ⟨rfl, (HB3.out.mono hBN).trans (HB4.out.mono (by have h5 := HB3.out.size; have h6 := HN.out; omega)), fun h => by cases h⟩
              | false =>
                have HZ := hid (show ∀ j, j < i + 1 → cls1 D n G j = false from fun j hj => by
                  by_cases h5 : j < i
                  · exact HI.out j h5
                  · have h6 : j = i := by omega
                    rw [h6]; exact HC1.out)
                go_wp2_with fail
                refine HME.out.mono ?_
                rintro e w4 ⟨rfl, b4⟩
                have HB4 := hid (HBr.out.trans (b4.mono HBr.out.size))
                clear b4 HME
                go_wp2
                go_roundw
                case rel => exact ⟨i + 1, by omega, by omega, by go_num, HZ, HB4⟩
                case measure => simp [intOf]; omega
          · have hin : i = n := by omega
            have i3 : ¬ (i : Int) < (n : Int) := by omega
            have HEZ0 := hid (show R = (0, U ++ [b], D ++ [orN [] G]) by rw [HE5.out, if_neg (by rw [clsh_no D n n G (fun j hj => HI.out j (by omega))]; decide)])
            have HRr := hid (HR3.out.below HBr.out)
            have hwr := HBr.out.size
            have hw3 := HB3.out.size
            have HGr := hid (HO3.out)
            clear hin HI HRD HE5 c0 c1
            have HP1 := hid (show ∀ (w4 : World), (wr.alloc (.cells #[.string ⟨b.toArray⟩] 9)).grownBy w4 (Value.slice no n nc).ownBlock → w4.heap[Q]? = some (.cells #[.slice no n nc, .slice so n sc] 79 (0, 0)) from fun w4 gr => by
              have h6 := HRr.out.hQ
              rw [← HNU.out, ← HNDn.out] at h6
              have h7 := HRr.out.hN
              rw [← HNU.out] at h7
              exact (gr.block Q (by simp; have h5 := lt_of_heap h6; omega) (fun e => row_other h7 Q _ 79 h6 (by decide) e.symm)).trans ((heap_alloc_old wr _ Q (lt_of_heap h6)).trans h6))
            have HRW := hid (show wr.ownsRow B 9 1 (.slice no n nc) n (nms U) by have h7 := HRr.out.hN; rw [← HNU.out] at h7; exact h7)
            have HBW := hid (show B ≤ wr.heap.size by have h5 := HN.out; omega)
            have hBW := HBW.out
            have HNM := hid (show ∀ (q2 c2 : Nat) (w4 : World), w4.ownsRow B 9 1 (.slice (some ⟨q2, 0, none⟩) (n + 1) c2) (n + 1) (nms U ++ [.string ⟨b.toArray⟩]) → (wr.alloc (.cells #[.string ⟨b.toArray⟩] 9)).grownBy w4 (Value.slice no n nc).ownBlock → ((Value.slice no n nc).ownBlock = some q2 ∨ q2 = wr.heap.size + 1) →
                DocAt B Q (U ++ [b]) D (.slice (some ⟨q2, 0, none⟩) (n + 1) c2) (.slice so n sc) vs (w4.setCell ⟨Q, 0, none⟩ (.slice (some ⟨q2, 0, none⟩) (n + 1) c2)) ∧ FarQ Q (.slice no n nc) (.slice (some ⟨q2, 0, none⟩) (n + 1) c2) wr (w4.setCell ⟨Q, 0, none⟩ (.slice (some ⟨q2, 0, none⟩) (n + 1) c2)) ∧ Below B wr (w4.setCell ⟨Q, 0, none⟩ (.slice (some ⟨q2, 0, none⟩) (n + 1) c2)) from fun q2 c2 w4 o4 gr hl4 => by
              have h6 := HRr.out
              rw [← HNU.out, ← HNDn.out] at h6
              obtain ⟨r1, r2, r3⟩ := h6.named HNU.out ((Below.refl _ wr).alloc (Nat.le_refl _) (.cells #[.string ⟨b.toArray⟩] 9)) o4 gr (by rw [World.size_alloc]; exact hl4)
              exact ⟨r1, r2, ((Below.refl B wr).alloc hBW _).trans r3⟩)
            go_wp2_with (first | (at_builtin; refine wpList_append_lies _ rfl _ _ 45 rfl B 9 i9 (.string ⟨#[]⟩) 1 16 Tryz.underlying45 hi9 hz90 hz91 hz92 rfl (by decide) _ n (nms U) rfl (HRW.out.alloc _) ⟨wr.heap.size, 0, none⟩ 1 1 [.string ⟨b.toArray⟩] rfl rfl (news_s wr ⟨b.toArray⟩ 9) (str_one _) (by decide) (by unfold maxLen; omega) (by omega) (by simp; omega) (wr.heap.size + 1) (by simp) ?_; intro q2 c2 w4 o4 gr4 hl4 hlt4; have f0 := HP1.out w4 gr4; have f1 : w4.cell? ⟨Q, 0, none⟩ = some (.slice no n nc) := cell_row w4 Q 0 [_, _] 79 _ f0 rfl; have f2 := frozen_row f0 0; have f3 : w4.cell? ⟨Q, 1, none⟩ = some (.slice so n sc) := cell_row w4 Q 1 [_, _] 79 _ f0 rfl; have HD4 := hid (HNM.out q2 c2 w4 o4 gr4 hl4); clear f0 o4 gr4 hl4 hlt4) | (at_builtin; refine wpList_append_lies _ rfl _ _ 77 rfl B 47 i47 (.slice none 0 0) 1 24 Tryz.underlying77 hi47 hz470 hz471 hz472 rfl (by decide) _ n vs rfl (World.ownsRow.alloc (hsw HD4.out.1 HNDn.out) _) ⟨w4.heap.size, 0, none⟩ 1 1 [.slice none 0 0] rfl rfl (news_vH _ w4.heap.size (by simp [World.setCell]) _ 47) (vs_one _) (by decide) (by unfold maxLen; omega) (by omega) (hsz4 HD4.out.2.2.size hBW) (w4.heap.size + 1) (by simp [World.setCell]) ?_; intro q3 c3 w6 o6 gr6 hl6 hlt6; have HD6 := hid (grown_eq HD4.out.1 HNDn.out o6 gr6); have f4 := (hq6 HD4.out.1 gr6).1; have f5 := (hq6 HD4.out.1 gr6).2; clear o6 gr6 hl6 hlt6) | fail)
            obtain ⟨d6, fr6, bl6⟩ := HD6.out
            obtain ⟨d4, fr4, bl4⟩ := HD4.out
            obtain ⟨W6, hW6⟩ : ∃ W6, W6 = w6.setCell ⟨Q, 1, none⟩ (.slice (some ⟨q3, 0, none⟩) (n + 1) c3) := ⟨_, rfl⟩
            rw [← hW6] at d6 fr6 bl6 ⊢
            have HQ6 := hid d6
            have HF6 := hid (fr4.trans fr6)
            have HB6 := hid (bl4.trans bl6)
            have hD2 : (D ++ [[]]).length = n + 1 := by have h5 := HNDn.out; simp; omega
            have HEZ := hid (show R = (0, U ++ [b], (D ++ [[]]).set n (orN ((D ++ [[]]).getD n []) G)) by
              rw [HEZ0.out, HNDn.out, List.set_append_right _ _ (Nat.le_refl _), Nat.sub_self, List.getD_eq_getElem?_getD, List.getElem?_append_right (Nat.le_refl _), Nat.sub_self]; rfl)
            have HG6 := hid (show RdR W6 go G from by
              have h5 := own_keep HO3.out HBr.out
              have h6 := row_q HRr.out (show FarQ Q _ _ wr W6 by rw [← HNU.out]; exact HF6.out) h5
              obtain ⟨go', gc', e', hg', _⟩ := rdr_row3 h6
              cases e'
              exact hg')
            have hwB : B ≤ W6.heap.size := by have h5 := HB6.out.size; omega
            clear d6 fr6 bl6 d4 fr4 bl4 HD6 HD4 hW6 f1 f2 f3 f4 f5 HNM HP1 HRW HEZ0
            have hcD : n < (D ++ [[]]).length := (by omega)
            have hqs := (HQ6.out.hS.lt q3 rfl).2
            obtain ⟨vc, hv1, hv2⟩ := HQ6.out.hV n (D ++ [[]])[n] (List.getElem?_eq_getElem hcD)
            obtain ⟨ao, ac, rfl, hra, hrn⟩ := rdr_row3 hv2
            have HXL := hid (show (D ++ [[]])[n].length ≤ 20000 from (by rcases List.mem_append.1 (List.getElem_mem hcD) with h5 | h5; exact hD _ h5; rw [List.mem_singleton.1 h5]; exact Nat.zero_le _))
            have HHS := hid (show W6.ownsRow B 47 1 (.slice (some ⟨q3, 0, none⟩) (n + 1) c3) (n + 1) (vs ++ [.slice none 0 0]) from (by have h5 := HQ6.out.hS; rw [hD2] at h5; exact h5))
            have HS1 := hid (show W6.cell? ⟨Q, 1, none⟩ = some (.slice (some ⟨q3, 0, none⟩) (n + 1) c3) from HQ6.out.c1)
            have HS2 := hid (show W6.cell? ⟨q3, n, none⟩ = some (.slice ao (D ++ [[]])[n].length ac) by rw [HHS.out.cellAt n (by omega)]; exact hv1)
            have HGW := hid (show RdR W6 go G from HG6.out)
            have HRA := hid hra
            have HOR := hid (show Calls Tryz.prog 76 #[.slice ao (D ++ [[]])[n].length ac, .slice go G.length gc] W6.drew fun e w' => ∃ v, e = .returned v ∧ w'.ownsRow W6.heap.size 84 2 v (orN (D ++ [[]])[n] G).length (rgcs (orN (D ++ [[]])[n] G)) ∧ Below W6.heap.size W6.drew w' from ror_any ao go ac gc (D ++ [[]])[n] G W6.drew (HRA.out.below (bdrew W6)) (HGW.out.below (bdrew W6)) hrn HGN.out (by have h5 := HXL.out; omega) (by have h5 := HGL.out; omega))
            have HGD := hid (show (D ++ [[]]).getD n [] = (D ++ [[]])[n] by rw [List.getD_eq_getElem?_getD, List.getElem?_eq_getElem hcD]; rfl)
            rw [HGD.out] at HEZ
            obtain ⟨xc, hxc⟩ : ∃ xc, xc = orN (D ++ [[]])[n] G := ⟨_, rfl⟩
            rw [← hxc] at HOR HEZ
            have HC2 := hid (show ∀ W', Below W6.heap.size W6 W' → W'.cell? ⟨Q, 1, none⟩ = some (.slice (some ⟨q3, 0, none⟩) (n + 1) c3) ∧ W'.cell? ⟨q3, n, none⟩ = some (.slice ao (D ++ [[]])[n].length ac) from fun W' hW => ⟨(hW.cell (p := ⟨Q, 1, none⟩) (lt_of_heap HQ6.out.hQ)).trans HS1.out, (hW.cell (p := ⟨q3, n, none⟩) hqs).trans HS2.out⟩)
            generalize (D ++ [[]])[n].length = nx at HOR HC2
            obtain ⟨nd, hnd⟩ : ∃ nd, nd = (n + 1) := ⟨_, rfl⟩
            rw [← hnd] at HC2
            have k1 : (n : Int) < (nd : Int) := by omega
            have k0 : (0 : Int) ≤ (n : Int) := by omega
            have HND := hid hnd
            clear HS1 HS2 HRA HGW hra hrn hv1 hv2 hxc HGD hnd
            go_wp2
            refine wp_region_mixC [(0, 1), (1, 1), (2, 1), (3, 0), (4, 1), (5, 1), (6, 1), (7, 1), (8, 0), (9, 1), (10, 1), (11, 0), (12, 1), (13, 2), (14, 1), (15, 2)] (fun W => W.cell? ⟨Q, 1, none⟩ = some (.slice (some ⟨q3, 0, none⟩) nd c3) ∧ W.cell? ⟨q3, n, none⟩ = some (.slice ao nx ac)) (fun _ => True) (fun j => j == 15) (by kernel_rfl) (by kernel_rfl) (fun j hj => by simp at hj; rw [hj]; decide) rfl (by kernel_rfl) (HC2.out _ (bdrew W6)) trivial ?_
            iterate 13 ((first | refine mixC_s ?_ rfl (by kernel_rfl) (fun w' hS => ?_) ?_ | refine mixC_t ?_ rfl (by kernel_rfl) (fun w' hS => ?_) ?_); (rotate_left; ((first | obtain ⟨s1, s2⟩ := hS | clear hS); go_simp; with_reducible rfl); rotate_left))
            simp only [Act.put, List.setIfInBounds_toArray]
            refine mixC_go rfl (by kernel_rfl) fun KK hKK => ?_
            go_simp
            refine HOR.out.mono ?_
            rintro e w5 ⟨v5, rfl, o5, b5⟩
            have b5' : Below W6.heap.size W6 w5 := (bdrew W6).trans b5
            have HR5 := hid (HQ6.out.below b5')
            have HO5 := hid (ownsRow_base2 o5 (show B ≤ W6.heap.size from hwB))
            obtain ⟨d5, f5, l5⟩ := HR5.out.store hD2.symm hcD HO5.out
            obtain ⟨xo, xcp, rfl⟩ := own_form HO5.out
            have p1 := (HC2.out w5 b5').2
            have HHS5 := hid (own_keep HHS.out b5')
            have p2 := HHS5.out.frozenAt n
            have HD5 := hid d5
            have HF5 := hid (show FarQ Q (.slice no n nc) _ w _ from ((FarQ.of_below (Q := Q) (nv := .slice no n nc) (show Below w.heap.size w wr by rw [← HN.out]; exact HB3.out.trans (HBr.out.mono (by have h5 := HN.out; omega)))).trans HF6.out).trans ((FarQ.of_below b5').trans f5))
            have HB5 := hid (show Below B w _ from ((((HB3.out.mono hBN).trans (HBr.out.mono (by have h5 := HN.out; omega))).trans HB6.out).trans (b5'.mono hwB)).trans l5)
            refine hKK _ _ (fun _ => HC2.out w5 b5') trivial ?_
            clear hKK KK o5 b5 b5' d5 f5 l5 HR5 HO5
            refine mixC_t ?_ rfl (by kernel_rfl) (fun w' hS => ?_) ?_; (rotate_left; (go_simp; with_reducible rfl); rotate_left)
            simp only [Act.put, List.setIfInBounds_toArray]
            refine mixC_go rfl (by kernel_rfl) fun KK hKK => ?_
            go_simp
            refine hKK _ _ (fun h => by cases h) trivial ?_
            clear hKK KK p1 p2
            refine mixC_end (NoPanic.normal ?_)
            go_wp2
            go_ret
            rw [HEZ.out]
            exact ⟨rfl, HB5.out, fun _ => ⟨_, _, _, HD5.out, by rw [← HNU.out]; exact HF5.out⟩⟩
    · have HE := hid (show R = (er, U, D) by rw [HE3.out, if_pos he])
      have her' : (er != 0) = true := bne_iff_ne.2 he
      have HER := hid he
      clear he
      go_wp2
      go_ret
      rw [HE.out]
      exact ⟨rfl, HB3.out.mono hBN, fun h => absurd h HER.out⟩
end Go.Proofs.YtohhokjlgihbgaaGreatDoor
/- The contract of the document's rest. -/
namespace Go.Proofs.YtohhokjlgihbgaaGreatDoor
open Go.RowKit

/-- The sets from number 1 on, below number i, one behind the other. -/
def flt4 (D : List (List Rg)) (i : Nat) : List Rg := ((D.take i).drop 1).flatten
theorem flt4_one (D : List (List Rg)) : flt4 D 1 = [] := by
  unfold flt4
  cases D with
  | nil => rfl
  | cons x D => simp
theorem flt4_succ (D : List (List Rg)) (i : Nat) (h1 : 1 ≤ i) (hi : i < D.length) : flt4 D (i + 1) = flt4 D i ++ D[i] := by
  unfold flt4
  rw [List.take_succ_eq_append_getElem hi, List.drop_append_of_le_length (by rw [List.length_take]; omega)]
  simp
theorem flt4_all (D : List (List Rg)) (i : Nat) (hi : D.length ≤ i) : flt4 D i = (D.drop 1).flatten := by
  unfold flt4
  rw [List.take_of_length_le hi]
theorem flt4_le (D : List (List Rg)) (i : Nat) : (flt4 D i).length ≤ (D.drop 1).flatten.length := by
  unfold flt4
  rw [List.drop_take]
  obtain ⟨L, hL⟩ : ∃ L, L = D.drop 1 := ⟨_, rfl⟩
  rw [← hL]
  have e : L.flatten = (L.take (i - 1)).flatten ++ (L.drop (i - 1)).flatten := by rw [← List.flatten_append, List.take_append_drop]
  rw [e, List.length_append]
  omega
set_option maxRecDepth 100000 in
set_option maxHeartbeats 2000000 in
theorem rrest_any (B Q : Nat) (U : List (List UInt8)) (D : List (List Rg)) (nv sv : Value) (vs : List Value) (w : World) (h : DocAt B Q U D nv sv vs w) (hB : B ≤ w.heap.size) (h1 : 1 ≤ D.length) (hD1 : D.length ≤ 1000) (hD : (D.drop 1).flatten.length ≤ 40000) :
    Calls Tryz.prog 40 #[.pointer (some ⟨Q, 0, none⟩)] w fun e w' => e = .returned (.tuple #[]) ∧ Below B w w' ∧ ∃ sv' vs', DocAt B Q U (D.set 0 (nt (D.drop 1).flatten)) nv sv' vs' w' := by
  obtain ⟨i0, hi, hz0, hz1, hz2⟩ := info_parts Tryz.info84
  have HR := hid h
  obtain ⟨so, sc, rfl, hrd⟩ := h.rd
  have HRD := hid hrd
  have c1 := h.c1
  obtain ⟨n, hn⟩ : ∃ n, n = D.length := ⟨_, rfl⟩
  have HN := hid hn
  rw [← hn] at c1 h1 hD1
  have hQ := lt_of_heap h.hQ
  have HLE := hid (flt4_le D)
  clear h hrd hn
  go_enter Tryz.func40, Tryz.ntmps40
  go_wp2
  go_loopw [2, 3] (fun v x wr => ∃ i : Nat, 1 ≤ i ∧ i ≤ n ∧ x = .int .i64 (i : Int) ∧ Hid (wr.ownsRow w.heap.size 84 2 v (flt4 D i).length (rgcs (flt4 D i))) ∧ Hid (Below w.heap.size w wr)) (fun _ x _ => n - (intOf x).toNat)
  case atStart => exact ⟨1, by omega, h1, rfl, by rw [flt4_one]; exact World.ownsRow_nil _ _ _ _, Below.refl _ _⟩
  case round =>
    obtain ⟨i, hi1, hin, rfl, HO, HBr⟩ := hrel
    have d1 := (HBr.out.cell (p := ⟨Q, 1, none⟩) hQ).trans c1
    have hwr := HBr.out.size
    by_cases hlt : i < n
    · have i3 : (i : Int) < (n : Int) := by omega
      have i0' : (0 : Int) ≤ (i : Int) := by omega
      have hiD : i < D.length := by have h5 := HN.out; omega
      obtain ⟨a, rfl, ha, ao, ac, a0, hra, hna⟩ := HRD.out.below HBr.out i D[i] (List.getElem?_eq_getElem hiD)
      have HE := hid (flt4_succ D i hi1 hiD)
      have HRA := hid hra
      have HNA := hid hna
      have hl2 : (flt4 D i).length + D[i].length ≤ 40000 := by have h5 := HLE.out (i + 1); rw [HE.out, List.length_append] at h5; omega
      obtain ⟨x, hx⟩ : ∃ x, x = D[i] := ⟨_, rfl⟩
      rw [← hx] at a0 HRA HE hl2
      obtain ⟨y, hy⟩ : ∃ y, y = flt4 D i := ⟨_, rfl⟩
      rw [← hy] at HO HE hl2
      clear hra hna hiD hx hy
      go_wp2_with (at_builtin; refine wpList_append_rg rfl _ _ 47 rfl w.heap.size 84 i0 (.agg #[.int .i32 0, .int .i32 0]) 8 Tryz.underlying47 hi hz0 hz1 hz2 (by rfl) _ y.length (rgcs y) rfl HO.out ao ac x rfl HNA.out HRA.out (by unfold maxLen; omega) (by omega) (by omega) ?_; intro v2 w2 o2 gr2; have HB2 := hid (HBr.out.grown gr2 hwr (fun k hk => (HO.out.lt k hk).1)); have HO2 := hid (show w2.ownsRow w.heap.size 84 2 v2 (y ++ x).length (rgcs (y ++ x)) by rw [rgcs_app, List.length_append]; exact o2); clear o2 gr2)
      go_roundw
      case rel => exact ⟨i + 1, by omega, by omega, by go_num, by rw [HE.out]; exact HO2, HB2⟩
      case measure => simp [intOf]; omega
    · have i3 : ¬ (i : Int) < (n : Int) := by omega
      have HE := hid (flt4_all D i (by have h5 := HN.out; omega))
      rw [HE.out] at HO
      have HFL := hid hD
      obtain ⟨x, hx⟩ : ∃ x, x = (D.drop 1).flatten := ⟨_, rfl⟩
      have HX := hid hx
      rw [← hx] at HO HFL
      obtain ⟨xo, xc, rfl, hrx, _⟩ := rdr_row3 HO.out
      have HRr := hid (HR.out.below HBr.out)
      obtain ⟨q, cap, hq, _, hqs⟩ := HRr.out.hS.form (by have h5 := HN.out; omega)
      cases hq
      rw [← HN.out] at HRr
      have HNT := hid (show Calls Tryz.prog 77 #[.slice xo x.length xc] wr.drew fun e w' => ∃ v, e = .returned v ∧ w'.ownsRow wr.heap.size 84 2 v (nt x).length (rgcs (nt x)) ∧ Below wr.heap.size wr.drew w' from rnot_any xo xc x wr.drew (hrx.below (bdrew wr)) (by have h5 := HFL.out; omega))
      have HC2 := hid (show ∀ W', Below wr.heap.size wr W' → W'.cell? ⟨Q, 1, none⟩ = some (.slice (some ⟨q, 0, none⟩) n sc) from fun W' hW => (hW.cell (p := ⟨Q, 1, none⟩) (Nat.lt_of_lt_of_le hQ hwr)).trans d1)
      have HHS := hid (show wr.ownsRow B 47 1 (.slice (some ⟨q, 0, none⟩) n sc) n vs by have h5 := HRr.out.hS; rw [← HN.out] at h5; exact h5)
      have k1 : (0 : Int) < (n : Int) := by omega
      have hBW : B ≤ wr.heap.size := by omega
      have k2 : 0 < n := by omega
      clear HO HE hrx HRD c1 hx
      go_wp2
      refine wp_region_mixC [(0, 1), (1, 1), (2, 1), (3, 0), (4, 1), (5, 2), (6, 1), (7, 2)] (fun W => W.cell? ⟨Q, 1, none⟩ = some (.slice (some ⟨q, 0, none⟩) n sc)) (fun _ => True) (fun j => j == 7) (by kernel_rfl) (by kernel_rfl) (fun j hj => by simp at hj; rw [hj]; decide) rfl (by kernel_rfl) (HC2.out _ (bdrew wr)) trivial ?_
      iterate 5 ((first | refine mixC_s ?_ rfl (by kernel_rfl) (fun w' hS => ?_) ?_ | refine mixC_t ?_ rfl (by kernel_rfl) (fun w' hS => ?_) ?_); (rotate_left; (go_simp; with_reducible rfl); rotate_left))
      simp only [Act.put, List.setIfInBounds_toArray]
      refine mixC_go rfl (by kernel_rfl) fun KK hKK => ?_
      go_simp
      refine HNT.out.mono ?_
      rintro e w5 ⟨v5, rfl, o5, b5⟩
      have b5' : Below wr.heap.size wr w5 := (bdrew wr).trans b5
      have HR5 := hid (HRr.out.below b5')
      have HO5 := hid (ownsRow_base2 o5 hBW)
      obtain ⟨d5, f5, l5⟩ := HR5.out.store (c := 0) HN.out (by have h5 := HN.out; omega) HO5.out
      obtain ⟨yo, yc, rfl⟩ := own_form HO5.out
      have HHS5 := hid (own_keep HHS.out b5')
      have p1 : w5.cell? ⟨q, 0, none⟩ = vs[0]? := HHS5.out.cellAt 0 (by omega)
      have p2 := HHS5.out.frozenAt 0
      obtain ⟨v0, hv0⟩ : ∃ v0, vs[0]? = some v0 := ⟨_, List.getElem?_eq_getElem (by have h5 := HHS.out.1; omega)⟩
      rw [hv0] at p1
      have HD5 := hid d5
      have HB5 := hid (show Below B w _ from (((HBr.out.mono hB).trans (b5'.mono hBW))).trans l5)
      refine hKK _ _ (fun _ => HC2.out w5 b5') trivial ?_
      clear hKK KK o5 b5 b5' d5 f5 l5 HR5 HO5 hv0
      refine mixC_t ?_ rfl (by kernel_rfl) (fun w' hS => ?_) ?_; (rotate_left; (go_simp; with_reducible rfl); rotate_left)
      simp only [Act.put, List.setIfInBounds_toArray]
      refine mixC_go rfl (by kernel_rfl) fun KK hKK => ?_
      go_simp
      refine hKK _ _ (fun h => by cases h) trivial ?_
      clear hKK KK p1 p2
      refine mixC_end (NoPanic.normal ?_)
      refine bodyPost_end (v := .tuple #[]) (by simp [results, Tryz.f40, go_sem]) rfl ?_
      exact ⟨rfl, HB5.out, _, _, by rw [← HX.out]; exact HD5.out⟩
end Go.Proofs.YtohhokjlgihbgaaGreatDoor
/- Of two databases the one that parts as both do: its sets, and its names. -/
namespace Go.Proofs.YtohhokjlgihbgaaGreatDoor

theorem isin_get (A : List Tr) (h : Cov 0 A 1114112) (r : Nat) (hr : r ≤ 1114111) (c : Int) : isin (r : Int) (stc c A) ↔ (gtp (r : Int) A : Int) = c := by
  rw [isin_stc]
  constructor
  · rintro ⟨g, hg, h1, h2, h3⟩
    rw [gtp_in A 0 _ _ g h hg h2 h3]; exact h1
  · intro e
    obtain ⟨g, hg, h1, h2⟩ := cov_ex A 0 _ (r : Int) h (by omega) (by omega)
    refine ⟨g, hg, ?_, h1, h2⟩
    rw [gtp_in A 0 _ _ g h hg h1 h2] at e; exact e
theorem rs_rgd : ∀ (A : List Tr) (a : Nat), Cov a A 1114112 → Rs a (rgd A)
  | [], _, _ => trivial
  | g :: R, a, h => by
    obtain ⟨h1, h2, h3⟩ := h
    have ih := rs_rgd R _ h3
    have hl := cov_le _ _ _ h3
    have mono : ∀ (S : List Tr) (b c : Nat), c ≤ b → Rs b S → Rs c S := fun S b c hc hs => by
      cases S with
      | nil => trivial
      | cons x S => exact ⟨by have := hs.1; omega, hs.2⟩
    unfold rgd
    rw [List.filter_cons]
    split
    · exact ⟨by omega, h2, by omega, ih⟩
    · exact mono _ _ _ (by omega) ih
theorem stc_rgd (A : List Tr) (d : Nat) (hd : 1 ≤ d) : stc (d : Int) (rgd A) = stc (d : Int) A := by
  unfold stc rgd
  rw [List.filter_filter]
  congr 1
  refine List.filter_congr (fun x _ => ?_)
  rw [Bool.eq_iff_iff]
  simp
  omega
section
variable {A D : List Tr}
/-- The runes of a pair are those that have both its classes. -/
theorem cr_set (hA : Cov 0 A 1114112) (hD : Cov 0 D 1114112) (aA : Alt A) (aD : Alt D) (i : Nat) (p : Pr) (h : (crP A D)[i]? = some p) : andN (stc p.1 A) (stc p.2 D) = stc (i : Int) (crL A D) := by
  refine nf_hd (andN_nf _ _) ((nf_stc (crL A D) 0 _ (i : Int) (crL_cov hA hD) (crL_alt hA hD aA aD) (Nat.le_refl _)).1) (fun r hr => ?_)
  rw [andN_in, means_nat r hr, means_nat r hr, isin_get A hA r hr, isin_get D hD r hr, isin_get (crL A D) (crL_cov hA hD) r hr]
  have h1 := crL_get hA hD r hr
  constructor
  · rintro ⟨e1, e2⟩
    rw [e1, e2] at h1
    have h2 := nodup_inj crP_nodup h1 h
    omega
  · intro e
    have e' : gtp (r : Int) (crL A D) = i := by omega
    rw [e', h] at h1
    injection h1 with h1
    rw [h1]
    exact ⟨rfl, rfl⟩
theorem cr_fin (hA : Cov 0 A 1114112) (hD : Cov 0 D 1114112) (aA : Alt A) (aD : Alt D) (X : List (List Rg)) (hX : X.length = (crP A D).length) (h0 : X[0]? = some []) (hd : ∀ (d : Nat) (p : Pr), 1 ≤ d → (crP A D)[d]? = some p → X[d]? = some (andN (stc p.1 A) (stc p.2 D))) :
    X.set 0 (nt (X.drop 1).flatten) = dst (crP A D).length (crL A D) := by
  have hc := crL_cov hA hD
  have ha := crL_alt hA hD aA aD
  have e := whl_rgd (crL A D) hc ha
  have h5 := drel_fin (crP A D).length (rgd (crL A D)) X (crP_len hA hD).1 (rs_rgd _ 0 hc) (fun g hg => by
    unfold rgd at hg
    obtain ⟨h1, h2⟩ := List.mem_filter.1 hg
    have h3 := crL_cls hA hD g h1
    exact ⟨by have h5 := h2; simp at h5; omega, h3⟩) (by rw [e]; exact hc) (by rw [e]; exact ha) ⟨hX, h0, fun d h1 h2 => by
    obtain ⟨p, hp⟩ : ∃ p, (crP A D)[d]? = some p := ⟨_, List.getElem?_eq_getElem h2⟩
    rw [hd d p h1 hp, stc_rgd _ d h1, nrm_self _ ((nf_stc (crL A D) 0 _ (d : Int) hc ha (Nat.le_refl _)).1), cr_set hA hD aA aD d p hp]⟩
  rw [e] at h5
  exact h5
end
/-- The name of a pair. -/
def nmx (U V : List (List UInt8)) (p : Pr) : List UInt8 := U.getD p.1.toNat [] ++ (95 :: V.getD p.2.toNat [])
/-- The names of the pairs. -/
def crN (U V : List (List UInt8)) (T : List Pr) : List (List UInt8) := oth :: (T.drop 1).map (nmx U V)
theorem crN_len (U V : List (List UInt8)) (T : List Pr) (h : 1 ≤ T.length) : (crN U V T).length = T.length := by unfold crN; simp; omega
/-- Entered one by one: all of them, or fewer. -/
theorem adn_fold : ∀ (L U : List (List UInt8)), U.Nodup → (L.foldl (fun U b => (adn b U).1) U).length ≤ U.length + L.length ∧ ((U ++ L).Nodup → L.foldl (fun U b => (adn b U).1) U = U ++ L) ∧ (¬ (U ++ L).Nodup → (L.foldl (fun U b => (adn b U).1) U).length < U.length + L.length)
  | [], U, h => ⟨by simp, fun _ => by simp, fun h5 => absurd (by simpa using h) h5⟩
  | b :: L, U, h => by
    rw [List.foldl_cons]
    by_cases hb : b ∈ U
    · have e : (adn b U).1 = U := by unfold adn; rw [if_pos hb]
      rw [e]
      obtain ⟨i1, _, _⟩ := adn_fold L U h
      refine ⟨by simp; omega, fun h5 => ?_, fun _ => by simp; omega⟩
      exact absurd rfl ((List.nodup_append.1 h5).2.2 b hb b (by simp))
    · have e : (adn b U).1 = U ++ [b] := by unfold adn; rw [if_neg hb]
      have hn := adn_nodup b U h
      rw [e] at hn ⊢
      obtain ⟨i1, i2, i3⟩ := adn_fold L (U ++ [b]) hn
      have e2 : U ++ [b] ++ L = U ++ b :: L := by simp
      rw [e2] at i2 i3
      simp at i1 i3 ⊢
      exact ⟨by omega, i2, fun h5 => by have := i3 h5; omega⟩
theorem nat_far (i j b : Nat) (h : nat' j b = true) (hi : 0 < i) : nat' i b = true := by
  unfold nat' at h ⊢
  rw [decide_eq_true hi]
  cases hl : ltr b with
  | true => rfl
  | false =>
    rw [hl] at h
    simp only [Bool.false_or, Bool.and_eq_true, Bool.true_and] at h ⊢
    exact h.2
theorem nam_at (l : List UInt8) (h : nam l = true) (i : Nat) (b : UInt8) (hi : l[i]? = some b) : nat' i b.toNat = true := by
  cases hb : nat' i b.toNat with
  | true => rfl
  | false => rw [nam_no l i b hi hb] at h; cases h
theorem nam_pos (l : List UInt8) (h : nam l = true) : 1 ≤ l.length ∧ l.length ≤ 32 := by
  constructor
  · rcases Nat.eq_zero_or_pos l.length with h5 | h5
    · rw [nam_len l (.inl h5)] at h; cases h
    · exact h5
  · rcases Nat.lt_or_ge 32 l.length with h5 | h5
    · rw [nam_len l (.inr h5)] at h; cases h
    · exact h5
theorem nam_join (a b : List UInt8) (ha : nam a = true) (hb : nam b = true) (hl : (a ++ 95 :: b).length ≤ 32) : nam (a ++ 95 :: b) = true := by
  have h1 := (nam_pos a ha).1
  refine nam_yes _ (by simp; omega) hl (fun i c hi => ?_)
  rcases Nat.lt_trichotomy i a.length with h5 | h5 | h5
  · rw [List.getElem?_append_left h5] at hi
    exact nam_at a ha i c hi
  · subst h5
    rw [List.getElem?_append_right (Nat.le_refl _), Nat.sub_self] at hi
    cases hi
    exact nat_far _ 1 _ (by decide) (by omega)
  · rw [List.getElem?_append_right (by omega), show i - a.length = (i - a.length - 1) + 1 by omega] at hi
    exact nat_far i _ _ (nam_at b hb _ c (by simpa using hi)) (by omega)
theorem cov_pw : ∀ (A : List Tr) (a b : Nat), Cov a A b → A.Pairwise fun x y => x.2.1 < y.2.1
  | [], _, _, _ => List.Pairwise.nil
  | g :: R, a, b, h => by
    obtain ⟨c1, c2, c3⟩ := h
    refine List.Pairwise.cons (fun x hx => ?_) (cov_pw R _ b c3)
    have h5 := cov_ge R _ b x c3 hx
    have h6 : ∀ (R : List Tr) (a b : Nat), Cov a R b → ∀ x ∈ R, x.1 ≤ x.2.1 := by
      intro R
      induction R with
      | nil => intro _ _ _ x hx; cases hx
      | cons y R ih =>
        intro a b h x hx
        rcases List.mem_cons.1 hx with rfl | h7
        · exact h.2.1
        · exact ih _ _ h.2.2 x h7
    have h7 := h6 R _ b c3 x hx
    omega
theorem cov_en : ∀ (A : List Tr) (a b : Nat), Cov a A b → a < b → ∃ g ∈ A, g.2.1 + 1 = b
  | [], a, b, h, hl => by have h5 : a = b := h; omega
  | g :: R, a, b, h, hl => by
    obtain ⟨c1, c2, c3⟩ := h
    rcases Nat.lt_or_ge (g.2.1 + 1) b with h5 | h5
    · obtain ⟨x, hx, h6⟩ := cov_en R _ b c3 h5
      exact ⟨x, by simp [hx], h6⟩
    · have h6 := cov_le _ _ _ c3
      exact ⟨g, by simp, by omega⟩
theorem nb_mem : ∀ (Z : List (Nat × Nat × Pr)) (T : List Pr) (p : Pr), p ∈ (nb T Z).1 → p ∈ T ∨ ∃ z ∈ Z, z.2.2 = p
  | [], _, _, h => .inl h
  | z :: R, T, p, h => by
    rcases nb_mem R (ad z.2.2 T).1 p h with h5 | ⟨y, hy, h5⟩
    · unfold ad at h5
      split at h5
      · exact .inl h5
      · rcases List.mem_append.1 h5 with h6 | h6
        · exact .inl h6
        · simp at h6
          exact .inr ⟨z, by simp, h6.symm⟩
    · exact .inr ⟨y, by simp [hy], h5⟩
theorem gtp_below (A : List Tr) (h : Cov 0 A 1114112) (n : Nat) (hc : ∀ g ∈ A, g.2.2 < n) (r : Nat) (hr : r ≤ 1114111) : gtp (r : Int) A < n := by
  obtain ⟨g, hg, h1, h2⟩ := cov_ex A 0 _ (r : Int) h (by omega) (by omega)
  rw [gtp_in A 0 _ _ g h hg h1 h2]
  exact hc g hg
theorem crP_mem {A D : List Tr} (hA : Cov 0 A 1114112) (hD : Cov 0 D 1114112) (n m : Nat) (hn : ∀ g ∈ A, g.2.2 < n) (hm : ∀ g ∈ D, g.2.2 < m) (n1 : 1 ≤ n) (m1 : 1 ≤ m) (p : Pr) (hp : p ∈ crP A D) : ∃ a b : Nat, p = ((a : Int), (b : Int)) ∧ a < n ∧ b < m := by
  obtain ⟨h1, h2, h3, h4⟩ := cr_is hA hD
  rcases nb_mem _ _ p hp with h5 | ⟨z, hz, rfl⟩
  · simp at h5
    exact ⟨0, 0, by rw [h5]; rfl, by omega, by omega⟩
  · have zz : ∀ (Z : List (Nat × Nat × Pr)) (lo : Nat), Zc lo Z → ∀ z ∈ Z, z.1 ≤ z.2.1 ∧ z.2.1 ≤ 1114111 := by
      intro Z
      induction Z with
      | nil => intro _ _ z hz; cases hz
      | cons x R ih =>
        intro lo h z hz
        have hle : ∀ (Z : List (Nat × Nat × Pr)) (lo : Nat), Zc lo Z → lo ≤ 1114112 := by
          intro Z
          induction Z with
          | nil => intro lo h; exact Nat.le_of_eq h
          | cons x R ih => intro lo h; have h5 := ih _ h.2.2; have h6 := h.1; have h7 := h.2.1; omega
        rcases List.mem_cons.1 hz with rfl | h5
        · have := hle _ _ h.2.2
          exact ⟨h.2.1, by omega⟩
        · exact ih _ h.2.2 z h5
    obtain ⟨z1, z2⟩ := zz _ 0 h1 z hz
    exact ⟨_, _, h3 z hz z.1 (Nat.le_refl _) z1, gtp_below A hA n hn z.1 (by omega), gtp_below D hD m hm z.1 (by omega)⟩
theorem nam_nmx (U V : List (List UInt8)) (hU : NamU U) (hV : NamU V) (a b : Nat) (ha : a < U.length) (hb : b < V.length) (hl : (nmx U V ((a : Int), (b : Int))).length ≤ 32) : nam (nmx U V ((a : Int), (b : Int))) = true := by
  unfold nmx at hl ⊢
  have e1 : U.getD ((a : Int), (b : Int)).1.toNat [] = U[a] := by simp [List.getD, ha]
  have e2 : V.getD ((a : Int), (b : Int)).2.toNat [] = V[b] := by simp [List.getD, hb]
  rw [e1, e2] at hl ⊢
  exact nam_join _ _ (hU _ (List.getElem_mem ha)) (hV _ (List.getElem_mem hb)) hl
end Go.Proofs.YtohhokjlgihbgaaGreatDoor
