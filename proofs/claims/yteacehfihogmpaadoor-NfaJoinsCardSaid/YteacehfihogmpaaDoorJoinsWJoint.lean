/- NfaJoins: what stands between its statements. -/
import Derived.Test.YteacehfihogmpaaDoorROrJoint
import Derived.Test.YteacehfihogmpaaDoorOwn2Joint
namespace Go.Proofs.YteacehfihogmpaaDoor
open Go.RowKit

theorem box_3 {w : World} {p : Nat} {x a b : Value} (h : w.heap[p]? = some (.cells #[x, a, b] 28)) : w.cell? ⟨p, 0, none⟩ = some x ∧ w.cell? ⟨p, 1, none⟩ = some a ∧ w.cell? ⟨p, 2, none⟩ = some b := ⟨by rw [cell_of_row w p 0 _ 28 (0, 0) h]; rfl, by rw [cell_of_row w p 1 _ 28 (0, 0) h]; rfl, by rw [cell_of_row w p 2 _ 28 (0, 0) h]; rfl⟩
theorem set_3 {w : World} {p : Nat} {x a b : Value} (x' a' b' : Value) (h : w.heap[p]? = some (.cells #[x, a, b] 28)) : (((w.setCell ⟨p, 0, none⟩ x').setCell ⟨p, 1, none⟩ a').setCell ⟨p, 2, none⟩ b').heap[p]? = some (.cells #[x', a', b'] 28) ∧ (∀ k, k ≠ p → (((w.setCell ⟨p, 0, none⟩ x').setCell ⟨p, 1, none⟩ a').setCell ⟨p, 2, none⟩ b').heap[k]? = w.heap[k]?) ∧ (((w.setCell ⟨p, 0, none⟩ x').setCell ⟨p, 1, none⟩ a').setCell ⟨p, 2, none⟩ b').heap.size = w.heap.size := by
  have e1 := heap_setCell_same w p 0 _ 28 x' h
  have e2 := heap_setCell_same _ p 1 _ 28 a' e1
  have e3 := heap_setCell_same _ p 2 _ 28 b' e2
  refine ⟨e3.trans rfl, fun k hk => ?_, by simp⟩
  rw [heap_setCell_other _ ⟨p, 2, none⟩ k _ (fun e => hk e), heap_setCell_other _ ⟨p, 1, none⟩ k _ (fun e => hk e), heap_setCell_other _ ⟨p, 0, none⟩ k _ (fun e => hk e)]
/-- What the copies leave: two boxes, whose automata read as the given ones. -/
structure Cp2 (w W : World) (p7 p8 na nb : Nat) (xo yo : Option Addr) (xc yc : Nat) (A B : List St) (sa fa sb fb : Int) : Prop where
  below : Below w.heap.size w W
  px : W.heap[p7]? = some (.cells #[.slice xo na xc, .int .i64 sa, .int .i64 fa] 28)
  py : W.heap[p8]? = some (.cells #[.slice yo nb yc, .int .i64 sb, .int .i64 fb] 28)
  rx : RdS W xo A
  ry : RdS W yo B
/-- What the two joinings leave: two boxes, and the automata in rows of their own. -/
structure Jn2 (w W : World) (p9 p10 m m' : Nat) (uo vo : Option Addr) (uc vc : Nat) (x y x' y' : Int) (ok : Bool) (J J' : List St) (s f s' f' : Int) : Prop where
  below : Below w.heap.size w W
  pu : W.heap[p9]? = some (.cells #[.slice uo m uc, .int .i64 x, .int .i64 y] 28)
  pv : W.heap[p10]? = some (.cells #[.slice vo m' vc, .int .i64 x', .int .i64 y'] 28)
  ru : ∃ B M R, JnS ok J s f M x y ∧ w.heap.size ≤ B ∧ B ≤ W.heap.size ∧ Gro W B (.slice uo m uc) m M R
  rv : ∃ B M R, JnS ok J' s' f' M x' y' ∧ w.heap.size ≤ B ∧ B ≤ W.heap.size ∧ Gro W B (.slice vo m' vc) m' M R

/-- An empty box. -/
abbrev Zb : Obj := (.cells #[.slice none 0 0, .int .i64 0, .int .i64 0] 28)
def st3 (w : World) (p : Nat) (x a b : Value) : World := ((w.setCell ⟨p, 0, none⟩ x).setCell ⟨p, 1, none⟩ a).setCell ⟨p, 2, none⟩ b
theorem al_box (w : World) : ∃ (w' : World) (p : Nat), w' = w.alloc Zb ∧ p = w.heap.size ∧ Below w.heap.size w w' ∧ w'.heap[p]? = some Zb ∧ w'.heap.size = w.heap.size + 1 := ⟨_, _, rfl, rfl, (Below.refl _ _).alloc (Nat.le_refl _) _, al_new _ _ rfl, by simp⟩
theorem box6 {w : World} {p : Nat} {x a b : Value} (h : w.heap[p]? = some (.cells #[x, a, b] 28)) : w.cell? ⟨p, 0, none⟩ = some x ∧ w.cell? ⟨p, 1, none⟩ = some a ∧ w.cell? ⟨p, 2, none⟩ = some b ∧ w.frozen? ⟨p, 0, none⟩ = false ∧ w.frozen? ⟨p, 1, none⟩ = false ∧ w.frozen? ⟨p, 2, none⟩ = false := ⟨(box_3 h).1, (box_3 h).2.1, (box_3 h).2.2, frozen_of_row w p 0 _ 28 h, frozen_of_row w p 1 _ 28 h, frozen_of_row w p 2 _ 28 h⟩
theorem stores1 {v0 v vA : World} {p q : Nat} {x a b : Value} (hA : vA = st3 v p x a b) (hD : Below v0.heap.size v0 v) (hp : v.heap[p]? = some Zb) (hq : v.heap[q]? = some Zb) (hne : p ≠ q) (hup : v0.heap.size ≤ p) : Below v0.heap.size v0 vA ∧ vA.heap[q]? = some Zb := by
  obtain ⟨s1, s2, s3⟩ := set_3 x a b hp
  rw [hA]
  exact ⟨hD.trans ⟨rfl, rfl, rfl, Nat.le_of_eq s3.symm, fun k hk => s2 k (by omega)⟩, (s2 q (fun e => hne e.symm)).trans hq⟩
theorem stores2 {v0 v vA vB : World} {p q : Nat} {x a b x' a' b' : Value} (hA : vA = st3 v p x a b) (hB : vB = st3 vA q x' a' b') (hD : Below v0.heap.size v0 v) (hp : v.heap[p]? = some Zb) (hq : v.heap[q]? = some Zb) (hne : p ≠ q) (hup : v0.heap.size ≤ p) (huq : v0.heap.size ≤ q) : Below v0.heap.size v0 vB ∧ vB.heap[p]? = some (.cells #[x, a, b] 28) ∧ vB.heap[q]? = some (.cells #[x', a', b'] 28) ∧ vB.heap.size = v.heap.size ∧ ∀ k, k ≠ p → k ≠ q → vB.heap[k]? = v.heap[k]? := by
  obtain ⟨s1, s2, s3⟩ := set_3 x a b hp
  obtain ⟨h1, h2⟩ := stores1 hA hD hp hq hne hup
  obtain ⟨t1, t2, t3⟩ := set_3 x' a' b' h2
  rw [show ((v.setCell ⟨p, 0, none⟩ x).setCell ⟨p, 1, none⟩ a).setCell ⟨p, 2, none⟩ b = vA from hA.symm] at s1 s2 s3
  rw [show ((vA.setCell ⟨q, 0, none⟩ x').setCell ⟨q, 1, none⟩ a').setCell ⟨q, 2, none⟩ b' = vB from hB.symm] at t1 t2 t3
  have ho : vB.os = vA.os ∧ vB.tape = vA.tape ∧ vB.output = vA.output := by rw [hB]; exact ⟨rfl, rfl, rfl⟩
  exact ⟨h1.trans ⟨ho.1, ho.2.1, ho.2.2, Nat.le_of_eq t3.symm, fun k hk => t2 k (by omega)⟩, (t2 p hne).trans s1, t1, t3.trans s3, fun k hk hk' => (t2 k hk').trans (s2 k hk)⟩

theorem addr_add_add (a : Addr) (k j : Nat) : (a.add k).add j = a.add (k + j) := by
  unfold Addr.add
  split <;> split <;> simp_all <;> omega
theorem sgd_and (B : Nat) (V : Value) (n : Nat) (R : List Value) (p : Nat) (x a b : Value) : Sgd (fun W => SpS W B V n R ∧ W.heap[p]? = some (.cells #[x, a, b] 28)) :=
  ⟨fun W o h => ⟨(sgd_sps B V n R).al W o h.1, by rw [al_old _ _ (lt_of h.2)]; exact h.2⟩, fun W g j c h hg => ⟨(sgd_sps B V n R).s3 W g j c h.1 hg, by
    rw [heap_setCell_other W ⟨g, j, none⟩ p _ (fun e => by
      have e' : p = g := e
      have h2 := h.2
      rw [e', hg] at h2
      cases h2)]
    exact h.2⟩, fun W g i c h hg => ⟨(sgd_sps B V n R).s88 W g i c h.1 hg, by
    rw [heap_setCell_other W ⟨g, i * 2 + 1, none⟩ p _ (fun e => by
      have e' : p = g := e
      have h2 := h.2
      rw [e', hg] at h2
      cases h2)]
    exact h.2⟩⟩
theorem List.mem_take_at' {α : Type} {l : List α} {k j : Nat} {z : α} (h : (l.take k)[j]? = some z) : l[j]? = some z := by
  have hj := (List.getElem?_eq_some_iff.1 h).1
  rw [List.length_take] at hj
  rwa [List.getElem?_take_of_lt (by omega)] at h
theorem mix_skip1 {P : Program} {ops : Array Oper} {Q : Exit → Act → World → Prop} {S : World → Prop} {fin : Nat → Bool} {o : Oper} {k : Nat} {r : List (Nat × Bool)} {a : Act} {w : World} (h0 : ops[k]? = some o) (hw : Region.wanted o (yielded ops a.tmps) = false) (hS : fin k = false → S w) (h2 : wpMix P ops Q S fin r (a.put o.dst undef) w) : wpMix P ops Q S fin ((k, false) :: r) a w :=
  ⟨o, h0, by rw [if_neg (by rw [hw]; decide)]; exact ⟨hS, h2⟩⟩
theorem thn_fS {A B : List St} {fa sb : Int} (h : 0 ≤ fa ∧ fa < A.length) : eS (thn A fa B sb) = eS A + eS B ∧ fS (thn A fa B sb) = fS A + fS B + 1 := by
  unfold thn
  have hl : fa.toNat < (mv 0 A ++ mv A.length B).length := by rw [List.length_append, mv_len, mv_len]; omega
  rw [eS_adF _ _ _ hl, fS_adF _ _ _ hl, eS_app, fS_app, eS_mv, eS_mv, fS_mv, fS_mv]
  exact ⟨rfl, rfl⟩
theorem orl_fS {A B : List St} {sa fa sb fb : Int} (h : 0 ≤ fa ∧ fa < A.length) (h' : 0 ≤ fb ∧ fb < B.length) : eS (orl A sa fa B sb fb) = eS A + eS B ∧ fS (orl A sa fa B sb fb) = fS A + fS B + 4 := by
  unfold orl
  have e1 : eS [(([], [sa + 1, sb + (1 + A.length)]) : St)] = 0 := rfl
  have e2 : fS [(([], [sa + 1, sb + (1 + A.length)]) : St)] = 2 := rfl
  have e3 : eS [(([], []) : St)] = 0 := rfl
  have e4 : fS [(([], []) : St)] = 0 := rfl
  have hl : (fa + 1).toNat < ([([], [sa + 1, sb + (1 + A.length)])] ++ mv 1 A ++ mv (1 + A.length) B ++ [([], [])] : List St).length := by simp only [List.length_append, mv_len, List.length_cons, List.length_nil]; omega
  rw [eS_adF _ _ _ (by rw [adF_len]; simp only [List.length_append, mv_len, List.length_cons, List.length_nil]; omega), fS_adF _ _ _ (by rw [adF_len]; simp only [List.length_append, mv_len, List.length_cons, List.length_nil]; omega), eS_adF _ _ _ hl, fS_adF _ _ _ hl]
  simp only [eS_app, fS_app, eS_mv, fS_mv, e1, e2, e3, e4]
  omega
/-- An automaton that is good, or empty, is small. -/
theorem small_of {M : List St} {s f : Int} (h : gdB M s f = true ∨ M = []) (he : eS M ≤ 10000) (hf : fS M ≤ 10000) : eS M ≤ 1000000 ∧ fS M ≤ 1000000 ∧ M.length ≤ 4096 ∧ (∀ x ∈ M, x.1.length ≤ 1000000 ∧ x.2.length ≤ 1000000 ∧ ∀ e ∈ x.1, e.1.length ≤ 1000000) ∧ ∀ x ∈ M, x.1.length ≤ most ∧ x.2.length ≤ most ∧ ∀ e ∈ x.1, e.1.length ≤ most := by
  have key : ∀ x ∈ M, x.1.length ≤ 10000 ∧ x.2.length ≤ 10000 ∧ ∀ e ∈ x.1, e.1.length ≤ 64 := fun x hx => by
    rcases h with h | h
    · have h1 := eS_in hx
      have h2 := fS_in hx
      exact ⟨by omega, by omega, (gdd_of h).lens x hx⟩
    · rw [h] at hx; simp at hx
  refine ⟨by omega, by omega, ?_, fun x hx => ?_, fun x hx => ?_⟩
  · rcases h with h | h
    · exact (gdd_of h).few
    · rw [h]; decide
  · obtain ⟨h1, h2, h3⟩ := key x hx
    exact ⟨by omega, by omega, fun e he => by have := h3 e he; omega⟩
  · obtain ⟨h1, h2, h3⟩ := key x hx
    unfold most
    exact ⟨by omega, by omega, fun e he => by have := h3 e he; omega⟩
section
variable {A B M : List St} {sa fa sb fb x y : Int}
theorem JnS.small (h : JnS (gdB A sa fa && gdB B sb fb) (orl A sa fa B sb fb) 0 (1 + A.length + B.length) M x y) (ha : eS A ≤ 2500 ∧ fS A ≤ 2500) (hb : eS B ≤ 2500 ∧ fS B ≤ 2500) (hl : A.length + B.length ≤ 240) : eS M ≤ 1000000 ∧ fS M ≤ 1000000 ∧ M.length ≤ 4096 ∧ (∀ x ∈ M, x.1.length ≤ 1000000 ∧ x.2.length ≤ 1000000 ∧ ∀ e ∈ x.1, e.1.length ≤ 1000000) ∧ ∀ x ∈ M, x.1.length ≤ most ∧ x.2.length ≤ most ∧ ∀ e ∈ x.1, e.1.length ≤ most := by
  rcases bool_cases (gdB A sa fa && gdB B sb fb) with ho | ho
  · obtain ⟨rfl, _, _⟩ := h.yes ho
    have ho' := ho
    simp only [Bool.and_eq_true] at ho'
    obtain ⟨h1, h2⟩ := orl_fS (sa := sa) (sb := sb) (gdd_of ho'.1).fi (gdd_of ho'.2).fi
    exact small_of (.inl (gd_orl ho'.1 ho'.2 (by omega))) (by omega) (by omega)
  · obtain ⟨rfl, _, _⟩ := h.no ho
    exact small_of (s := 0) (f := 0) (.inr rfl) (by decide) (by decide)
theorem JnS.smallT (h : JnS (gdB A sa fa && gdB B sb fb) (thn A fa B sb) sa (fb + A.length) M x y) (ha : eS A ≤ 2500 ∧ fS A ≤ 2500) (hb : eS B ≤ 2500 ∧ fS B ≤ 2500) (hl : A.length + B.length ≤ 240) : eS M ≤ 1000000 ∧ fS M ≤ 1000000 ∧ M.length ≤ 4096 ∧ (∀ x ∈ M, x.1.length ≤ 1000000 ∧ x.2.length ≤ 1000000 ∧ ∀ e ∈ x.1, e.1.length ≤ 1000000) ∧ ∀ x ∈ M, x.1.length ≤ most ∧ x.2.length ≤ most ∧ ∀ e ∈ x.1, e.1.length ≤ most := by
  rcases bool_cases (gdB A sa fa && gdB B sb fb) with ho | ho
  · obtain ⟨rfl, _, _⟩ := h.yes ho
    have ho' := ho
    simp only [Bool.and_eq_true] at ho'
    obtain ⟨h1, h2⟩ := thn_fS (B := B) (sb := sb) (gdd_of ho'.1).fi
    exact small_of (.inl (gd_thn ho'.1 ho'.2 (by omega))) (by omega) (by omega)
  · obtain ⟨rfl, _, _⟩ := h.no ho
    exact small_of (s := 0) (f := 0) (.inr rfl) (by decide) (by decide)
end
set_option maxHeartbeats 64000000 in
set_option maxRecDepth 100000 in
theorem joins_walk (so to : Option Addr) (sc tc na nb : Nat) (A B : List St) (sa fa sb fb : Int) (co : Option Addr) (cl cc : Nat) (c : List Int) (w : World) (hna : na = A.length) (hnb : nb = B.length) (hsA : RdS w so A) (hsB : RdS w to B) (hla : na ≤ most) (hlb : nb ≤ most) (hc : RdI w co c) (hcl : cl = c.length) (hcm : cl ≤ most) (hcc : cl ≤ cc) (ht : Tb w) :
    Calls Tryd.prog 10 #[.agg #[.slice so na sc, .int .i64 sa, .int .i64 fa], .agg #[.slice to nb tc, .int .i64 sb, .int .i64 fb], .slice co cl cc] w fun e w' => e = .returned (.bool true) ∧ Below w.heap.size w w' := by
  have HNA := hid hna
  have HNB := hid hnb
  have HSA := hid hsA
  have HSB := hid hsB
  have HMA := hid hla
  have HMB := hid hlb
  have HC := hid hc
  have HCL := hid hcl
  have HTB := hid ht
  have hp := ht.pos
  unfold most at hcm
  clear hna hnb hsA hsB hla hlb hc hcl ht
  obtain ⟨w1, hw1⟩ : ∃ w1, w1 = (w.alloc (.cells #[.slice so na sc, .int .i64 sa, .int .i64 fa] 28)).alloc (.cells #[.slice to nb tc, .int .i64 sb, .int .i64 fb] 28) := ⟨_, rfl⟩
  have q1 : w1.heap[w.heap.size]? = some (.cells #[.slice so na sc, .int .i64 sa, .int .i64 fa] 28) := by rw [hw1, al_old _ _ (by simp), al_new _ _ rfl]
  have q2 : w1.heap[w.heap.size + 1]? = some (.cells #[.slice to nb tc, .int .i64 sb, .int .i64 fb] 28) := by rw [hw1, al_new _ _ (by simp)]
  have HB1 := hid (show Below w.heap.size w w1 by rw [hw1]; exact ((Below.refl _ _).alloc (Nat.le_refl _) _).alloc (by simp) _)
  have HCW := hid (show ∀ W, Below w1.heap.size w1 W → (W.cell? ⟨w.heap.size, 0, none⟩ = some (.slice so na sc) ∧ W.cell? ⟨w.heap.size, 1, none⟩ = some (.int .i64 sa) ∧ W.cell? ⟨w.heap.size, 2, none⟩ = some (.int .i64 fa)) ∧ (W.cell? ⟨w.heap.size + 1, 0, none⟩ = some (.slice to nb tc) ∧ W.cell? ⟨w.heap.size + 1, 1, none⟩ = some (.int .i64 sb) ∧ W.cell? ⟨w.heap.size + 1, 2, none⟩ = some (.int .i64 fb)) from fun W h => by
    obtain ⟨h1, h2, h3⟩ := box_3 q1
    obtain ⟨h4, h5, h6⟩ := box_3 q2
    exact ⟨⟨cell_bl h h1, cell_bl h h2, cell_bl h h3⟩, cell_bl h h4, cell_bl h h5, cell_bl h h6⟩)
  have HSAW := hid (show ∀ W, Below w1.heap.size w1 W → RdS W so A from fun W h => (HSA.out.below HB1.out).below h)
  have HSBW := hid (show ∀ W, Below w1.heap.size w1 W → RdS W to B from fun W h => (HSB.out.below HB1.out).below h)
  have HCCW := hid (show ∀ W, Below w1.heap.size w1 W → RdI W co c from fun W h => (HC.out.below HB1.out).below h)
  have HTW := hid (show ∀ W, Below w1.heap.size w1 W → Tb W ∧ Below w.heap.size w W from fun W h => ⟨HTB.out.keep (HB1.out.trans (h.mono HB1.out.size)) hp, HB1.out.trans (h.mono HB1.out.size)⟩)
  obtain ⟨⟨a0, a1, a2⟩, b0, b1, b2⟩ := HCW.out _ (Below.refl w1.heap.size w1)
  rw [hw1] at a0 a1 a2 b0 b1 b2
  clear q1 q2
  go_enter Tryd.func10, Tryd.ntmps10
  go_wp2_with fail
  rw [← hw1]
  clear a0 a1 a2 b0 b1 b2 hw1
  refine (wide_any so sc na A sa fa w1 HNA.out (HSAW.out _ (Below.refl _ _)) HMA.out).mono ?_
  rintro e w2 ⟨rfl, be_w2⟩
  have HB2 := hid be_w2
  clear be_w2
  rcases bool_cases (wdb A) with hWA | hWA
  · rw [hWA]
    go_wp2_with fail
    refine (live_tb (HTW.out _ HB2.out).1).mono ?_
    rintro e w3 ⟨rfl, be_w3⟩
    have HB_w3 := hid (HTW.out _ (HB2.out.trans (be_w3.mono HB2.out.size))).2
    clear be_w3
    go_wp2
    go_ret
    exact ⟨rfl, HB_w3.out⟩
  rw [hWA]
  obtain ⟨_, b0, b1, b2⟩ := HCW.out _ HB2.out
  go_wp2_with fail
  clear b0 b1 b2
  refine (wide_any to tc nb B sb fb w2 HNB.out (HSBW.out _ HB2.out) HMB.out).mono ?_
  rintro e w3 ⟨rfl, be_w3⟩
  have HB3 := hid (HB2.out.trans (be_w3.mono HB2.out.size))
  clear be_w3 HB2
  rcases bool_cases (wdb B) with hWB | hWB
  · rw [hWB]
    go_wp2_with fail
    refine (live_tb (HTW.out _ HB3.out).1).mono ?_
    rintro e w4 ⟨rfl, be_w4⟩
    have HB_w4 := hid (HTW.out _ (HB3.out.trans (be_w4.mono HB3.out.size))).2
    clear be_w4
    go_wp2
    go_ret
    exact ⟨rfl, HB_w4.out⟩
  rw [hWB]
  by_cases h20 : ¬ cl ≤ 20
  · have i20 : (20 : Int) < (cl : Int) := by omega
    go_wp2_with fail
    refine (live_tb (HTW.out _ HB3.out).1).mono ?_
    rintro e w4 ⟨rfl, be_w4⟩
    have HB_w4 := hid (HTW.out _ (HB3.out.trans (be_w4.mono HB3.out.size))).2
    clear be_w4
    go_wp2
    go_ret
    exact ⟨rfl, HB_w4.out⟩
  have h20 : cl ≤ 20 := by omega
  have i20 : ¬ (20 : Int) < (cl : Int) := by omega
  have HLA := hid (wid_len hWA)
  have HLB := hid (wid_len hWB)
  have hsmA := wdb_small hWA
  have hsmB := wdb_small hWB
  have HEA := hid (show eS A ≤ 2500 ∧ fS A ≤ 2500 by have h1 := eS_wid A; have h2 := fS_wid A; omega)
  have HEB := hid (show eS B ≤ 2500 ∧ fS B ≤ 2500 by have h1 := eS_wid B; have h2 := fS_wid B; omega)
  have hn1 : na ≤ 120 := by have := HNA.out; omega
  have hn2 : nb ≤ 120 := by have := HNB.out; omega
  clear hsmA hsmB hWA hWB hcm
  go_wp2_with fail
  refine wp_mid (fun a' W => ∃ (p7 p8 : Nat) (xo yo : Option Addr) (xc yc : Nat), Cp2 w3 W p7 p8 na nb xo yo xc yc A B sa fa sb fb ∧ a' = (?F : Nat → Nat → Option Addr → Option Addr → Nat → Nat → Act) p7 p8 xo yo xc yc) ?m1 ?m2
  case m1 =>
    obtain ⟨v0, hv0⟩ : ∃ v, v = w3.drew := ⟨_, rfl⟩
    have HD00 := hid (show Below w3.heap.size w3 v0 by rw [hv0]; exact (Below.refl _ _).drew)
    have HV0 := hid (show Below w1.heap.size w1 v0 from HB3.out.trans (HD00.out.mono HB3.out.size))
    have HD0 := hid (Below.refl v0.heap.size v0)
    have HCV := hid (show ∀ W, Below v0.heap.size v0 W → ((W.cell? ⟨w.heap.size, 0, none⟩ = some (.slice so na sc) ∧ W.cell? ⟨w.heap.size, 1, none⟩ = some (.int .i64 sa) ∧ W.cell? ⟨w.heap.size, 2, none⟩ = some (.int .i64 fa)) ∧ (W.cell? ⟨w.heap.size + 1, 0, none⟩ = some (.slice to nb tc) ∧ W.cell? ⟨w.heap.size + 1, 1, none⟩ = some (.int .i64 sb) ∧ W.cell? ⟨w.heap.size + 1, 2, none⟩ = some (.int .i64 fb))) ∧ RdS W so A ∧ RdS W to B from fun W h => by
      have h' := HV0.out.trans (h.mono HV0.out.size)
      exact ⟨HCW.out _ h', HSAW.out _ h', HSBW.out _ h'⟩)
    refine wp_region_mixQ (.rd 0 (.rd 2 (.three 1 4 5 (.three 3 4 5 (.two 4 5 (.go 5 (.go 6 (.go 7 .nil))) (.go 4 (.go 6 (.go 7 .nil)))) (.two 3 5 (.go 5 (.go 6 (.go 7 .nil))) (.go 3 (.go 6 (.go 7 .nil)))) (.two 3 4 (.go 4 (.go 6 (.go 7 .nil))) (.go 3 (.go 6 (.go 7 .nil))))) (.two 1 5 (.two 3 5 (.go 5 (.go 6 (.go 7 .nil))) (.go 3 (.go 6 (.go 7 .nil)))) (.go 1 (.go 3 (.go 6 (.go 7 .nil))))) (.two 1 4 (.two 3 4 (.go 4 (.go 6 (.go 7 .nil))) (.go 3 (.go 6 (.go 7 .nil)))) (.go 1 (.go 3 (.go 6 (.go 7 .nil)))))))) (fun w' => (w'.cell? ⟨w.heap.size, 0, none⟩ = some (.slice so na sc) ∧ w'.cell? ⟨w.heap.size, 1, none⟩ = some (.int .i64 sa) ∧ w'.cell? ⟨w.heap.size, 2, none⟩ = some (.int .i64 fa)) ∧ (w'.cell? ⟨w.heap.size + 1, 0, none⟩ = some (.slice to nb tc) ∧ w'.cell? ⟨w.heap.size + 1, 1, none⟩ = some (.int .i64 sb) ∧ w'.cell? ⟨w.heap.size + 1, 2, none⟩ = some (.int .i64 fb))) (by kernel_rfl) (by kernel_rfl) rfl (by kernel_rfl) (by rw [← hv0]; exact HCW.out _ HV0.out) ?_
    rw [← hv0]
    clear hv0
    iterate 2 (refine mixQ_rd ?_ rfl (by kernel_rfl) (fun w' hS => ?_) ?_; (rotate_left; (obtain ⟨⟨s1, s2, s3⟩, s4, s5, s6⟩ := hS; go_simp; with_reducible rfl); rotate_left))
    refine mixQ_three ?za1a ?za1b ?za1c
    case za1a =>
     refine hnd_go rfl (by kernel_rfl) fun KK hKK => ?_
     go_simp
     refine (ownx_any so sc na A sa fa v0 HNA.out (HCV.out _ HD0.out).2.1 (by omega) HLA.out).mono ?_
     rintro e v1 ⟨xo, xc, rfl, hT, ba⟩
     have HT1 := hid hT
     have HS0 := hid ba.size
     have HD1 := hid (HD0.out.trans (ba.mono HD0.out.size))
     have HK1 := hid (Below.refl v1.heap.size v1)
     refine hKK _ _ (HCV.out _ HD1.out).1 ?_
     clear hKK KK ba hT
     refine mixQ_three ?za2a ?za2b ?za2c
     case za2a =>
      refine hnd_go rfl (by kernel_rfl) fun KK hKK => ?_
      go_simp
      refine (ownx_any to tc nb B sb fb v1 HNB.out (HCV.out _ HD1.out).2.2 (by omega) HLB.out).mono ?_
      rintro e v2 ⟨yo, yc, rfl, hT, ba⟩
      have HT3 := hid hT
      have HS1 := hid ba.size
      have HD2 := hid (HD1.out.trans (ba.mono HD1.out.size))
      have HK1 := hid (HK1.out.trans (ba.mono HK1.out.size))
      have HK3 := hid (Below.refl v2.heap.size v2)
      refine hKK _ _ (HCV.out _ HD2.out).1 ?_
      clear hKK KK ba hT
      refine mixQ_two ?za3a ?za3b
      case za3a =>
       refine hnd_go rfl (by kernel_rfl) fun KK hKK => ?_
       go_simp
       obtain ⟨v3, p7, hW, hp, ba, hh, hz⟩ := al_box v2
       rw [← hW, ← hp]
       have HP4 := hid hh
       have HL4 := hid hp
       have HS2 := hid hz
       have HD3 := hid (HD2.out.trans (ba.mono HD2.out.size))
       have HK1 := hid (HK1.out.trans (ba.mono HK1.out.size))
       have HK3 := hid (HK3.out.trans (ba.mono HK3.out.size))
       have HK4 := hid (Below.refl v3.heap.size v3)
       refine hKK _ _ (HCV.out _ HD3.out).1 ?_
       clear hKK KK ba hW hp hh hz
       refine mixQ_go rfl (by kernel_rfl) fun KK hKK => ?_
       go_simp
       obtain ⟨v4, p8, hW, hp, ba, hh, hz⟩ := al_box v3
       rw [← hW, ← hp]
       have HP5 := hid hh
       have HL5 := hid hp
       have HS3 := hid hz
       have HD4 := hid (HD3.out.trans (ba.mono HD3.out.size))
       have HK1 := hid (HK1.out.trans (ba.mono HK1.out.size))
       have HK3 := hid (HK3.out.trans (ba.mono HK3.out.size))
       have HK4 := hid (HK4.out.trans (ba.mono HK4.out.size))
       have HK5 := hid (Below.refl v4.heap.size v4)
       refine hKK _ _ (HCV.out _ HD4.out).1 ?_
       clear hKK KK ba hW hp hh hz
       have HF := hid (show p7 ≠ p8 ∧ v0.heap.size ≤ p7 ∧ v0.heap.size ≤ p8 from by
         have := And.intro HS0.out (And.intro HS1.out (And.intro HS2.out (And.intro HS3.out (And.intro HL4.out HL5.out))))
         omega)
       have HPX := hid ((HK4.out.block p7 (lt_of HP4.out)).trans HP4.out)
       have HQX := hid ((HK5.out.block p8 (lt_of HP5.out)).trans HP5.out)
       obtain ⟨x0, x1, x2, f0, f1, f2⟩ := box6 HPX.out
       refine mixQ_go rfl (by kernel_rfl) fun KK hKK => ?_
       go_simp
       obtain ⟨vA, hvA⟩ : ∃ W, W = ((v4.setCell ⟨p7, 0, none⟩ (.slice xo na xc)).setCell ⟨p7, 1, none⟩ (.int .i64 sa)).setCell ⟨p7, 2, none⟩ (.int .i64 fa) := ⟨_, rfl⟩
       rw [← hvA]
       have HVA := hid (show vA = st3 v4 p7 _ _ _ from hvA)
       have hA := stores1 HVA.out HD4.out HPX.out HQX.out HF.out.1 HF.out.2.1
       refine hKK _ _ (HCV.out _ hA.1).1 ?_
       clear hKK KK hvA x0 x1 x2 f0 f1 f2
       obtain ⟨x0, x1, x2, f0, f1, f2⟩ := box6 hA.2
       clear hA
       refine mixQ_go rfl (by kernel_rfl) fun KK hKK => ?_
       go_simp
       obtain ⟨vB, hvB⟩ : ∃ W, W = ((vA.setCell ⟨p8, 0, none⟩ (.slice yo nb yc)).setCell ⟨p8, 1, none⟩ (.int .i64 sb)).setCell ⟨p8, 2, none⟩ (.int .i64 fb) := ⟨_, rfl⟩
       rw [← hvB]
       have hB := stores2 HVA.out hvB HD4.out HPX.out HQX.out HF.out.1 HF.out.2.1 HF.out.2.2
       refine hKK _ _ (HCV.out _ hB.1).1 ?_
       clear hKK KK hvB x0 x1 x2 f0 f1 f2
       have z := And.intro HS0.out (And.intro HS1.out (And.intro HS2.out (And.intro HS3.out (And.intro HL4.out (And.intro HL5.out (And.intro hB.2.2.2.1 (And.intro HK1.out.size HK3.out.size)))))))
       have HRX := hid (show RdS vB xo A from (HT1.out.keep ⟨by omega, fun k hk hx => (hB.2.2.2.2 k (by have hx : ¬ k < v0.heap.size := hx; omega) (by have hx : ¬ k < v0.heap.size := hx; omega)).trans (HK1.out.block k hk), fun _ _ h => h⟩).reads)
       have HRY := hid (show RdS vB yo B from (HT3.out.keep ⟨by omega, fun k hk hx => (hB.2.2.2.2 k (by have hx : ¬ k < v1.heap.size := hx; omega) (by have hx : ¬ k < v1.heap.size := hx; omega)).trans (HK3.out.block k hk), fun _ _ h => h⟩).reads)
       refine mixQ_end (NoPanic.normal ⟨rfl, p7, p8, xo, yo, xc, yc, ⟨HD00.out.trans (hB.1.mono HD00.out.size), hB.2.1, hB.2.2.1, HRX.out, HRY.out⟩, ?_⟩)
       with_reducible rfl
      case za3b =>
       refine hnd_go rfl (by kernel_rfl) fun KK hKK => ?_
       go_simp
       obtain ⟨v3, p8, hW, hp, ba, hh, hz⟩ := al_box v2
       rw [← hW, ← hp]
       have HP5 := hid hh
       have HL5 := hid hp
       have HS2 := hid hz
       have HD3 := hid (HD2.out.trans (ba.mono HD2.out.size))
       have HK1 := hid (HK1.out.trans (ba.mono HK1.out.size))
       have HK3 := hid (HK3.out.trans (ba.mono HK3.out.size))
       have HK5 := hid (Below.refl v3.heap.size v3)
       refine hKK _ _ (HCV.out _ HD3.out).1 ?_
       clear hKK KK ba hW hp hh hz
       refine mixQ_go rfl (by kernel_rfl) fun KK hKK => ?_
       go_simp
       obtain ⟨v4, p7, hW, hp, ba, hh, hz⟩ := al_box v3
       rw [← hW, ← hp]
       have HP4 := hid hh
       have HL4 := hid hp
       have HS3 := hid hz
       have HD4 := hid (HD3.out.trans (ba.mono HD3.out.size))
       have HK1 := hid (HK1.out.trans (ba.mono HK1.out.size))
       have HK3 := hid (HK3.out.trans (ba.mono HK3.out.size))
       have HK5 := hid (HK5.out.trans (ba.mono HK5.out.size))
       have HK4 := hid (Below.refl v4.heap.size v4)
       refine hKK _ _ (HCV.out _ HD4.out).1 ?_
       clear hKK KK ba hW hp hh hz
       have HF := hid (show p7 ≠ p8 ∧ v0.heap.size ≤ p7 ∧ v0.heap.size ≤ p8 from by
         have := And.intro HS0.out (And.intro HS1.out (And.intro HS2.out (And.intro HS3.out (And.intro HL4.out HL5.out))))
         omega)
       have HPX := hid ((HK4.out.block p7 (lt_of HP4.out)).trans HP4.out)
       have HQX := hid ((HK5.out.block p8 (lt_of HP5.out)).trans HP5.out)
       obtain ⟨x0, x1, x2, f0, f1, f2⟩ := box6 HPX.out
       refine mixQ_go rfl (by kernel_rfl) fun KK hKK => ?_
       go_simp
       obtain ⟨vA, hvA⟩ : ∃ W, W = ((v4.setCell ⟨p7, 0, none⟩ (.slice xo na xc)).setCell ⟨p7, 1, none⟩ (.int .i64 sa)).setCell ⟨p7, 2, none⟩ (.int .i64 fa) := ⟨_, rfl⟩
       rw [← hvA]
       have HVA := hid (show vA = st3 v4 p7 _ _ _ from hvA)
       have hA := stores1 HVA.out HD4.out HPX.out HQX.out HF.out.1 HF.out.2.1
       refine hKK _ _ (HCV.out _ hA.1).1 ?_
       clear hKK KK hvA x0 x1 x2 f0 f1 f2
       obtain ⟨x0, x1, x2, f0, f1, f2⟩ := box6 hA.2
       clear hA
       refine mixQ_go rfl (by kernel_rfl) fun KK hKK => ?_
       go_simp
       obtain ⟨vB, hvB⟩ : ∃ W, W = ((vA.setCell ⟨p8, 0, none⟩ (.slice yo nb yc)).setCell ⟨p8, 1, none⟩ (.int .i64 sb)).setCell ⟨p8, 2, none⟩ (.int .i64 fb) := ⟨_, rfl⟩
       rw [← hvB]
       have hB := stores2 HVA.out hvB HD4.out HPX.out HQX.out HF.out.1 HF.out.2.1 HF.out.2.2
       refine hKK _ _ (HCV.out _ hB.1).1 ?_
       clear hKK KK hvB x0 x1 x2 f0 f1 f2
       have z := And.intro HS0.out (And.intro HS1.out (And.intro HS2.out (And.intro HS3.out (And.intro HL4.out (And.intro HL5.out (And.intro hB.2.2.2.1 (And.intro HK1.out.size HK3.out.size)))))))
       have HRX := hid (show RdS vB xo A from (HT1.out.keep ⟨by omega, fun k hk hx => (hB.2.2.2.2 k (by have hx : ¬ k < v0.heap.size := hx; omega) (by have hx : ¬ k < v0.heap.size := hx; omega)).trans (HK1.out.block k hk), fun _ _ h => h⟩).reads)
       have HRY := hid (show RdS vB yo B from (HT3.out.keep ⟨by omega, fun k hk hx => (hB.2.2.2.2 k (by have hx : ¬ k < v1.heap.size := hx; omega) (by have hx : ¬ k < v1.heap.size := hx; omega)).trans (HK3.out.block k hk), fun _ _ h => h⟩).reads)
       refine mixQ_end (NoPanic.normal ⟨rfl, p7, p8, xo, yo, xc, yc, ⟨HD00.out.trans (hB.1.mono HD00.out.size), hB.2.1, hB.2.2.1, HRX.out, HRY.out⟩, ?_⟩)
       with_reducible rfl
     case za2b =>
      refine hnd_go rfl (by kernel_rfl) fun KK hKK => ?_
      go_simp
      obtain ⟨v2, p7, hW, hp, ba, hh, hz⟩ := al_box v1
      rw [← hW, ← hp]
      have HP4 := hid hh
      have HL4 := hid hp
      have HS1 := hid hz
      have HD2 := hid (HD1.out.trans (ba.mono HD1.out.size))
      have HK1 := hid (HK1.out.trans (ba.mono HK1.out.size))
      have HK4 := hid (Below.refl v2.heap.size v2)
      refine hKK _ _ (HCV.out _ HD2.out).1 ?_
      clear hKK KK ba hW hp hh hz
      refine mixQ_two ?za4a ?za4b
      case za4a =>
       refine hnd_go rfl (by kernel_rfl) fun KK hKK => ?_
       go_simp
       refine (ownx_any to tc nb B sb fb v2 HNB.out (HCV.out _ HD2.out).2.2 (by omega) HLB.out).mono ?_
       rintro e v3 ⟨yo, yc, rfl, hT, ba⟩
       have HT3 := hid hT
       have HS2 := hid ba.size
       have HD3 := hid (HD2.out.trans (ba.mono HD2.out.size))
       have HK1 := hid (HK1.out.trans (ba.mono HK1.out.size))
       have HK4 := hid (HK4.out.trans (ba.mono HK4.out.size))
       have HK3 := hid (Below.refl v3.heap.size v3)
       refine hKK _ _ (HCV.out _ HD3.out).1 ?_
       clear hKK KK ba hT
       refine mixQ_go rfl (by kernel_rfl) fun KK hKK => ?_
       go_simp
       obtain ⟨v4, p8, hW, hp, ba, hh, hz⟩ := al_box v3
       rw [← hW, ← hp]
       have HP5 := hid hh
       have HL5 := hid hp
       have HS3 := hid hz
       have HD4 := hid (HD3.out.trans (ba.mono HD3.out.size))
       have HK1 := hid (HK1.out.trans (ba.mono HK1.out.size))
       have HK4 := hid (HK4.out.trans (ba.mono HK4.out.size))
       have HK3 := hid (HK3.out.trans (ba.mono HK3.out.size))
       have HK5 := hid (Below.refl v4.heap.size v4)
       refine hKK _ _ (HCV.out _ HD4.out).1 ?_
       clear hKK KK ba hW hp hh hz
       have HF := hid (show p7 ≠ p8 ∧ v0.heap.size ≤ p7 ∧ v0.heap.size ≤ p8 from by
         have := And.intro HS0.out (And.intro HS1.out (And.intro HS2.out (And.intro HS3.out (And.intro HL4.out HL5.out))))
         omega)
       have HPX := hid ((HK4.out.block p7 (lt_of HP4.out)).trans HP4.out)
       have HQX := hid ((HK5.out.block p8 (lt_of HP5.out)).trans HP5.out)
       obtain ⟨x0, x1, x2, f0, f1, f2⟩ := box6 HPX.out
       refine mixQ_go rfl (by kernel_rfl) fun KK hKK => ?_
       go_simp
       obtain ⟨vA, hvA⟩ : ∃ W, W = ((v4.setCell ⟨p7, 0, none⟩ (.slice xo na xc)).setCell ⟨p7, 1, none⟩ (.int .i64 sa)).setCell ⟨p7, 2, none⟩ (.int .i64 fa) := ⟨_, rfl⟩
       rw [← hvA]
       have HVA := hid (show vA = st3 v4 p7 _ _ _ from hvA)
       have hA := stores1 HVA.out HD4.out HPX.out HQX.out HF.out.1 HF.out.2.1
       refine hKK _ _ (HCV.out _ hA.1).1 ?_
       clear hKK KK hvA x0 x1 x2 f0 f1 f2
       obtain ⟨x0, x1, x2, f0, f1, f2⟩ := box6 hA.2
       clear hA
       refine mixQ_go rfl (by kernel_rfl) fun KK hKK => ?_
       go_simp
       obtain ⟨vB, hvB⟩ : ∃ W, W = ((vA.setCell ⟨p8, 0, none⟩ (.slice yo nb yc)).setCell ⟨p8, 1, none⟩ (.int .i64 sb)).setCell ⟨p8, 2, none⟩ (.int .i64 fb) := ⟨_, rfl⟩
       rw [← hvB]
       have hB := stores2 HVA.out hvB HD4.out HPX.out HQX.out HF.out.1 HF.out.2.1 HF.out.2.2
       refine hKK _ _ (HCV.out _ hB.1).1 ?_
       clear hKK KK hvB x0 x1 x2 f0 f1 f2
       have z := And.intro HS0.out (And.intro HS1.out (And.intro HS2.out (And.intro HS3.out (And.intro HL4.out (And.intro HL5.out (And.intro hB.2.2.2.1 (And.intro HK1.out.size HK3.out.size)))))))
       have HRX := hid (show RdS vB xo A from (HT1.out.keep ⟨by omega, fun k hk hx => (hB.2.2.2.2 k (by have hx : ¬ k < v0.heap.size := hx; omega) (by have hx : ¬ k < v0.heap.size := hx; omega)).trans (HK1.out.block k hk), fun _ _ h => h⟩).reads)
       have HRY := hid (show RdS vB yo B from (HT3.out.keep ⟨by omega, fun k hk hx => (hB.2.2.2.2 k (by have hx : ¬ k < v2.heap.size := hx; omega) (by have hx : ¬ k < v2.heap.size := hx; omega)).trans (HK3.out.block k hk), fun _ _ h => h⟩).reads)
       refine mixQ_end (NoPanic.normal ⟨rfl, p7, p8, xo, yo, xc, yc, ⟨HD00.out.trans (hB.1.mono HD00.out.size), hB.2.1, hB.2.2.1, HRX.out, HRY.out⟩, ?_⟩)
       with_reducible rfl
      case za4b =>
       refine hnd_go rfl (by kernel_rfl) fun KK hKK => ?_
       go_simp
       obtain ⟨v3, p8, hW, hp, ba, hh, hz⟩ := al_box v2
       rw [← hW, ← hp]
       have HP5 := hid hh
       have HL5 := hid hp
       have HS2 := hid hz
       have HD3 := hid (HD2.out.trans (ba.mono HD2.out.size))
       have HK1 := hid (HK1.out.trans (ba.mono HK1.out.size))
       have HK4 := hid (HK4.out.trans (ba.mono HK4.out.size))
       have HK5 := hid (Below.refl v3.heap.size v3)
       refine hKK _ _ (HCV.out _ HD3.out).1 ?_
       clear hKK KK ba hW hp hh hz
       refine mixQ_go rfl (by kernel_rfl) fun KK hKK => ?_
       go_simp
       refine (ownx_any to tc nb B sb fb v3 HNB.out (HCV.out _ HD3.out).2.2 (by omega) HLB.out).mono ?_
       rintro e v4 ⟨yo, yc, rfl, hT, ba⟩
       have HT3 := hid hT
       have HS3 := hid ba.size
       have HD4 := hid (HD3.out.trans (ba.mono HD3.out.size))
       have HK1 := hid (HK1.out.trans (ba.mono HK1.out.size))
       have HK4 := hid (HK4.out.trans (ba.mono HK4.out.size))
       have HK5 := hid (HK5.out.trans (ba.mono HK5.out.size))
       have HK3 := hid (Below.refl v4.heap.size v4)
       refine hKK _ _ (HCV.out _ HD4.out).1 ?_
       clear hKK KK ba hT
       have HF := hid (show p7 ≠ p8 ∧ v0.heap.size ≤ p7 ∧ v0.heap.size ≤ p8 from by
         have := And.intro HS0.out (And.intro HS1.out (And.intro HS2.out (And.intro HS3.out (And.intro HL4.out HL5.out))))
         omega)
       have HPX := hid ((HK4.out.block p7 (lt_of HP4.out)).trans HP4.out)
       have HQX := hid ((HK5.out.block p8 (lt_of HP5.out)).trans HP5.out)
       obtain ⟨x0, x1, x2, f0, f1, f2⟩ := box6 HPX.out
       refine mixQ_go rfl (by kernel_rfl) fun KK hKK => ?_
       go_simp
       obtain ⟨vA, hvA⟩ : ∃ W, W = ((v4.setCell ⟨p7, 0, none⟩ (.slice xo na xc)).setCell ⟨p7, 1, none⟩ (.int .i64 sa)).setCell ⟨p7, 2, none⟩ (.int .i64 fa) := ⟨_, rfl⟩
       rw [← hvA]
       have HVA := hid (show vA = st3 v4 p7 _ _ _ from hvA)
       have hA := stores1 HVA.out HD4.out HPX.out HQX.out HF.out.1 HF.out.2.1
       refine hKK _ _ (HCV.out _ hA.1).1 ?_
       clear hKK KK hvA x0 x1 x2 f0 f1 f2
       obtain ⟨x0, x1, x2, f0, f1, f2⟩ := box6 hA.2
       clear hA
       refine mixQ_go rfl (by kernel_rfl) fun KK hKK => ?_
       go_simp
       obtain ⟨vB, hvB⟩ : ∃ W, W = ((vA.setCell ⟨p8, 0, none⟩ (.slice yo nb yc)).setCell ⟨p8, 1, none⟩ (.int .i64 sb)).setCell ⟨p8, 2, none⟩ (.int .i64 fb) := ⟨_, rfl⟩
       rw [← hvB]
       have hB := stores2 HVA.out hvB HD4.out HPX.out HQX.out HF.out.1 HF.out.2.1 HF.out.2.2
       refine hKK _ _ (HCV.out _ hB.1).1 ?_
       clear hKK KK hvB x0 x1 x2 f0 f1 f2
       have z := And.intro HS0.out (And.intro HS1.out (And.intro HS2.out (And.intro HS3.out (And.intro HL4.out (And.intro HL5.out (And.intro hB.2.2.2.1 (And.intro HK1.out.size HK3.out.size)))))))
       have HRX := hid (show RdS vB xo A from (HT1.out.keep ⟨by omega, fun k hk hx => (hB.2.2.2.2 k (by have hx : ¬ k < v0.heap.size := hx; omega) (by have hx : ¬ k < v0.heap.size := hx; omega)).trans (HK1.out.block k hk), fun _ _ h => h⟩).reads)
       have HRY := hid (show RdS vB yo B from (HT3.out.keep ⟨by omega, fun k hk hx => (hB.2.2.2.2 k (by have hx : ¬ k < v3.heap.size := hx; omega) (by have hx : ¬ k < v3.heap.size := hx; omega)).trans (HK3.out.block k hk), fun _ _ h => h⟩).reads)
       refine mixQ_end (NoPanic.normal ⟨rfl, p7, p8, xo, yo, xc, yc, ⟨HD00.out.trans (hB.1.mono HD00.out.size), hB.2.1, hB.2.2.1, HRX.out, HRY.out⟩, ?_⟩)
       with_reducible rfl
     case za2c =>
      refine hnd_go rfl (by kernel_rfl) fun KK hKK => ?_
      go_simp
      obtain ⟨v2, p8, hW, hp, ba, hh, hz⟩ := al_box v1
      rw [← hW, ← hp]
      have HP5 := hid hh
      have HL5 := hid hp
      have HS1 := hid hz
      have HD2 := hid (HD1.out.trans (ba.mono HD1.out.size))
      have HK1 := hid (HK1.out.trans (ba.mono HK1.out.size))
      have HK5 := hid (Below.refl v2.heap.size v2)
      refine hKK _ _ (HCV.out _ HD2.out).1 ?_
      clear hKK KK ba hW hp hh hz
      refine mixQ_two ?za5a ?za5b
      case za5a =>
       refine hnd_go rfl (by kernel_rfl) fun KK hKK => ?_
       go_simp
       refine (ownx_any to tc nb B sb fb v2 HNB.out (HCV.out _ HD2.out).2.2 (by omega) HLB.out).mono ?_
       rintro e v3 ⟨yo, yc, rfl, hT, ba⟩
       have HT3 := hid hT
       have HS2 := hid ba.size
       have HD3 := hid (HD2.out.trans (ba.mono HD2.out.size))
       have HK1 := hid (HK1.out.trans (ba.mono HK1.out.size))
       have HK5 := hid (HK5.out.trans (ba.mono HK5.out.size))
       have HK3 := hid (Below.refl v3.heap.size v3)
       refine hKK _ _ (HCV.out _ HD3.out).1 ?_
       clear hKK KK ba hT
       refine mixQ_go rfl (by kernel_rfl) fun KK hKK => ?_
       go_simp
       obtain ⟨v4, p7, hW, hp, ba, hh, hz⟩ := al_box v3
       rw [← hW, ← hp]
       have HP4 := hid hh
       have HL4 := hid hp
       have HS3 := hid hz
       have HD4 := hid (HD3.out.trans (ba.mono HD3.out.size))
       have HK1 := hid (HK1.out.trans (ba.mono HK1.out.size))
       have HK5 := hid (HK5.out.trans (ba.mono HK5.out.size))
       have HK3 := hid (HK3.out.trans (ba.mono HK3.out.size))
       have HK4 := hid (Below.refl v4.heap.size v4)
       refine hKK _ _ (HCV.out _ HD4.out).1 ?_
       clear hKK KK ba hW hp hh hz
       have HF := hid (show p7 ≠ p8 ∧ v0.heap.size ≤ p7 ∧ v0.heap.size ≤ p8 from by
         have := And.intro HS0.out (And.intro HS1.out (And.intro HS2.out (And.intro HS3.out (And.intro HL4.out HL5.out))))
         omega)
       have HPX := hid ((HK4.out.block p7 (lt_of HP4.out)).trans HP4.out)
       have HQX := hid ((HK5.out.block p8 (lt_of HP5.out)).trans HP5.out)
       obtain ⟨x0, x1, x2, f0, f1, f2⟩ := box6 HPX.out
       refine mixQ_go rfl (by kernel_rfl) fun KK hKK => ?_
       go_simp
       obtain ⟨vA, hvA⟩ : ∃ W, W = ((v4.setCell ⟨p7, 0, none⟩ (.slice xo na xc)).setCell ⟨p7, 1, none⟩ (.int .i64 sa)).setCell ⟨p7, 2, none⟩ (.int .i64 fa) := ⟨_, rfl⟩
       rw [← hvA]
       have HVA := hid (show vA = st3 v4 p7 _ _ _ from hvA)
       have hA := stores1 HVA.out HD4.out HPX.out HQX.out HF.out.1 HF.out.2.1
       refine hKK _ _ (HCV.out _ hA.1).1 ?_
       clear hKK KK hvA x0 x1 x2 f0 f1 f2
       obtain ⟨x0, x1, x2, f0, f1, f2⟩ := box6 hA.2
       clear hA
       refine mixQ_go rfl (by kernel_rfl) fun KK hKK => ?_
       go_simp
       obtain ⟨vB, hvB⟩ : ∃ W, W = ((vA.setCell ⟨p8, 0, none⟩ (.slice yo nb yc)).setCell ⟨p8, 1, none⟩ (.int .i64 sb)).setCell ⟨p8, 2, none⟩ (.int .i64 fb) := ⟨_, rfl⟩
       rw [← hvB]
       have hB := stores2 HVA.out hvB HD4.out HPX.out HQX.out HF.out.1 HF.out.2.1 HF.out.2.2
       refine hKK _ _ (HCV.out _ hB.1).1 ?_
       clear hKK KK hvB x0 x1 x2 f0 f1 f2
       have z := And.intro HS0.out (And.intro HS1.out (And.intro HS2.out (And.intro HS3.out (And.intro HL4.out (And.intro HL5.out (And.intro hB.2.2.2.1 (And.intro HK1.out.size HK3.out.size)))))))
       have HRX := hid (show RdS vB xo A from (HT1.out.keep ⟨by omega, fun k hk hx => (hB.2.2.2.2 k (by have hx : ¬ k < v0.heap.size := hx; omega) (by have hx : ¬ k < v0.heap.size := hx; omega)).trans (HK1.out.block k hk), fun _ _ h => h⟩).reads)
       have HRY := hid (show RdS vB yo B from (HT3.out.keep ⟨by omega, fun k hk hx => (hB.2.2.2.2 k (by have hx : ¬ k < v2.heap.size := hx; omega) (by have hx : ¬ k < v2.heap.size := hx; omega)).trans (HK3.out.block k hk), fun _ _ h => h⟩).reads)
       refine mixQ_end (NoPanic.normal ⟨rfl, p7, p8, xo, yo, xc, yc, ⟨HD00.out.trans (hB.1.mono HD00.out.size), hB.2.1, hB.2.2.1, HRX.out, HRY.out⟩, ?_⟩)
       with_reducible rfl
      case za5b =>
       refine hnd_go rfl (by kernel_rfl) fun KK hKK => ?_
       go_simp
       obtain ⟨v3, p7, hW, hp, ba, hh, hz⟩ := al_box v2
       rw [← hW, ← hp]
       have HP4 := hid hh
       have HL4 := hid hp
       have HS2 := hid hz
       have HD3 := hid (HD2.out.trans (ba.mono HD2.out.size))
       have HK1 := hid (HK1.out.trans (ba.mono HK1.out.size))
       have HK5 := hid (HK5.out.trans (ba.mono HK5.out.size))
       have HK4 := hid (Below.refl v3.heap.size v3)
       refine hKK _ _ (HCV.out _ HD3.out).1 ?_
       clear hKK KK ba hW hp hh hz
       refine mixQ_go rfl (by kernel_rfl) fun KK hKK => ?_
       go_simp
       refine (ownx_any to tc nb B sb fb v3 HNB.out (HCV.out _ HD3.out).2.2 (by omega) HLB.out).mono ?_
       rintro e v4 ⟨yo, yc, rfl, hT, ba⟩
       have HT3 := hid hT
       have HS3 := hid ba.size
       have HD4 := hid (HD3.out.trans (ba.mono HD3.out.size))
       have HK1 := hid (HK1.out.trans (ba.mono HK1.out.size))
       have HK5 := hid (HK5.out.trans (ba.mono HK5.out.size))
       have HK4 := hid (HK4.out.trans (ba.mono HK4.out.size))
       have HK3 := hid (Below.refl v4.heap.size v4)
       refine hKK _ _ (HCV.out _ HD4.out).1 ?_
       clear hKK KK ba hT
       have HF := hid (show p7 ≠ p8 ∧ v0.heap.size ≤ p7 ∧ v0.heap.size ≤ p8 from by
         have := And.intro HS0.out (And.intro HS1.out (And.intro HS2.out (And.intro HS3.out (And.intro HL4.out HL5.out))))
         omega)
       have HPX := hid ((HK4.out.block p7 (lt_of HP4.out)).trans HP4.out)
       have HQX := hid ((HK5.out.block p8 (lt_of HP5.out)).trans HP5.out)
       obtain ⟨x0, x1, x2, f0, f1, f2⟩ := box6 HPX.out
       refine mixQ_go rfl (by kernel_rfl) fun KK hKK => ?_
       go_simp
       obtain ⟨vA, hvA⟩ : ∃ W, W = ((v4.setCell ⟨p7, 0, none⟩ (.slice xo na xc)).setCell ⟨p7, 1, none⟩ (.int .i64 sa)).setCell ⟨p7, 2, none⟩ (.int .i64 fa) := ⟨_, rfl⟩
       rw [← hvA]
       have HVA := hid (show vA = st3 v4 p7 _ _ _ from hvA)
       have hA := stores1 HVA.out HD4.out HPX.out HQX.out HF.out.1 HF.out.2.1
       refine hKK _ _ (HCV.out _ hA.1).1 ?_
       clear hKK KK hvA x0 x1 x2 f0 f1 f2
       obtain ⟨x0, x1, x2, f0, f1, f2⟩ := box6 hA.2
       clear hA
       refine mixQ_go rfl (by kernel_rfl) fun KK hKK => ?_
       go_simp
       obtain ⟨vB, hvB⟩ : ∃ W, W = ((vA.setCell ⟨p8, 0, none⟩ (.slice yo nb yc)).setCell ⟨p8, 1, none⟩ (.int .i64 sb)).setCell ⟨p8, 2, none⟩ (.int .i64 fb) := ⟨_, rfl⟩
       rw [← hvB]
       have hB := stores2 HVA.out hvB HD4.out HPX.out HQX.out HF.out.1 HF.out.2.1 HF.out.2.2
       refine hKK _ _ (HCV.out _ hB.1).1 ?_
       clear hKK KK hvB x0 x1 x2 f0 f1 f2
       have z := And.intro HS0.out (And.intro HS1.out (And.intro HS2.out (And.intro HS3.out (And.intro HL4.out (And.intro HL5.out (And.intro hB.2.2.2.1 (And.intro HK1.out.size HK3.out.size)))))))
       have HRX := hid (show RdS vB xo A from (HT1.out.keep ⟨by omega, fun k hk hx => (hB.2.2.2.2 k (by have hx : ¬ k < v0.heap.size := hx; omega) (by have hx : ¬ k < v0.heap.size := hx; omega)).trans (HK1.out.block k hk), fun _ _ h => h⟩).reads)
       have HRY := hid (show RdS vB yo B from (HT3.out.keep ⟨by omega, fun k hk hx => (hB.2.2.2.2 k (by have hx : ¬ k < v3.heap.size := hx; omega) (by have hx : ¬ k < v3.heap.size := hx; omega)).trans (HK3.out.block k hk), fun _ _ h => h⟩).reads)
       refine mixQ_end (NoPanic.normal ⟨rfl, p7, p8, xo, yo, xc, yc, ⟨HD00.out.trans (hB.1.mono HD00.out.size), hB.2.1, hB.2.2.1, HRX.out, HRY.out⟩, ?_⟩)
       with_reducible rfl
    case za1b =>
     refine hnd_go rfl (by kernel_rfl) fun KK hKK => ?_
     go_simp
     obtain ⟨v1, p7, hW, hp, ba, hh, hz⟩ := al_box v0
     rw [← hW, ← hp]
     have HP4 := hid hh
     have HL4 := hid hp
     have HS0 := hid hz
     have HD1 := hid (HD0.out.trans (ba.mono HD0.out.size))
     have HK4 := hid (Below.refl v1.heap.size v1)
     refine hKK _ _ (HCV.out _ HD1.out).1 ?_
     clear hKK KK ba hW hp hh hz
     refine mixQ_two ?za6a ?za6b
     case za6a =>
      refine hnd_go rfl (by kernel_rfl) fun KK hKK => ?_
      go_simp
      refine (ownx_any so sc na A sa fa v1 HNA.out (HCV.out _ HD1.out).2.1 (by omega) HLA.out).mono ?_
      rintro e v2 ⟨xo, xc, rfl, hT, ba⟩
      have HT1 := hid hT
      have HS1 := hid ba.size
      have HD2 := hid (HD1.out.trans (ba.mono HD1.out.size))
      have HK4 := hid (HK4.out.trans (ba.mono HK4.out.size))
      have HK1 := hid (Below.refl v2.heap.size v2)
      refine hKK _ _ (HCV.out _ HD2.out).1 ?_
      clear hKK KK ba hT
      refine mixQ_two ?za7a ?za7b
      case za7a =>
       refine hnd_go rfl (by kernel_rfl) fun KK hKK => ?_
       go_simp
       refine (ownx_any to tc nb B sb fb v2 HNB.out (HCV.out _ HD2.out).2.2 (by omega) HLB.out).mono ?_
       rintro e v3 ⟨yo, yc, rfl, hT, ba⟩
       have HT3 := hid hT
       have HS2 := hid ba.size
       have HD3 := hid (HD2.out.trans (ba.mono HD2.out.size))
       have HK4 := hid (HK4.out.trans (ba.mono HK4.out.size))
       have HK1 := hid (HK1.out.trans (ba.mono HK1.out.size))
       have HK3 := hid (Below.refl v3.heap.size v3)
       refine hKK _ _ (HCV.out _ HD3.out).1 ?_
       clear hKK KK ba hT
       refine mixQ_go rfl (by kernel_rfl) fun KK hKK => ?_
       go_simp
       obtain ⟨v4, p8, hW, hp, ba, hh, hz⟩ := al_box v3
       rw [← hW, ← hp]
       have HP5 := hid hh
       have HL5 := hid hp
       have HS3 := hid hz
       have HD4 := hid (HD3.out.trans (ba.mono HD3.out.size))
       have HK4 := hid (HK4.out.trans (ba.mono HK4.out.size))
       have HK1 := hid (HK1.out.trans (ba.mono HK1.out.size))
       have HK3 := hid (HK3.out.trans (ba.mono HK3.out.size))
       have HK5 := hid (Below.refl v4.heap.size v4)
       refine hKK _ _ (HCV.out _ HD4.out).1 ?_
       clear hKK KK ba hW hp hh hz
       have HF := hid (show p7 ≠ p8 ∧ v0.heap.size ≤ p7 ∧ v0.heap.size ≤ p8 from by
         have := And.intro HS0.out (And.intro HS1.out (And.intro HS2.out (And.intro HS3.out (And.intro HL4.out HL5.out))))
         omega)
       have HPX := hid ((HK4.out.block p7 (lt_of HP4.out)).trans HP4.out)
       have HQX := hid ((HK5.out.block p8 (lt_of HP5.out)).trans HP5.out)
       obtain ⟨x0, x1, x2, f0, f1, f2⟩ := box6 HPX.out
       refine mixQ_go rfl (by kernel_rfl) fun KK hKK => ?_
       go_simp
       obtain ⟨vA, hvA⟩ : ∃ W, W = ((v4.setCell ⟨p7, 0, none⟩ (.slice xo na xc)).setCell ⟨p7, 1, none⟩ (.int .i64 sa)).setCell ⟨p7, 2, none⟩ (.int .i64 fa) := ⟨_, rfl⟩
       rw [← hvA]
       have HVA := hid (show vA = st3 v4 p7 _ _ _ from hvA)
       have hA := stores1 HVA.out HD4.out HPX.out HQX.out HF.out.1 HF.out.2.1
       refine hKK _ _ (HCV.out _ hA.1).1 ?_
       clear hKK KK hvA x0 x1 x2 f0 f1 f2
       obtain ⟨x0, x1, x2, f0, f1, f2⟩ := box6 hA.2
       clear hA
       refine mixQ_go rfl (by kernel_rfl) fun KK hKK => ?_
       go_simp
       obtain ⟨vB, hvB⟩ : ∃ W, W = ((vA.setCell ⟨p8, 0, none⟩ (.slice yo nb yc)).setCell ⟨p8, 1, none⟩ (.int .i64 sb)).setCell ⟨p8, 2, none⟩ (.int .i64 fb) := ⟨_, rfl⟩
       rw [← hvB]
       have hB := stores2 HVA.out hvB HD4.out HPX.out HQX.out HF.out.1 HF.out.2.1 HF.out.2.2
       refine hKK _ _ (HCV.out _ hB.1).1 ?_
       clear hKK KK hvB x0 x1 x2 f0 f1 f2
       have z := And.intro HS0.out (And.intro HS1.out (And.intro HS2.out (And.intro HS3.out (And.intro HL4.out (And.intro HL5.out (And.intro hB.2.2.2.1 (And.intro HK1.out.size HK3.out.size)))))))
       have HRX := hid (show RdS vB xo A from (HT1.out.keep ⟨by omega, fun k hk hx => (hB.2.2.2.2 k (by have hx : ¬ k < v1.heap.size := hx; omega) (by have hx : ¬ k < v1.heap.size := hx; omega)).trans (HK1.out.block k hk), fun _ _ h => h⟩).reads)
       have HRY := hid (show RdS vB yo B from (HT3.out.keep ⟨by omega, fun k hk hx => (hB.2.2.2.2 k (by have hx : ¬ k < v2.heap.size := hx; omega) (by have hx : ¬ k < v2.heap.size := hx; omega)).trans (HK3.out.block k hk), fun _ _ h => h⟩).reads)
       refine mixQ_end (NoPanic.normal ⟨rfl, p7, p8, xo, yo, xc, yc, ⟨HD00.out.trans (hB.1.mono HD00.out.size), hB.2.1, hB.2.2.1, HRX.out, HRY.out⟩, ?_⟩)
       with_reducible rfl
      case za7b =>
       refine hnd_go rfl (by kernel_rfl) fun KK hKK => ?_
       go_simp
       obtain ⟨v3, p8, hW, hp, ba, hh, hz⟩ := al_box v2
       rw [← hW, ← hp]
       have HP5 := hid hh
       have HL5 := hid hp
       have HS2 := hid hz
       have HD3 := hid (HD2.out.trans (ba.mono HD2.out.size))
       have HK4 := hid (HK4.out.trans (ba.mono HK4.out.size))
       have HK1 := hid (HK1.out.trans (ba.mono HK1.out.size))
       have HK5 := hid (Below.refl v3.heap.size v3)
       refine hKK _ _ (HCV.out _ HD3.out).1 ?_
       clear hKK KK ba hW hp hh hz
       refine mixQ_go rfl (by kernel_rfl) fun KK hKK => ?_
       go_simp
       refine (ownx_any to tc nb B sb fb v3 HNB.out (HCV.out _ HD3.out).2.2 (by omega) HLB.out).mono ?_
       rintro e v4 ⟨yo, yc, rfl, hT, ba⟩
       have HT3 := hid hT
       have HS3 := hid ba.size
       have HD4 := hid (HD3.out.trans (ba.mono HD3.out.size))
       have HK4 := hid (HK4.out.trans (ba.mono HK4.out.size))
       have HK1 := hid (HK1.out.trans (ba.mono HK1.out.size))
       have HK5 := hid (HK5.out.trans (ba.mono HK5.out.size))
       have HK3 := hid (Below.refl v4.heap.size v4)
       refine hKK _ _ (HCV.out _ HD4.out).1 ?_
       clear hKK KK ba hT
       have HF := hid (show p7 ≠ p8 ∧ v0.heap.size ≤ p7 ∧ v0.heap.size ≤ p8 from by
         have := And.intro HS0.out (And.intro HS1.out (And.intro HS2.out (And.intro HS3.out (And.intro HL4.out HL5.out))))
         omega)
       have HPX := hid ((HK4.out.block p7 (lt_of HP4.out)).trans HP4.out)
       have HQX := hid ((HK5.out.block p8 (lt_of HP5.out)).trans HP5.out)
       obtain ⟨x0, x1, x2, f0, f1, f2⟩ := box6 HPX.out
       refine mixQ_go rfl (by kernel_rfl) fun KK hKK => ?_
       go_simp
       obtain ⟨vA, hvA⟩ : ∃ W, W = ((v4.setCell ⟨p7, 0, none⟩ (.slice xo na xc)).setCell ⟨p7, 1, none⟩ (.int .i64 sa)).setCell ⟨p7, 2, none⟩ (.int .i64 fa) := ⟨_, rfl⟩
       rw [← hvA]
       have HVA := hid (show vA = st3 v4 p7 _ _ _ from hvA)
       have hA := stores1 HVA.out HD4.out HPX.out HQX.out HF.out.1 HF.out.2.1
       refine hKK _ _ (HCV.out _ hA.1).1 ?_
       clear hKK KK hvA x0 x1 x2 f0 f1 f2
       obtain ⟨x0, x1, x2, f0, f1, f2⟩ := box6 hA.2
       clear hA
       refine mixQ_go rfl (by kernel_rfl) fun KK hKK => ?_
       go_simp
       obtain ⟨vB, hvB⟩ : ∃ W, W = ((vA.setCell ⟨p8, 0, none⟩ (.slice yo nb yc)).setCell ⟨p8, 1, none⟩ (.int .i64 sb)).setCell ⟨p8, 2, none⟩ (.int .i64 fb) := ⟨_, rfl⟩
       rw [← hvB]
       have hB := stores2 HVA.out hvB HD4.out HPX.out HQX.out HF.out.1 HF.out.2.1 HF.out.2.2
       refine hKK _ _ (HCV.out _ hB.1).1 ?_
       clear hKK KK hvB x0 x1 x2 f0 f1 f2
       have z := And.intro HS0.out (And.intro HS1.out (And.intro HS2.out (And.intro HS3.out (And.intro HL4.out (And.intro HL5.out (And.intro hB.2.2.2.1 (And.intro HK1.out.size HK3.out.size)))))))
       have HRX := hid (show RdS vB xo A from (HT1.out.keep ⟨by omega, fun k hk hx => (hB.2.2.2.2 k (by have hx : ¬ k < v1.heap.size := hx; omega) (by have hx : ¬ k < v1.heap.size := hx; omega)).trans (HK1.out.block k hk), fun _ _ h => h⟩).reads)
       have HRY := hid (show RdS vB yo B from (HT3.out.keep ⟨by omega, fun k hk hx => (hB.2.2.2.2 k (by have hx : ¬ k < v3.heap.size := hx; omega) (by have hx : ¬ k < v3.heap.size := hx; omega)).trans (HK3.out.block k hk), fun _ _ h => h⟩).reads)
       refine mixQ_end (NoPanic.normal ⟨rfl, p7, p8, xo, yo, xc, yc, ⟨HD00.out.trans (hB.1.mono HD00.out.size), hB.2.1, hB.2.2.1, HRX.out, HRY.out⟩, ?_⟩)
       with_reducible rfl
     case za6b =>
      refine hnd_go rfl (by kernel_rfl) fun KK hKK => ?_
      go_simp
      obtain ⟨v2, p8, hW, hp, ba, hh, hz⟩ := al_box v1
      rw [← hW, ← hp]
      have HP5 := hid hh
      have HL5 := hid hp
      have HS1 := hid hz
      have HD2 := hid (HD1.out.trans (ba.mono HD1.out.size))
      have HK4 := hid (HK4.out.trans (ba.mono HK4.out.size))
      have HK5 := hid (Below.refl v2.heap.size v2)
      refine hKK _ _ (HCV.out _ HD2.out).1 ?_
      clear hKK KK ba hW hp hh hz
      refine mixQ_go rfl (by kernel_rfl) fun KK hKK => ?_
      go_simp
      refine (ownx_any so sc na A sa fa v2 HNA.out (HCV.out _ HD2.out).2.1 (by omega) HLA.out).mono ?_
      rintro e v3 ⟨xo, xc, rfl, hT, ba⟩
      have HT1 := hid hT
      have HS2 := hid ba.size
      have HD3 := hid (HD2.out.trans (ba.mono HD2.out.size))
      have HK4 := hid (HK4.out.trans (ba.mono HK4.out.size))
      have HK5 := hid (HK5.out.trans (ba.mono HK5.out.size))
      have HK1 := hid (Below.refl v3.heap.size v3)
      refine hKK _ _ (HCV.out _ HD3.out).1 ?_
      clear hKK KK ba hT
      refine mixQ_go rfl (by kernel_rfl) fun KK hKK => ?_
      go_simp
      refine (ownx_any to tc nb B sb fb v3 HNB.out (HCV.out _ HD3.out).2.2 (by omega) HLB.out).mono ?_
      rintro e v4 ⟨yo, yc, rfl, hT, ba⟩
      have HT3 := hid hT
      have HS3 := hid ba.size
      have HD4 := hid (HD3.out.trans (ba.mono HD3.out.size))
      have HK4 := hid (HK4.out.trans (ba.mono HK4.out.size))
      have HK5 := hid (HK5.out.trans (ba.mono HK5.out.size))
      have HK1 := hid (HK1.out.trans (ba.mono HK1.out.size))
      have HK3 := hid (Below.refl v4.heap.size v4)
      refine hKK _ _ (HCV.out _ HD4.out).1 ?_
      clear hKK KK ba hT
      have HF := hid (show p7 ≠ p8 ∧ v0.heap.size ≤ p7 ∧ v0.heap.size ≤ p8 from by
        have := And.intro HS0.out (And.intro HS1.out (And.intro HS2.out (And.intro HS3.out (And.intro HL4.out HL5.out))))
        omega)
      have HPX := hid ((HK4.out.block p7 (lt_of HP4.out)).trans HP4.out)
      have HQX := hid ((HK5.out.block p8 (lt_of HP5.out)).trans HP5.out)
      obtain ⟨x0, x1, x2, f0, f1, f2⟩ := box6 HPX.out
      refine mixQ_go rfl (by kernel_rfl) fun KK hKK => ?_
      go_simp
      obtain ⟨vA, hvA⟩ : ∃ W, W = ((v4.setCell ⟨p7, 0, none⟩ (.slice xo na xc)).setCell ⟨p7, 1, none⟩ (.int .i64 sa)).setCell ⟨p7, 2, none⟩ (.int .i64 fa) := ⟨_, rfl⟩
      rw [← hvA]
      have HVA := hid (show vA = st3 v4 p7 _ _ _ from hvA)
      have hA := stores1 HVA.out HD4.out HPX.out HQX.out HF.out.1 HF.out.2.1
      refine hKK _ _ (HCV.out _ hA.1).1 ?_
      clear hKK KK hvA x0 x1 x2 f0 f1 f2
      obtain ⟨x0, x1, x2, f0, f1, f2⟩ := box6 hA.2
      clear hA
      refine mixQ_go rfl (by kernel_rfl) fun KK hKK => ?_
      go_simp
      obtain ⟨vB, hvB⟩ : ∃ W, W = ((vA.setCell ⟨p8, 0, none⟩ (.slice yo nb yc)).setCell ⟨p8, 1, none⟩ (.int .i64 sb)).setCell ⟨p8, 2, none⟩ (.int .i64 fb) := ⟨_, rfl⟩
      rw [← hvB]
      have hB := stores2 HVA.out hvB HD4.out HPX.out HQX.out HF.out.1 HF.out.2.1 HF.out.2.2
      refine hKK _ _ (HCV.out _ hB.1).1 ?_
      clear hKK KK hvB x0 x1 x2 f0 f1 f2
      have z := And.intro HS0.out (And.intro HS1.out (And.intro HS2.out (And.intro HS3.out (And.intro HL4.out (And.intro HL5.out (And.intro hB.2.2.2.1 (And.intro HK1.out.size HK3.out.size)))))))
      have HRX := hid (show RdS vB xo A from (HT1.out.keep ⟨by omega, fun k hk hx => (hB.2.2.2.2 k (by have hx : ¬ k < v2.heap.size := hx; omega) (by have hx : ¬ k < v2.heap.size := hx; omega)).trans (HK1.out.block k hk), fun _ _ h => h⟩).reads)
      have HRY := hid (show RdS vB yo B from (HT3.out.keep ⟨by omega, fun k hk hx => (hB.2.2.2.2 k (by have hx : ¬ k < v3.heap.size := hx; omega) (by have hx : ¬ k < v3.heap.size := hx; omega)).trans (HK3.out.block k hk), fun _ _ h => h⟩).reads)
      refine mixQ_end (NoPanic.normal ⟨rfl, p7, p8, xo, yo, xc, yc, ⟨HD00.out.trans (hB.1.mono HD00.out.size), hB.2.1, hB.2.2.1, HRX.out, HRY.out⟩, ?_⟩)
      with_reducible rfl
    case za1c =>
     refine hnd_go rfl (by kernel_rfl) fun KK hKK => ?_
     go_simp
     obtain ⟨v1, p8, hW, hp, ba, hh, hz⟩ := al_box v0
     rw [← hW, ← hp]
     have HP5 := hid hh
     have HL5 := hid hp
     have HS0 := hid hz
     have HD1 := hid (HD0.out.trans (ba.mono HD0.out.size))
     have HK5 := hid (Below.refl v1.heap.size v1)
     refine hKK _ _ (HCV.out _ HD1.out).1 ?_
     clear hKK KK ba hW hp hh hz
     refine mixQ_two ?za8a ?za8b
     case za8a =>
      refine hnd_go rfl (by kernel_rfl) fun KK hKK => ?_
      go_simp
      refine (ownx_any so sc na A sa fa v1 HNA.out (HCV.out _ HD1.out).2.1 (by omega) HLA.out).mono ?_
      rintro e v2 ⟨xo, xc, rfl, hT, ba⟩
      have HT1 := hid hT
      have HS1 := hid ba.size
      have HD2 := hid (HD1.out.trans (ba.mono HD1.out.size))
      have HK5 := hid (HK5.out.trans (ba.mono HK5.out.size))
      have HK1 := hid (Below.refl v2.heap.size v2)
      refine hKK _ _ (HCV.out _ HD2.out).1 ?_
      clear hKK KK ba hT
      refine mixQ_two ?za9a ?za9b
      case za9a =>
       refine hnd_go rfl (by kernel_rfl) fun KK hKK => ?_
       go_simp
       refine (ownx_any to tc nb B sb fb v2 HNB.out (HCV.out _ HD2.out).2.2 (by omega) HLB.out).mono ?_
       rintro e v3 ⟨yo, yc, rfl, hT, ba⟩
       have HT3 := hid hT
       have HS2 := hid ba.size
       have HD3 := hid (HD2.out.trans (ba.mono HD2.out.size))
       have HK5 := hid (HK5.out.trans (ba.mono HK5.out.size))
       have HK1 := hid (HK1.out.trans (ba.mono HK1.out.size))
       have HK3 := hid (Below.refl v3.heap.size v3)
       refine hKK _ _ (HCV.out _ HD3.out).1 ?_
       clear hKK KK ba hT
       refine mixQ_go rfl (by kernel_rfl) fun KK hKK => ?_
       go_simp
       obtain ⟨v4, p7, hW, hp, ba, hh, hz⟩ := al_box v3
       rw [← hW, ← hp]
       have HP4 := hid hh
       have HL4 := hid hp
       have HS3 := hid hz
       have HD4 := hid (HD3.out.trans (ba.mono HD3.out.size))
       have HK5 := hid (HK5.out.trans (ba.mono HK5.out.size))
       have HK1 := hid (HK1.out.trans (ba.mono HK1.out.size))
       have HK3 := hid (HK3.out.trans (ba.mono HK3.out.size))
       have HK4 := hid (Below.refl v4.heap.size v4)
       refine hKK _ _ (HCV.out _ HD4.out).1 ?_
       clear hKK KK ba hW hp hh hz
       have HF := hid (show p7 ≠ p8 ∧ v0.heap.size ≤ p7 ∧ v0.heap.size ≤ p8 from by
         have := And.intro HS0.out (And.intro HS1.out (And.intro HS2.out (And.intro HS3.out (And.intro HL4.out HL5.out))))
         omega)
       have HPX := hid ((HK4.out.block p7 (lt_of HP4.out)).trans HP4.out)
       have HQX := hid ((HK5.out.block p8 (lt_of HP5.out)).trans HP5.out)
       obtain ⟨x0, x1, x2, f0, f1, f2⟩ := box6 HPX.out
       refine mixQ_go rfl (by kernel_rfl) fun KK hKK => ?_
       go_simp
       obtain ⟨vA, hvA⟩ : ∃ W, W = ((v4.setCell ⟨p7, 0, none⟩ (.slice xo na xc)).setCell ⟨p7, 1, none⟩ (.int .i64 sa)).setCell ⟨p7, 2, none⟩ (.int .i64 fa) := ⟨_, rfl⟩
       rw [← hvA]
       have HVA := hid (show vA = st3 v4 p7 _ _ _ from hvA)
       have hA := stores1 HVA.out HD4.out HPX.out HQX.out HF.out.1 HF.out.2.1
       refine hKK _ _ (HCV.out _ hA.1).1 ?_
       clear hKK KK hvA x0 x1 x2 f0 f1 f2
       obtain ⟨x0, x1, x2, f0, f1, f2⟩ := box6 hA.2
       clear hA
       refine mixQ_go rfl (by kernel_rfl) fun KK hKK => ?_
       go_simp
       obtain ⟨vB, hvB⟩ : ∃ W, W = ((vA.setCell ⟨p8, 0, none⟩ (.slice yo nb yc)).setCell ⟨p8, 1, none⟩ (.int .i64 sb)).setCell ⟨p8, 2, none⟩ (.int .i64 fb) := ⟨_, rfl⟩
       rw [← hvB]
       have hB := stores2 HVA.out hvB HD4.out HPX.out HQX.out HF.out.1 HF.out.2.1 HF.out.2.2
       refine hKK _ _ (HCV.out _ hB.1).1 ?_
       clear hKK KK hvB x0 x1 x2 f0 f1 f2
       have z := And.intro HS0.out (And.intro HS1.out (And.intro HS2.out (And.intro HS3.out (And.intro HL4.out (And.intro HL5.out (And.intro hB.2.2.2.1 (And.intro HK1.out.size HK3.out.size)))))))
       have HRX := hid (show RdS vB xo A from (HT1.out.keep ⟨by omega, fun k hk hx => (hB.2.2.2.2 k (by have hx : ¬ k < v1.heap.size := hx; omega) (by have hx : ¬ k < v1.heap.size := hx; omega)).trans (HK1.out.block k hk), fun _ _ h => h⟩).reads)
       have HRY := hid (show RdS vB yo B from (HT3.out.keep ⟨by omega, fun k hk hx => (hB.2.2.2.2 k (by have hx : ¬ k < v2.heap.size := hx; omega) (by have hx : ¬ k < v2.heap.size := hx; omega)).trans (HK3.out.block k hk), fun _ _ h => h⟩).reads)
       refine mixQ_end (NoPanic.normal ⟨rfl, p7, p8, xo, yo, xc, yc, ⟨HD00.out.trans (hB.1.mono HD00.out.size), hB.2.1, hB.2.2.1, HRX.out, HRY.out⟩, ?_⟩)
       with_reducible rfl
      case za9b =>
       refine hnd_go rfl (by kernel_rfl) fun KK hKK => ?_
       go_simp
       obtain ⟨v3, p7, hW, hp, ba, hh, hz⟩ := al_box v2
       rw [← hW, ← hp]
       have HP4 := hid hh
       have HL4 := hid hp
       have HS2 := hid hz
       have HD3 := hid (HD2.out.trans (ba.mono HD2.out.size))
       have HK5 := hid (HK5.out.trans (ba.mono HK5.out.size))
       have HK1 := hid (HK1.out.trans (ba.mono HK1.out.size))
       have HK4 := hid (Below.refl v3.heap.size v3)
       refine hKK _ _ (HCV.out _ HD3.out).1 ?_
       clear hKK KK ba hW hp hh hz
       refine mixQ_go rfl (by kernel_rfl) fun KK hKK => ?_
       go_simp
       refine (ownx_any to tc nb B sb fb v3 HNB.out (HCV.out _ HD3.out).2.2 (by omega) HLB.out).mono ?_
       rintro e v4 ⟨yo, yc, rfl, hT, ba⟩
       have HT3 := hid hT
       have HS3 := hid ba.size
       have HD4 := hid (HD3.out.trans (ba.mono HD3.out.size))
       have HK5 := hid (HK5.out.trans (ba.mono HK5.out.size))
       have HK1 := hid (HK1.out.trans (ba.mono HK1.out.size))
       have HK4 := hid (HK4.out.trans (ba.mono HK4.out.size))
       have HK3 := hid (Below.refl v4.heap.size v4)
       refine hKK _ _ (HCV.out _ HD4.out).1 ?_
       clear hKK KK ba hT
       have HF := hid (show p7 ≠ p8 ∧ v0.heap.size ≤ p7 ∧ v0.heap.size ≤ p8 from by
         have := And.intro HS0.out (And.intro HS1.out (And.intro HS2.out (And.intro HS3.out (And.intro HL4.out HL5.out))))
         omega)
       have HPX := hid ((HK4.out.block p7 (lt_of HP4.out)).trans HP4.out)
       have HQX := hid ((HK5.out.block p8 (lt_of HP5.out)).trans HP5.out)
       obtain ⟨x0, x1, x2, f0, f1, f2⟩ := box6 HPX.out
       refine mixQ_go rfl (by kernel_rfl) fun KK hKK => ?_
       go_simp
       obtain ⟨vA, hvA⟩ : ∃ W, W = ((v4.setCell ⟨p7, 0, none⟩ (.slice xo na xc)).setCell ⟨p7, 1, none⟩ (.int .i64 sa)).setCell ⟨p7, 2, none⟩ (.int .i64 fa) := ⟨_, rfl⟩
       rw [← hvA]
       have HVA := hid (show vA = st3 v4 p7 _ _ _ from hvA)
       have hA := stores1 HVA.out HD4.out HPX.out HQX.out HF.out.1 HF.out.2.1
       refine hKK _ _ (HCV.out _ hA.1).1 ?_
       clear hKK KK hvA x0 x1 x2 f0 f1 f2
       obtain ⟨x0, x1, x2, f0, f1, f2⟩ := box6 hA.2
       clear hA
       refine mixQ_go rfl (by kernel_rfl) fun KK hKK => ?_
       go_simp
       obtain ⟨vB, hvB⟩ : ∃ W, W = ((vA.setCell ⟨p8, 0, none⟩ (.slice yo nb yc)).setCell ⟨p8, 1, none⟩ (.int .i64 sb)).setCell ⟨p8, 2, none⟩ (.int .i64 fb) := ⟨_, rfl⟩
       rw [← hvB]
       have hB := stores2 HVA.out hvB HD4.out HPX.out HQX.out HF.out.1 HF.out.2.1 HF.out.2.2
       refine hKK _ _ (HCV.out _ hB.1).1 ?_
       clear hKK KK hvB x0 x1 x2 f0 f1 f2
       have z := And.intro HS0.out (And.intro HS1.out (And.intro HS2.out (And.intro HS3.out (And.intro HL4.out (And.intro HL5.out (And.intro hB.2.2.2.1 (And.intro HK1.out.size HK3.out.size)))))))
       have HRX := hid (show RdS vB xo A from (HT1.out.keep ⟨by omega, fun k hk hx => (hB.2.2.2.2 k (by have hx : ¬ k < v1.heap.size := hx; omega) (by have hx : ¬ k < v1.heap.size := hx; omega)).trans (HK1.out.block k hk), fun _ _ h => h⟩).reads)
       have HRY := hid (show RdS vB yo B from (HT3.out.keep ⟨by omega, fun k hk hx => (hB.2.2.2.2 k (by have hx : ¬ k < v3.heap.size := hx; omega) (by have hx : ¬ k < v3.heap.size := hx; omega)).trans (HK3.out.block k hk), fun _ _ h => h⟩).reads)
       refine mixQ_end (NoPanic.normal ⟨rfl, p7, p8, xo, yo, xc, yc, ⟨HD00.out.trans (hB.1.mono HD00.out.size), hB.2.1, hB.2.2.1, HRX.out, HRY.out⟩, ?_⟩)
       with_reducible rfl
     case za8b =>
      refine hnd_go rfl (by kernel_rfl) fun KK hKK => ?_
      go_simp
      obtain ⟨v2, p7, hW, hp, ba, hh, hz⟩ := al_box v1
      rw [← hW, ← hp]
      have HP4 := hid hh
      have HL4 := hid hp
      have HS1 := hid hz
      have HD2 := hid (HD1.out.trans (ba.mono HD1.out.size))
      have HK5 := hid (HK5.out.trans (ba.mono HK5.out.size))
      have HK4 := hid (Below.refl v2.heap.size v2)
      refine hKK _ _ (HCV.out _ HD2.out).1 ?_
      clear hKK KK ba hW hp hh hz
      refine mixQ_go rfl (by kernel_rfl) fun KK hKK => ?_
      go_simp
      refine (ownx_any so sc na A sa fa v2 HNA.out (HCV.out _ HD2.out).2.1 (by omega) HLA.out).mono ?_
      rintro e v3 ⟨xo, xc, rfl, hT, ba⟩
      have HT1 := hid hT
      have HS2 := hid ba.size
      have HD3 := hid (HD2.out.trans (ba.mono HD2.out.size))
      have HK5 := hid (HK5.out.trans (ba.mono HK5.out.size))
      have HK4 := hid (HK4.out.trans (ba.mono HK4.out.size))
      have HK1 := hid (Below.refl v3.heap.size v3)
      refine hKK _ _ (HCV.out _ HD3.out).1 ?_
      clear hKK KK ba hT
      refine mixQ_go rfl (by kernel_rfl) fun KK hKK => ?_
      go_simp
      refine (ownx_any to tc nb B sb fb v3 HNB.out (HCV.out _ HD3.out).2.2 (by omega) HLB.out).mono ?_
      rintro e v4 ⟨yo, yc, rfl, hT, ba⟩
      have HT3 := hid hT
      have HS3 := hid ba.size
      have HD4 := hid (HD3.out.trans (ba.mono HD3.out.size))
      have HK5 := hid (HK5.out.trans (ba.mono HK5.out.size))
      have HK4 := hid (HK4.out.trans (ba.mono HK4.out.size))
      have HK1 := hid (HK1.out.trans (ba.mono HK1.out.size))
      have HK3 := hid (Below.refl v4.heap.size v4)
      refine hKK _ _ (HCV.out _ HD4.out).1 ?_
      clear hKK KK ba hT
      have HF := hid (show p7 ≠ p8 ∧ v0.heap.size ≤ p7 ∧ v0.heap.size ≤ p8 from by
        have := And.intro HS0.out (And.intro HS1.out (And.intro HS2.out (And.intro HS3.out (And.intro HL4.out HL5.out))))
        omega)
      have HPX := hid ((HK4.out.block p7 (lt_of HP4.out)).trans HP4.out)
      have HQX := hid ((HK5.out.block p8 (lt_of HP5.out)).trans HP5.out)
      obtain ⟨x0, x1, x2, f0, f1, f2⟩ := box6 HPX.out
      refine mixQ_go rfl (by kernel_rfl) fun KK hKK => ?_
      go_simp
      obtain ⟨vA, hvA⟩ : ∃ W, W = ((v4.setCell ⟨p7, 0, none⟩ (.slice xo na xc)).setCell ⟨p7, 1, none⟩ (.int .i64 sa)).setCell ⟨p7, 2, none⟩ (.int .i64 fa) := ⟨_, rfl⟩
      rw [← hvA]
      have HVA := hid (show vA = st3 v4 p7 _ _ _ from hvA)
      have hA := stores1 HVA.out HD4.out HPX.out HQX.out HF.out.1 HF.out.2.1
      refine hKK _ _ (HCV.out _ hA.1).1 ?_
      clear hKK KK hvA x0 x1 x2 f0 f1 f2
      obtain ⟨x0, x1, x2, f0, f1, f2⟩ := box6 hA.2
      clear hA
      refine mixQ_go rfl (by kernel_rfl) fun KK hKK => ?_
      go_simp
      obtain ⟨vB, hvB⟩ : ∃ W, W = ((vA.setCell ⟨p8, 0, none⟩ (.slice yo nb yc)).setCell ⟨p8, 1, none⟩ (.int .i64 sb)).setCell ⟨p8, 2, none⟩ (.int .i64 fb) := ⟨_, rfl⟩
      rw [← hvB]
      have hB := stores2 HVA.out hvB HD4.out HPX.out HQX.out HF.out.1 HF.out.2.1 HF.out.2.2
      refine hKK _ _ (HCV.out _ hB.1).1 ?_
      clear hKK KK hvB x0 x1 x2 f0 f1 f2
      have z := And.intro HS0.out (And.intro HS1.out (And.intro HS2.out (And.intro HS3.out (And.intro HL4.out (And.intro HL5.out (And.intro hB.2.2.2.1 (And.intro HK1.out.size HK3.out.size)))))))
      have HRX := hid (show RdS vB xo A from (HT1.out.keep ⟨by omega, fun k hk hx => (hB.2.2.2.2 k (by have hx : ¬ k < v2.heap.size := hx; omega) (by have hx : ¬ k < v2.heap.size := hx; omega)).trans (HK1.out.block k hk), fun _ _ h => h⟩).reads)
      have HRY := hid (show RdS vB yo B from (HT3.out.keep ⟨by omega, fun k hk hx => (hB.2.2.2.2 k (by have hx : ¬ k < v3.heap.size := hx; omega) (by have hx : ¬ k < v3.heap.size := hx; omega)).trans (HK3.out.block k hk), fun _ _ h => h⟩).reads)
      refine mixQ_end (NoPanic.normal ⟨rfl, p7, p8, xo, yo, xc, yc, ⟨HD00.out.trans (hB.1.mono HD00.out.size), hB.2.1, hB.2.2.1, HRX.out, HRY.out⟩, ?_⟩)
      with_reducible rfl
  case m2 =>
    rintro a' w4 ⟨p7, p8, xo, yo, xc, yc, hcp, rfl⟩
    have HCP := hid hcp
    have HB4 := hid (show Below w1.heap.size w1 w4 from HB3.out.trans (hcp.below.mono HB3.out.size))
    have HCX := hid (show ∀ W, Below w4.heap.size w4 W → (W.cell? ⟨w.heap.size, 0, none⟩ = some (.slice so na sc) ∧ W.cell? ⟨w.heap.size, 1, none⟩ = some (.int .i64 sa) ∧ W.cell? ⟨w.heap.size, 2, none⟩ = some (.int .i64 fa)) ∧ (W.cell? ⟨w.heap.size + 1, 0, none⟩ = some (.slice to nb tc) ∧ W.cell? ⟨w.heap.size + 1, 1, none⟩ = some (.int .i64 sb) ∧ W.cell? ⟨w.heap.size + 1, 2, none⟩ = some (.int .i64 fb)) ∧ (W.cell? ⟨p7, 0, none⟩ = some (.slice xo na xc) ∧ W.cell? ⟨p7, 1, none⟩ = some (.int .i64 sa) ∧ W.cell? ⟨p7, 2, none⟩ = some (.int .i64 fa)) ∧ (W.cell? ⟨p8, 0, none⟩ = some (.slice yo nb yc) ∧ W.cell? ⟨p8, 1, none⟩ = some (.int .i64 sb) ∧ W.cell? ⟨p8, 2, none⟩ = some (.int .i64 fb)) from fun W h => by
      obtain ⟨h1, h2⟩ := HCW.out _ (HB4.out.trans (h.mono HB4.out.size))
      obtain ⟨x0, x1, x2⟩ := box_3 HCP.out.px
      obtain ⟨y0, y1, y2⟩ := box_3 HCP.out.py
      exact ⟨h1, h2, ⟨cell_bl h x0, cell_bl h x1, cell_bl h x2⟩, cell_bl h y0, cell_bl h y1, cell_bl h y2⟩)
    have HXW := hid (show ∀ W, Below w4.heap.size w4 W → RdS W xo A from fun W h => HCP.out.rx.below h)
    have HYW := hid (show ∀ W, Below w4.heap.size w4 W → RdS W yo B from fun W h => HCP.out.ry.below h)
    have HW14 := hid (show ∀ W, Below w4.heap.size w4 W → Below w1.heap.size w1 W from fun W h => HB4.out.trans (h.mono HB4.out.size))
    clear hcp HB3
    go_wp2_with fail
    refine wp_mid (fun a' W => ∃ (p9 p10 m m' : Nat) (uo vo : Option Addr) (uc vc : Nat) (x y x' y' : Int), Jn2 w4 W p9 p10 m m' uo vo uc vc x y x' y' (gdB A sa fa && gdB B sb fb) (orl A sa fa B sb fb) (thn A fa B sb) 0 (1 + A.length + B.length) sa (fb + A.length) ∧ a' = (?G : Nat → Nat → Nat → Nat → Option Addr → Option Addr → Nat → Nat → Int → Int → Int → Int → Act) p9 p10 m m' uo vo uc vc x y x' y') ?m3 ?m4
    case m3 =>
      obtain ⟨v0, hv0⟩ : ∃ v, v = w4.drew := ⟨_, rfl⟩
      have HD00 := hid (show Below w4.heap.size w4 v0 by rw [hv0]; exact (Below.refl _ _).drew)
      have HV0 := hid (show Below w4.heap.size w4 v0 from HD00.out)
      have HD0 := hid (Below.refl v0.heap.size v0)
      have HCV := hid (show ∀ W, Below v0.heap.size v0 W → ((W.cell? ⟨w.heap.size, 0, none⟩ = some (.slice so na sc) ∧ W.cell? ⟨w.heap.size, 1, none⟩ = some (.int .i64 sa) ∧ W.cell? ⟨w.heap.size, 2, none⟩ = some (.int .i64 fa)) ∧ (W.cell? ⟨w.heap.size + 1, 0, none⟩ = some (.slice to nb tc) ∧ W.cell? ⟨w.heap.size + 1, 1, none⟩ = some (.int .i64 sb) ∧ W.cell? ⟨w.heap.size + 1, 2, none⟩ = some (.int .i64 fb)) ∧ (W.cell? ⟨p7, 0, none⟩ = some (.slice xo na xc) ∧ W.cell? ⟨p7, 1, none⟩ = some (.int .i64 sa) ∧ W.cell? ⟨p7, 2, none⟩ = some (.int .i64 fa)) ∧ (W.cell? ⟨p8, 0, none⟩ = some (.slice yo nb yc) ∧ W.cell? ⟨p8, 1, none⟩ = some (.int .i64 sb) ∧ W.cell? ⟨p8, 2, none⟩ = some (.int .i64 fb))) ∧ RdS W xo A ∧ RdS W yo B from fun W h => by
        have h' := HV0.out.trans (h.mono HV0.out.size)
        exact ⟨HCX.out _ h', HXW.out _ h', HYW.out _ h'⟩)
      refine wp_region_mixQ (.rd 0 (.rd 1 (.rd 3 (.rd 4 (.three 2 6 7 (.three 5 6 7 (.two 6 7 (.go 7 (.go 8 (.go 9 .nil))) (.go 6 (.go 8 (.go 9 .nil)))) (.two 5 7 (.go 7 (.go 8 (.go 9 .nil))) (.go 5 (.go 8 (.go 9 .nil)))) (.two 5 6 (.go 6 (.go 8 (.go 9 .nil))) (.go 5 (.go 8 (.go 9 .nil))))) (.two 2 7 (.two 5 7 (.go 7 (.go 8 (.go 9 .nil))) (.go 5 (.go 8 (.go 9 .nil)))) (.go 2 (.go 5 (.go 8 (.go 9 .nil))))) (.two 2 6 (.two 5 6 (.go 6 (.go 8 (.go 9 .nil))) (.go 5 (.go 8 (.go 9 .nil)))) (.go 2 (.go 5 (.go 8 (.go 9 .nil)))))))))) (fun w' => (w'.cell? ⟨w.heap.size, 0, none⟩ = some (.slice so na sc) ∧ w'.cell? ⟨w.heap.size, 1, none⟩ = some (.int .i64 sa) ∧ w'.cell? ⟨w.heap.size, 2, none⟩ = some (.int .i64 fa)) ∧ (w'.cell? ⟨w.heap.size + 1, 0, none⟩ = some (.slice to nb tc) ∧ w'.cell? ⟨w.heap.size + 1, 1, none⟩ = some (.int .i64 sb) ∧ w'.cell? ⟨w.heap.size + 1, 2, none⟩ = some (.int .i64 fb)) ∧ (w'.cell? ⟨p7, 0, none⟩ = some (.slice xo na xc) ∧ w'.cell? ⟨p7, 1, none⟩ = some (.int .i64 sa) ∧ w'.cell? ⟨p7, 2, none⟩ = some (.int .i64 fa)) ∧ (w'.cell? ⟨p8, 0, none⟩ = some (.slice yo nb yc) ∧ w'.cell? ⟨p8, 1, none⟩ = some (.int .i64 sb) ∧ w'.cell? ⟨p8, 2, none⟩ = some (.int .i64 fb))) (by kernel_rfl) (by kernel_rfl) rfl (by kernel_rfl) (by rw [← hv0]; exact HCX.out _ HV0.out) ?_
      rw [← hv0]
      clear hv0
      iterate 4 (refine mixQ_rd ?_ rfl (by kernel_rfl) (fun w' hS => ?_) ?_; (rotate_left; (obtain ⟨⟨s1, s2, s3⟩, ⟨s4, s5, s6⟩, ⟨s7, s8, s9⟩, s10, s11, s12⟩ := hS; go_simp; with_reducible rfl); rotate_left))
      refine mixQ_three ?zb1a ?zb1b ?zb1c
      case zb1a =>
       refine hnd_go rfl (by kernel_rfl) fun KK hKK => ?_
       go_simp
       refine (or_any xo yo xc yc na nb A B sa fa sb fb v0 HNA.out HNB.out (HCV.out _ HD0.out).2.1 (HCV.out _ HD0.out).2.2 (by omega) (by omega) (by have := HEA.out; omega) (by have := HEA.out; omega) (by have := HEB.out; omega) (by have := HEB.out; omega)).mono ?_
       rintro e v1 ⟨B2, uo, m, uc, M2, R2, x, y, rfl, hJ, hl, hu, hT, ba⟩
       have HT2 := hid hT
       have HJ2 := hid hJ
       have HQ2 := hid (And.intro hl hu)
       clear hJ hl hu
       have HS0 := hid ba.size
       have HD1 := hid (HD0.out.trans (ba.mono HD0.out.size))
       have HK2 := hid (Below.refl v1.heap.size v1)
       refine hKK _ _ (HCV.out _ HD1.out).1 ?_
       clear hKK KK ba hT
       refine mixQ_three ?zb2a ?zb2b ?zb2c
       case zb2a =>
        refine hnd_go rfl (by kernel_rfl) fun KK hKK => ?_
        go_simp
        refine (then_any xo yo xc yc na nb A B sa fa sb fb v1 HNA.out HNB.out (HCV.out _ HD1.out).2.1 (HCV.out _ HD1.out).2.2 (by omega) (by omega) (by have := HEA.out; omega) (by have := HEA.out; omega) (by have := HEB.out; omega) (by have := HEB.out; omega)).mono ?_
        rintro e v2 ⟨B5, vo, m', vc, M5, R5, x', y', rfl, hJ, hl, hu, hT, ba⟩
        have HT5 := hid hT
        have HJ5 := hid hJ
        have HQ5 := hid (And.intro hl hu)
        clear hJ hl hu
        have HS1 := hid ba.size
        have HD2 := hid (HD1.out.trans (ba.mono HD1.out.size))
        have HK2 := hid (HK2.out.trans (ba.mono HK2.out.size))
        have HK5 := hid (Below.refl v2.heap.size v2)
        refine hKK _ _ (HCV.out _ HD2.out).1 ?_
        clear hKK KK ba hT
        refine mixQ_two ?zb3a ?zb3b
        case zb3a =>
         refine hnd_go rfl (by kernel_rfl) fun KK hKK => ?_
         go_simp
         obtain ⟨v3, p9, hW, hp, ba, hh, hz⟩ := al_box v2
         rw [← hW, ← hp]
         have HP6 := hid hh
         have HL6 := hid hp
         have HS2 := hid hz
         have HD3 := hid (HD2.out.trans (ba.mono HD2.out.size))
         have HK2 := hid (HK2.out.trans (ba.mono HK2.out.size))
         have HK5 := hid (HK5.out.trans (ba.mono HK5.out.size))
         have HK6 := hid (Below.refl v3.heap.size v3)
         refine hKK _ _ (HCV.out _ HD3.out).1 ?_
         clear hKK KK ba hW hp hh hz
         refine mixQ_go rfl (by kernel_rfl) fun KK hKK => ?_
         go_simp
         obtain ⟨v4, p10, hW, hp, ba, hh, hz⟩ := al_box v3
         rw [← hW, ← hp]
         have HP7 := hid hh
         have HL7 := hid hp
         have HS3 := hid hz
         have HD4 := hid (HD3.out.trans (ba.mono HD3.out.size))
         have HK2 := hid (HK2.out.trans (ba.mono HK2.out.size))
         have HK5 := hid (HK5.out.trans (ba.mono HK5.out.size))
         have HK6 := hid (HK6.out.trans (ba.mono HK6.out.size))
         have HK7 := hid (Below.refl v4.heap.size v4)
         refine hKK _ _ (HCV.out _ HD4.out).1 ?_
         clear hKK KK ba hW hp hh hz
         have HF := hid (show p9 ≠ p10 ∧ v0.heap.size ≤ p9 ∧ v0.heap.size ≤ p10 from by
           have := And.intro HS0.out (And.intro HS1.out (And.intro HS2.out (And.intro HS3.out (And.intro HL6.out HL7.out))))
           omega)
         have HPX := hid ((HK6.out.block p9 (lt_of HP6.out)).trans HP6.out)
         have HQX := hid ((HK7.out.block p10 (lt_of HP7.out)).trans HP7.out)
         obtain ⟨x0, x1, x2, f0, f1, f2⟩ := box6 HPX.out
         refine mixQ_go rfl (by kernel_rfl) fun KK hKK => ?_
         go_simp
         obtain ⟨vA, hvA⟩ : ∃ W, W = ((v4.setCell ⟨p9, 0, none⟩ (.slice uo m uc)).setCell ⟨p9, 1, none⟩ (.int .i64 x)).setCell ⟨p9, 2, none⟩ (.int .i64 y) := ⟨_, rfl⟩
         rw [← hvA]
         have HVA := hid (show vA = st3 v4 p9 _ _ _ from hvA)
         have hA := stores1 HVA.out HD4.out HPX.out HQX.out HF.out.1 HF.out.2.1
         refine hKK _ _ (HCV.out _ hA.1).1 ?_
         clear hKK KK hvA x0 x1 x2 f0 f1 f2
         obtain ⟨x0, x1, x2, f0, f1, f2⟩ := box6 hA.2
         clear hA
         refine mixQ_go rfl (by kernel_rfl) fun KK hKK => ?_
         go_simp
         obtain ⟨vB, hvB⟩ : ∃ W, W = ((vA.setCell ⟨p10, 0, none⟩ (.slice vo m' vc)).setCell ⟨p10, 1, none⟩ (.int .i64 x')).setCell ⟨p10, 2, none⟩ (.int .i64 y') := ⟨_, rfl⟩
         rw [← hvB]
         have hB := stores2 HVA.out hvB HD4.out HPX.out HQX.out HF.out.1 HF.out.2.1 HF.out.2.2
         refine hKK _ _ (HCV.out _ hB.1).1 ?_
         clear hKK KK hvB x0 x1 x2 f0 f1 f2
         have z := And.intro HS0.out (And.intro HS1.out (And.intro HS2.out (And.intro HS3.out (And.intro HL6.out (And.intro HL7.out (And.intro hB.2.2.2.1 (And.intro HK2.out.size HK5.out.size)))))))
         have z' := And.intro HD00.out.size (And.intro HQ2.out HQ5.out)
         have HG2 := hid (HT2.out.keep2 (w' := vB) (by omega) (fun k hk hl => (hB.2.2.2.2 k (by omega) (by omega)).trans (HK2.out.block k hl)))
         have HG5 := hid (HT5.out.keep2 (w' := vB) (by omega) (fun k hk hl => (hB.2.2.2.2 k (by omega) (by omega)).trans (HK5.out.block k hl)))
         refine mixQ_end (NoPanic.normal ⟨rfl, p9, p10, m, m', uo, vo, uc, vc, x, y, x', y', ⟨HD00.out.trans (hB.1.mono HD00.out.size), hB.2.1, hB.2.2.1, ⟨B2, M2, R2, HJ2.out, by omega, by omega, HG2.out⟩, ⟨B5, M5, R5, HJ5.out, by omega, by omega, HG5.out⟩⟩, ?_⟩)
         with_reducible rfl
        case zb3b =>
         refine hnd_go rfl (by kernel_rfl) fun KK hKK => ?_
         go_simp
         obtain ⟨v3, p10, hW, hp, ba, hh, hz⟩ := al_box v2
         rw [← hW, ← hp]
         have HP7 := hid hh
         have HL7 := hid hp
         have HS2 := hid hz
         have HD3 := hid (HD2.out.trans (ba.mono HD2.out.size))
         have HK2 := hid (HK2.out.trans (ba.mono HK2.out.size))
         have HK5 := hid (HK5.out.trans (ba.mono HK5.out.size))
         have HK7 := hid (Below.refl v3.heap.size v3)
         refine hKK _ _ (HCV.out _ HD3.out).1 ?_
         clear hKK KK ba hW hp hh hz
         refine mixQ_go rfl (by kernel_rfl) fun KK hKK => ?_
         go_simp
         obtain ⟨v4, p9, hW, hp, ba, hh, hz⟩ := al_box v3
         rw [← hW, ← hp]
         have HP6 := hid hh
         have HL6 := hid hp
         have HS3 := hid hz
         have HD4 := hid (HD3.out.trans (ba.mono HD3.out.size))
         have HK2 := hid (HK2.out.trans (ba.mono HK2.out.size))
         have HK5 := hid (HK5.out.trans (ba.mono HK5.out.size))
         have HK7 := hid (HK7.out.trans (ba.mono HK7.out.size))
         have HK6 := hid (Below.refl v4.heap.size v4)
         refine hKK _ _ (HCV.out _ HD4.out).1 ?_
         clear hKK KK ba hW hp hh hz
         have HF := hid (show p9 ≠ p10 ∧ v0.heap.size ≤ p9 ∧ v0.heap.size ≤ p10 from by
           have := And.intro HS0.out (And.intro HS1.out (And.intro HS2.out (And.intro HS3.out (And.intro HL6.out HL7.out))))
           omega)
         have HPX := hid ((HK6.out.block p9 (lt_of HP6.out)).trans HP6.out)
         have HQX := hid ((HK7.out.block p10 (lt_of HP7.out)).trans HP7.out)
         obtain ⟨x0, x1, x2, f0, f1, f2⟩ := box6 HPX.out
         refine mixQ_go rfl (by kernel_rfl) fun KK hKK => ?_
         go_simp
         obtain ⟨vA, hvA⟩ : ∃ W, W = ((v4.setCell ⟨p9, 0, none⟩ (.slice uo m uc)).setCell ⟨p9, 1, none⟩ (.int .i64 x)).setCell ⟨p9, 2, none⟩ (.int .i64 y) := ⟨_, rfl⟩
         rw [← hvA]
         have HVA := hid (show vA = st3 v4 p9 _ _ _ from hvA)
         have hA := stores1 HVA.out HD4.out HPX.out HQX.out HF.out.1 HF.out.2.1
         refine hKK _ _ (HCV.out _ hA.1).1 ?_
         clear hKK KK hvA x0 x1 x2 f0 f1 f2
         obtain ⟨x0, x1, x2, f0, f1, f2⟩ := box6 hA.2
         clear hA
         refine mixQ_go rfl (by kernel_rfl) fun KK hKK => ?_
         go_simp
         obtain ⟨vB, hvB⟩ : ∃ W, W = ((vA.setCell ⟨p10, 0, none⟩ (.slice vo m' vc)).setCell ⟨p10, 1, none⟩ (.int .i64 x')).setCell ⟨p10, 2, none⟩ (.int .i64 y') := ⟨_, rfl⟩
         rw [← hvB]
         have hB := stores2 HVA.out hvB HD4.out HPX.out HQX.out HF.out.1 HF.out.2.1 HF.out.2.2
         refine hKK _ _ (HCV.out _ hB.1).1 ?_
         clear hKK KK hvB x0 x1 x2 f0 f1 f2
         have z := And.intro HS0.out (And.intro HS1.out (And.intro HS2.out (And.intro HS3.out (And.intro HL6.out (And.intro HL7.out (And.intro hB.2.2.2.1 (And.intro HK2.out.size HK5.out.size)))))))
         have z' := And.intro HD00.out.size (And.intro HQ2.out HQ5.out)
         have HG2 := hid (HT2.out.keep2 (w' := vB) (by omega) (fun k hk hl => (hB.2.2.2.2 k (by omega) (by omega)).trans (HK2.out.block k hl)))
         have HG5 := hid (HT5.out.keep2 (w' := vB) (by omega) (fun k hk hl => (hB.2.2.2.2 k (by omega) (by omega)).trans (HK5.out.block k hl)))
         refine mixQ_end (NoPanic.normal ⟨rfl, p9, p10, m, m', uo, vo, uc, vc, x, y, x', y', ⟨HD00.out.trans (hB.1.mono HD00.out.size), hB.2.1, hB.2.2.1, ⟨B2, M2, R2, HJ2.out, by omega, by omega, HG2.out⟩, ⟨B5, M5, R5, HJ5.out, by omega, by omega, HG5.out⟩⟩, ?_⟩)
         with_reducible rfl
       case zb2b =>
        refine hnd_go rfl (by kernel_rfl) fun KK hKK => ?_
        go_simp
        obtain ⟨v2, p9, hW, hp, ba, hh, hz⟩ := al_box v1
        rw [← hW, ← hp]
        have HP6 := hid hh
        have HL6 := hid hp
        have HS1 := hid hz
        have HD2 := hid (HD1.out.trans (ba.mono HD1.out.size))
        have HK2 := hid (HK2.out.trans (ba.mono HK2.out.size))
        have HK6 := hid (Below.refl v2.heap.size v2)
        refine hKK _ _ (HCV.out _ HD2.out).1 ?_
        clear hKK KK ba hW hp hh hz
        refine mixQ_two ?zb4a ?zb4b
        case zb4a =>
         refine hnd_go rfl (by kernel_rfl) fun KK hKK => ?_
         go_simp
         refine (then_any xo yo xc yc na nb A B sa fa sb fb v2 HNA.out HNB.out (HCV.out _ HD2.out).2.1 (HCV.out _ HD2.out).2.2 (by omega) (by omega) (by have := HEA.out; omega) (by have := HEA.out; omega) (by have := HEB.out; omega) (by have := HEB.out; omega)).mono ?_
         rintro e v3 ⟨B5, vo, m', vc, M5, R5, x', y', rfl, hJ, hl, hu, hT, ba⟩
         have HT5 := hid hT
         have HJ5 := hid hJ
         have HQ5 := hid (And.intro hl hu)
         clear hJ hl hu
         have HS2 := hid ba.size
         have HD3 := hid (HD2.out.trans (ba.mono HD2.out.size))
         have HK2 := hid (HK2.out.trans (ba.mono HK2.out.size))
         have HK6 := hid (HK6.out.trans (ba.mono HK6.out.size))
         have HK5 := hid (Below.refl v3.heap.size v3)
         refine hKK _ _ (HCV.out _ HD3.out).1 ?_
         clear hKK KK ba hT
         refine mixQ_go rfl (by kernel_rfl) fun KK hKK => ?_
         go_simp
         obtain ⟨v4, p10, hW, hp, ba, hh, hz⟩ := al_box v3
         rw [← hW, ← hp]
         have HP7 := hid hh
         have HL7 := hid hp
         have HS3 := hid hz
         have HD4 := hid (HD3.out.trans (ba.mono HD3.out.size))
         have HK2 := hid (HK2.out.trans (ba.mono HK2.out.size))
         have HK6 := hid (HK6.out.trans (ba.mono HK6.out.size))
         have HK5 := hid (HK5.out.trans (ba.mono HK5.out.size))
         have HK7 := hid (Below.refl v4.heap.size v4)
         refine hKK _ _ (HCV.out _ HD4.out).1 ?_
         clear hKK KK ba hW hp hh hz
         have HF := hid (show p9 ≠ p10 ∧ v0.heap.size ≤ p9 ∧ v0.heap.size ≤ p10 from by
           have := And.intro HS0.out (And.intro HS1.out (And.intro HS2.out (And.intro HS3.out (And.intro HL6.out HL7.out))))
           omega)
         have HPX := hid ((HK6.out.block p9 (lt_of HP6.out)).trans HP6.out)
         have HQX := hid ((HK7.out.block p10 (lt_of HP7.out)).trans HP7.out)
         obtain ⟨x0, x1, x2, f0, f1, f2⟩ := box6 HPX.out
         refine mixQ_go rfl (by kernel_rfl) fun KK hKK => ?_
         go_simp
         obtain ⟨vA, hvA⟩ : ∃ W, W = ((v4.setCell ⟨p9, 0, none⟩ (.slice uo m uc)).setCell ⟨p9, 1, none⟩ (.int .i64 x)).setCell ⟨p9, 2, none⟩ (.int .i64 y) := ⟨_, rfl⟩
         rw [← hvA]
         have HVA := hid (show vA = st3 v4 p9 _ _ _ from hvA)
         have hA := stores1 HVA.out HD4.out HPX.out HQX.out HF.out.1 HF.out.2.1
         refine hKK _ _ (HCV.out _ hA.1).1 ?_
         clear hKK KK hvA x0 x1 x2 f0 f1 f2
         obtain ⟨x0, x1, x2, f0, f1, f2⟩ := box6 hA.2
         clear hA
         refine mixQ_go rfl (by kernel_rfl) fun KK hKK => ?_
         go_simp
         obtain ⟨vB, hvB⟩ : ∃ W, W = ((vA.setCell ⟨p10, 0, none⟩ (.slice vo m' vc)).setCell ⟨p10, 1, none⟩ (.int .i64 x')).setCell ⟨p10, 2, none⟩ (.int .i64 y') := ⟨_, rfl⟩
         rw [← hvB]
         have hB := stores2 HVA.out hvB HD4.out HPX.out HQX.out HF.out.1 HF.out.2.1 HF.out.2.2
         refine hKK _ _ (HCV.out _ hB.1).1 ?_
         clear hKK KK hvB x0 x1 x2 f0 f1 f2
         have z := And.intro HS0.out (And.intro HS1.out (And.intro HS2.out (And.intro HS3.out (And.intro HL6.out (And.intro HL7.out (And.intro hB.2.2.2.1 (And.intro HK2.out.size HK5.out.size)))))))
         have z' := And.intro HD00.out.size (And.intro HQ2.out HQ5.out)
         have HG2 := hid (HT2.out.keep2 (w' := vB) (by omega) (fun k hk hl => (hB.2.2.2.2 k (by omega) (by omega)).trans (HK2.out.block k hl)))
         have HG5 := hid (HT5.out.keep2 (w' := vB) (by omega) (fun k hk hl => (hB.2.2.2.2 k (by omega) (by omega)).trans (HK5.out.block k hl)))
         refine mixQ_end (NoPanic.normal ⟨rfl, p9, p10, m, m', uo, vo, uc, vc, x, y, x', y', ⟨HD00.out.trans (hB.1.mono HD00.out.size), hB.2.1, hB.2.2.1, ⟨B2, M2, R2, HJ2.out, by omega, by omega, HG2.out⟩, ⟨B5, M5, R5, HJ5.out, by omega, by omega, HG5.out⟩⟩, ?_⟩)
         with_reducible rfl
        case zb4b =>
         refine hnd_go rfl (by kernel_rfl) fun KK hKK => ?_
         go_simp
         obtain ⟨v3, p10, hW, hp, ba, hh, hz⟩ := al_box v2
         rw [← hW, ← hp]
         have HP7 := hid hh
         have HL7 := hid hp
         have HS2 := hid hz
         have HD3 := hid (HD2.out.trans (ba.mono HD2.out.size))
         have HK2 := hid (HK2.out.trans (ba.mono HK2.out.size))
         have HK6 := hid (HK6.out.trans (ba.mono HK6.out.size))
         have HK7 := hid (Below.refl v3.heap.size v3)
         refine hKK _ _ (HCV.out _ HD3.out).1 ?_
         clear hKK KK ba hW hp hh hz
         refine mixQ_go rfl (by kernel_rfl) fun KK hKK => ?_
         go_simp
         refine (then_any xo yo xc yc na nb A B sa fa sb fb v3 HNA.out HNB.out (HCV.out _ HD3.out).2.1 (HCV.out _ HD3.out).2.2 (by omega) (by omega) (by have := HEA.out; omega) (by have := HEA.out; omega) (by have := HEB.out; omega) (by have := HEB.out; omega)).mono ?_
         rintro e v4 ⟨B5, vo, m', vc, M5, R5, x', y', rfl, hJ, hl, hu, hT, ba⟩
         have HT5 := hid hT
         have HJ5 := hid hJ
         have HQ5 := hid (And.intro hl hu)
         clear hJ hl hu
         have HS3 := hid ba.size
         have HD4 := hid (HD3.out.trans (ba.mono HD3.out.size))
         have HK2 := hid (HK2.out.trans (ba.mono HK2.out.size))
         have HK6 := hid (HK6.out.trans (ba.mono HK6.out.size))
         have HK7 := hid (HK7.out.trans (ba.mono HK7.out.size))
         have HK5 := hid (Below.refl v4.heap.size v4)
         refine hKK _ _ (HCV.out _ HD4.out).1 ?_
         clear hKK KK ba hT
         have HF := hid (show p9 ≠ p10 ∧ v0.heap.size ≤ p9 ∧ v0.heap.size ≤ p10 from by
           have := And.intro HS0.out (And.intro HS1.out (And.intro HS2.out (And.intro HS3.out (And.intro HL6.out HL7.out))))
           omega)
         have HPX := hid ((HK6.out.block p9 (lt_of HP6.out)).trans HP6.out)
         have HQX := hid ((HK7.out.block p10 (lt_of HP7.out)).trans HP7.out)
         obtain ⟨x0, x1, x2, f0, f1, f2⟩ := box6 HPX.out
         refine mixQ_go rfl (by kernel_rfl) fun KK hKK => ?_
         go_simp
         obtain ⟨vA, hvA⟩ : ∃ W, W = ((v4.setCell ⟨p9, 0, none⟩ (.slice uo m uc)).setCell ⟨p9, 1, none⟩ (.int .i64 x)).setCell ⟨p9, 2, none⟩ (.int .i64 y) := ⟨_, rfl⟩
         rw [← hvA]
         have HVA := hid (show vA = st3 v4 p9 _ _ _ from hvA)
         have hA := stores1 HVA.out HD4.out HPX.out HQX.out HF.out.1 HF.out.2.1
         refine hKK _ _ (HCV.out _ hA.1).1 ?_
         clear hKK KK hvA x0 x1 x2 f0 f1 f2
         obtain ⟨x0, x1, x2, f0, f1, f2⟩ := box6 hA.2
         clear hA
         refine mixQ_go rfl (by kernel_rfl) fun KK hKK => ?_
         go_simp
         obtain ⟨vB, hvB⟩ : ∃ W, W = ((vA.setCell ⟨p10, 0, none⟩ (.slice vo m' vc)).setCell ⟨p10, 1, none⟩ (.int .i64 x')).setCell ⟨p10, 2, none⟩ (.int .i64 y') := ⟨_, rfl⟩
         rw [← hvB]
         have hB := stores2 HVA.out hvB HD4.out HPX.out HQX.out HF.out.1 HF.out.2.1 HF.out.2.2
         refine hKK _ _ (HCV.out _ hB.1).1 ?_
         clear hKK KK hvB x0 x1 x2 f0 f1 f2
         have z := And.intro HS0.out (And.intro HS1.out (And.intro HS2.out (And.intro HS3.out (And.intro HL6.out (And.intro HL7.out (And.intro hB.2.2.2.1 (And.intro HK2.out.size HK5.out.size)))))))
         have z' := And.intro HD00.out.size (And.intro HQ2.out HQ5.out)
         have HG2 := hid (HT2.out.keep2 (w' := vB) (by omega) (fun k hk hl => (hB.2.2.2.2 k (by omega) (by omega)).trans (HK2.out.block k hl)))
         have HG5 := hid (HT5.out.keep2 (w' := vB) (by omega) (fun k hk hl => (hB.2.2.2.2 k (by omega) (by omega)).trans (HK5.out.block k hl)))
         refine mixQ_end (NoPanic.normal ⟨rfl, p9, p10, m, m', uo, vo, uc, vc, x, y, x', y', ⟨HD00.out.trans (hB.1.mono HD00.out.size), hB.2.1, hB.2.2.1, ⟨B2, M2, R2, HJ2.out, by omega, by omega, HG2.out⟩, ⟨B5, M5, R5, HJ5.out, by omega, by omega, HG5.out⟩⟩, ?_⟩)
         with_reducible rfl
       case zb2c =>
        refine hnd_go rfl (by kernel_rfl) fun KK hKK => ?_
        go_simp
        obtain ⟨v2, p10, hW, hp, ba, hh, hz⟩ := al_box v1
        rw [← hW, ← hp]
        have HP7 := hid hh
        have HL7 := hid hp
        have HS1 := hid hz
        have HD2 := hid (HD1.out.trans (ba.mono HD1.out.size))
        have HK2 := hid (HK2.out.trans (ba.mono HK2.out.size))
        have HK7 := hid (Below.refl v2.heap.size v2)
        refine hKK _ _ (HCV.out _ HD2.out).1 ?_
        clear hKK KK ba hW hp hh hz
        refine mixQ_two ?zb5a ?zb5b
        case zb5a =>
         refine hnd_go rfl (by kernel_rfl) fun KK hKK => ?_
         go_simp
         refine (then_any xo yo xc yc na nb A B sa fa sb fb v2 HNA.out HNB.out (HCV.out _ HD2.out).2.1 (HCV.out _ HD2.out).2.2 (by omega) (by omega) (by have := HEA.out; omega) (by have := HEA.out; omega) (by have := HEB.out; omega) (by have := HEB.out; omega)).mono ?_
         rintro e v3 ⟨B5, vo, m', vc, M5, R5, x', y', rfl, hJ, hl, hu, hT, ba⟩
         have HT5 := hid hT
         have HJ5 := hid hJ
         have HQ5 := hid (And.intro hl hu)
         clear hJ hl hu
         have HS2 := hid ba.size
         have HD3 := hid (HD2.out.trans (ba.mono HD2.out.size))
         have HK2 := hid (HK2.out.trans (ba.mono HK2.out.size))
         have HK7 := hid (HK7.out.trans (ba.mono HK7.out.size))
         have HK5 := hid (Below.refl v3.heap.size v3)
         refine hKK _ _ (HCV.out _ HD3.out).1 ?_
         clear hKK KK ba hT
         refine mixQ_go rfl (by kernel_rfl) fun KK hKK => ?_
         go_simp
         obtain ⟨v4, p9, hW, hp, ba, hh, hz⟩ := al_box v3
         rw [← hW, ← hp]
         have HP6 := hid hh
         have HL6 := hid hp
         have HS3 := hid hz
         have HD4 := hid (HD3.out.trans (ba.mono HD3.out.size))
         have HK2 := hid (HK2.out.trans (ba.mono HK2.out.size))
         have HK7 := hid (HK7.out.trans (ba.mono HK7.out.size))
         have HK5 := hid (HK5.out.trans (ba.mono HK5.out.size))
         have HK6 := hid (Below.refl v4.heap.size v4)
         refine hKK _ _ (HCV.out _ HD4.out).1 ?_
         clear hKK KK ba hW hp hh hz
         have HF := hid (show p9 ≠ p10 ∧ v0.heap.size ≤ p9 ∧ v0.heap.size ≤ p10 from by
           have := And.intro HS0.out (And.intro HS1.out (And.intro HS2.out (And.intro HS3.out (And.intro HL6.out HL7.out))))
           omega)
         have HPX := hid ((HK6.out.block p9 (lt_of HP6.out)).trans HP6.out)
         have HQX := hid ((HK7.out.block p10 (lt_of HP7.out)).trans HP7.out)
         obtain ⟨x0, x1, x2, f0, f1, f2⟩ := box6 HPX.out
         refine mixQ_go rfl (by kernel_rfl) fun KK hKK => ?_
         go_simp
         obtain ⟨vA, hvA⟩ : ∃ W, W = ((v4.setCell ⟨p9, 0, none⟩ (.slice uo m uc)).setCell ⟨p9, 1, none⟩ (.int .i64 x)).setCell ⟨p9, 2, none⟩ (.int .i64 y) := ⟨_, rfl⟩
         rw [← hvA]
         have HVA := hid (show vA = st3 v4 p9 _ _ _ from hvA)
         have hA := stores1 HVA.out HD4.out HPX.out HQX.out HF.out.1 HF.out.2.1
         refine hKK _ _ (HCV.out _ hA.1).1 ?_
         clear hKK KK hvA x0 x1 x2 f0 f1 f2
         obtain ⟨x0, x1, x2, f0, f1, f2⟩ := box6 hA.2
         clear hA
         refine mixQ_go rfl (by kernel_rfl) fun KK hKK => ?_
         go_simp
         obtain ⟨vB, hvB⟩ : ∃ W, W = ((vA.setCell ⟨p10, 0, none⟩ (.slice vo m' vc)).setCell ⟨p10, 1, none⟩ (.int .i64 x')).setCell ⟨p10, 2, none⟩ (.int .i64 y') := ⟨_, rfl⟩
         rw [← hvB]
         have hB := stores2 HVA.out hvB HD4.out HPX.out HQX.out HF.out.1 HF.out.2.1 HF.out.2.2
         refine hKK _ _ (HCV.out _ hB.1).1 ?_
         clear hKK KK hvB x0 x1 x2 f0 f1 f2
         have z := And.intro HS0.out (And.intro HS1.out (And.intro HS2.out (And.intro HS3.out (And.intro HL6.out (And.intro HL7.out (And.intro hB.2.2.2.1 (And.intro HK2.out.size HK5.out.size)))))))
         have z' := And.intro HD00.out.size (And.intro HQ2.out HQ5.out)
         have HG2 := hid (HT2.out.keep2 (w' := vB) (by omega) (fun k hk hl => (hB.2.2.2.2 k (by omega) (by omega)).trans (HK2.out.block k hl)))
         have HG5 := hid (HT5.out.keep2 (w' := vB) (by omega) (fun k hk hl => (hB.2.2.2.2 k (by omega) (by omega)).trans (HK5.out.block k hl)))
         refine mixQ_end (NoPanic.normal ⟨rfl, p9, p10, m, m', uo, vo, uc, vc, x, y, x', y', ⟨HD00.out.trans (hB.1.mono HD00.out.size), hB.2.1, hB.2.2.1, ⟨B2, M2, R2, HJ2.out, by omega, by omega, HG2.out⟩, ⟨B5, M5, R5, HJ5.out, by omega, by omega, HG5.out⟩⟩, ?_⟩)
         with_reducible rfl
        case zb5b =>
         refine hnd_go rfl (by kernel_rfl) fun KK hKK => ?_
         go_simp
         obtain ⟨v3, p9, hW, hp, ba, hh, hz⟩ := al_box v2
         rw [← hW, ← hp]
         have HP6 := hid hh
         have HL6 := hid hp
         have HS2 := hid hz
         have HD3 := hid (HD2.out.trans (ba.mono HD2.out.size))
         have HK2 := hid (HK2.out.trans (ba.mono HK2.out.size))
         have HK7 := hid (HK7.out.trans (ba.mono HK7.out.size))
         have HK6 := hid (Below.refl v3.heap.size v3)
         refine hKK _ _ (HCV.out _ HD3.out).1 ?_
         clear hKK KK ba hW hp hh hz
         refine mixQ_go rfl (by kernel_rfl) fun KK hKK => ?_
         go_simp
         refine (then_any xo yo xc yc na nb A B sa fa sb fb v3 HNA.out HNB.out (HCV.out _ HD3.out).2.1 (HCV.out _ HD3.out).2.2 (by omega) (by omega) (by have := HEA.out; omega) (by have := HEA.out; omega) (by have := HEB.out; omega) (by have := HEB.out; omega)).mono ?_
         rintro e v4 ⟨B5, vo, m', vc, M5, R5, x', y', rfl, hJ, hl, hu, hT, ba⟩
         have HT5 := hid hT
         have HJ5 := hid hJ
         have HQ5 := hid (And.intro hl hu)
         clear hJ hl hu
         have HS3 := hid ba.size
         have HD4 := hid (HD3.out.trans (ba.mono HD3.out.size))
         have HK2 := hid (HK2.out.trans (ba.mono HK2.out.size))
         have HK7 := hid (HK7.out.trans (ba.mono HK7.out.size))
         have HK6 := hid (HK6.out.trans (ba.mono HK6.out.size))
         have HK5 := hid (Below.refl v4.heap.size v4)
         refine hKK _ _ (HCV.out _ HD4.out).1 ?_
         clear hKK KK ba hT
         have HF := hid (show p9 ≠ p10 ∧ v0.heap.size ≤ p9 ∧ v0.heap.size ≤ p10 from by
           have := And.intro HS0.out (And.intro HS1.out (And.intro HS2.out (And.intro HS3.out (And.intro HL6.out HL7.out))))
           omega)
         have HPX := hid ((HK6.out.block p9 (lt_of HP6.out)).trans HP6.out)
         have HQX := hid ((HK7.out.block p10 (lt_of HP7.out)).trans HP7.out)
         obtain ⟨x0, x1, x2, f0, f1, f2⟩ := box6 HPX.out
         refine mixQ_go rfl (by kernel_rfl) fun KK hKK => ?_
         go_simp
         obtain ⟨vA, hvA⟩ : ∃ W, W = ((v4.setCell ⟨p9, 0, none⟩ (.slice uo m uc)).setCell ⟨p9, 1, none⟩ (.int .i64 x)).setCell ⟨p9, 2, none⟩ (.int .i64 y) := ⟨_, rfl⟩
         rw [← hvA]
         have HVA := hid (show vA = st3 v4 p9 _ _ _ from hvA)
         have hA := stores1 HVA.out HD4.out HPX.out HQX.out HF.out.1 HF.out.2.1
         refine hKK _ _ (HCV.out _ hA.1).1 ?_
         clear hKK KK hvA x0 x1 x2 f0 f1 f2
         obtain ⟨x0, x1, x2, f0, f1, f2⟩ := box6 hA.2
         clear hA
         refine mixQ_go rfl (by kernel_rfl) fun KK hKK => ?_
         go_simp
         obtain ⟨vB, hvB⟩ : ∃ W, W = ((vA.setCell ⟨p10, 0, none⟩ (.slice vo m' vc)).setCell ⟨p10, 1, none⟩ (.int .i64 x')).setCell ⟨p10, 2, none⟩ (.int .i64 y') := ⟨_, rfl⟩
         rw [← hvB]
         have hB := stores2 HVA.out hvB HD4.out HPX.out HQX.out HF.out.1 HF.out.2.1 HF.out.2.2
         refine hKK _ _ (HCV.out _ hB.1).1 ?_
         clear hKK KK hvB x0 x1 x2 f0 f1 f2
         have z := And.intro HS0.out (And.intro HS1.out (And.intro HS2.out (And.intro HS3.out (And.intro HL6.out (And.intro HL7.out (And.intro hB.2.2.2.1 (And.intro HK2.out.size HK5.out.size)))))))
         have z' := And.intro HD00.out.size (And.intro HQ2.out HQ5.out)
         have HG2 := hid (HT2.out.keep2 (w' := vB) (by omega) (fun k hk hl => (hB.2.2.2.2 k (by omega) (by omega)).trans (HK2.out.block k hl)))
         have HG5 := hid (HT5.out.keep2 (w' := vB) (by omega) (fun k hk hl => (hB.2.2.2.2 k (by omega) (by omega)).trans (HK5.out.block k hl)))
         refine mixQ_end (NoPanic.normal ⟨rfl, p9, p10, m, m', uo, vo, uc, vc, x, y, x', y', ⟨HD00.out.trans (hB.1.mono HD00.out.size), hB.2.1, hB.2.2.1, ⟨B2, M2, R2, HJ2.out, by omega, by omega, HG2.out⟩, ⟨B5, M5, R5, HJ5.out, by omega, by omega, HG5.out⟩⟩, ?_⟩)
         with_reducible rfl
      case zb1b =>
       refine hnd_go rfl (by kernel_rfl) fun KK hKK => ?_
       go_simp
       obtain ⟨v1, p9, hW, hp, ba, hh, hz⟩ := al_box v0
       rw [← hW, ← hp]
       have HP6 := hid hh
       have HL6 := hid hp
       have HS0 := hid hz
       have HD1 := hid (HD0.out.trans (ba.mono HD0.out.size))
       have HK6 := hid (Below.refl v1.heap.size v1)
       refine hKK _ _ (HCV.out _ HD1.out).1 ?_
       clear hKK KK ba hW hp hh hz
       refine mixQ_two ?zb6a ?zb6b
       case zb6a =>
        refine hnd_go rfl (by kernel_rfl) fun KK hKK => ?_
        go_simp
        refine (or_any xo yo xc yc na nb A B sa fa sb fb v1 HNA.out HNB.out (HCV.out _ HD1.out).2.1 (HCV.out _ HD1.out).2.2 (by omega) (by omega) (by have := HEA.out; omega) (by have := HEA.out; omega) (by have := HEB.out; omega) (by have := HEB.out; omega)).mono ?_
        rintro e v2 ⟨B2, uo, m, uc, M2, R2, x, y, rfl, hJ, hl, hu, hT, ba⟩
        have HT2 := hid hT
        have HJ2 := hid hJ
        have HQ2 := hid (And.intro hl hu)
        clear hJ hl hu
        have HS1 := hid ba.size
        have HD2 := hid (HD1.out.trans (ba.mono HD1.out.size))
        have HK6 := hid (HK6.out.trans (ba.mono HK6.out.size))
        have HK2 := hid (Below.refl v2.heap.size v2)
        refine hKK _ _ (HCV.out _ HD2.out).1 ?_
        clear hKK KK ba hT
        refine mixQ_two ?zb7a ?zb7b
        case zb7a =>
         refine hnd_go rfl (by kernel_rfl) fun KK hKK => ?_
         go_simp
         refine (then_any xo yo xc yc na nb A B sa fa sb fb v2 HNA.out HNB.out (HCV.out _ HD2.out).2.1 (HCV.out _ HD2.out).2.2 (by omega) (by omega) (by have := HEA.out; omega) (by have := HEA.out; omega) (by have := HEB.out; omega) (by have := HEB.out; omega)).mono ?_
         rintro e v3 ⟨B5, vo, m', vc, M5, R5, x', y', rfl, hJ, hl, hu, hT, ba⟩
         have HT5 := hid hT
         have HJ5 := hid hJ
         have HQ5 := hid (And.intro hl hu)
         clear hJ hl hu
         have HS2 := hid ba.size
         have HD3 := hid (HD2.out.trans (ba.mono HD2.out.size))
         have HK6 := hid (HK6.out.trans (ba.mono HK6.out.size))
         have HK2 := hid (HK2.out.trans (ba.mono HK2.out.size))
         have HK5 := hid (Below.refl v3.heap.size v3)
         refine hKK _ _ (HCV.out _ HD3.out).1 ?_
         clear hKK KK ba hT
         refine mixQ_go rfl (by kernel_rfl) fun KK hKK => ?_
         go_simp
         obtain ⟨v4, p10, hW, hp, ba, hh, hz⟩ := al_box v3
         rw [← hW, ← hp]
         have HP7 := hid hh
         have HL7 := hid hp
         have HS3 := hid hz
         have HD4 := hid (HD3.out.trans (ba.mono HD3.out.size))
         have HK6 := hid (HK6.out.trans (ba.mono HK6.out.size))
         have HK2 := hid (HK2.out.trans (ba.mono HK2.out.size))
         have HK5 := hid (HK5.out.trans (ba.mono HK5.out.size))
         have HK7 := hid (Below.refl v4.heap.size v4)
         refine hKK _ _ (HCV.out _ HD4.out).1 ?_
         clear hKK KK ba hW hp hh hz
         have HF := hid (show p9 ≠ p10 ∧ v0.heap.size ≤ p9 ∧ v0.heap.size ≤ p10 from by
           have := And.intro HS0.out (And.intro HS1.out (And.intro HS2.out (And.intro HS3.out (And.intro HL6.out HL7.out))))
           omega)
         have HPX := hid ((HK6.out.block p9 (lt_of HP6.out)).trans HP6.out)
         have HQX := hid ((HK7.out.block p10 (lt_of HP7.out)).trans HP7.out)
         obtain ⟨x0, x1, x2, f0, f1, f2⟩ := box6 HPX.out
         refine mixQ_go rfl (by kernel_rfl) fun KK hKK => ?_
         go_simp
         obtain ⟨vA, hvA⟩ : ∃ W, W = ((v4.setCell ⟨p9, 0, none⟩ (.slice uo m uc)).setCell ⟨p9, 1, none⟩ (.int .i64 x)).setCell ⟨p9, 2, none⟩ (.int .i64 y) := ⟨_, rfl⟩
         rw [← hvA]
         have HVA := hid (show vA = st3 v4 p9 _ _ _ from hvA)
         have hA := stores1 HVA.out HD4.out HPX.out HQX.out HF.out.1 HF.out.2.1
         refine hKK _ _ (HCV.out _ hA.1).1 ?_
         clear hKK KK hvA x0 x1 x2 f0 f1 f2
         obtain ⟨x0, x1, x2, f0, f1, f2⟩ := box6 hA.2
         clear hA
         refine mixQ_go rfl (by kernel_rfl) fun KK hKK => ?_
         go_simp
         obtain ⟨vB, hvB⟩ : ∃ W, W = ((vA.setCell ⟨p10, 0, none⟩ (.slice vo m' vc)).setCell ⟨p10, 1, none⟩ (.int .i64 x')).setCell ⟨p10, 2, none⟩ (.int .i64 y') := ⟨_, rfl⟩
         rw [← hvB]
         have hB := stores2 HVA.out hvB HD4.out HPX.out HQX.out HF.out.1 HF.out.2.1 HF.out.2.2
         refine hKK _ _ (HCV.out _ hB.1).1 ?_
         clear hKK KK hvB x0 x1 x2 f0 f1 f2
         have z := And.intro HS0.out (And.intro HS1.out (And.intro HS2.out (And.intro HS3.out (And.intro HL6.out (And.intro HL7.out (And.intro hB.2.2.2.1 (And.intro HK2.out.size HK5.out.size)))))))
         have z' := And.intro HD00.out.size (And.intro HQ2.out HQ5.out)
         have HG2 := hid (HT2.out.keep2 (w' := vB) (by omega) (fun k hk hl => (hB.2.2.2.2 k (by omega) (by omega)).trans (HK2.out.block k hl)))
         have HG5 := hid (HT5.out.keep2 (w' := vB) (by omega) (fun k hk hl => (hB.2.2.2.2 k (by omega) (by omega)).trans (HK5.out.block k hl)))
         refine mixQ_end (NoPanic.normal ⟨rfl, p9, p10, m, m', uo, vo, uc, vc, x, y, x', y', ⟨HD00.out.trans (hB.1.mono HD00.out.size), hB.2.1, hB.2.2.1, ⟨B2, M2, R2, HJ2.out, by omega, by omega, HG2.out⟩, ⟨B5, M5, R5, HJ5.out, by omega, by omega, HG5.out⟩⟩, ?_⟩)
         with_reducible rfl
        case zb7b =>
         refine hnd_go rfl (by kernel_rfl) fun KK hKK => ?_
         go_simp
         obtain ⟨v3, p10, hW, hp, ba, hh, hz⟩ := al_box v2
         rw [← hW, ← hp]
         have HP7 := hid hh
         have HL7 := hid hp
         have HS2 := hid hz
         have HD3 := hid (HD2.out.trans (ba.mono HD2.out.size))
         have HK6 := hid (HK6.out.trans (ba.mono HK6.out.size))
         have HK2 := hid (HK2.out.trans (ba.mono HK2.out.size))
         have HK7 := hid (Below.refl v3.heap.size v3)
         refine hKK _ _ (HCV.out _ HD3.out).1 ?_
         clear hKK KK ba hW hp hh hz
         refine mixQ_go rfl (by kernel_rfl) fun KK hKK => ?_
         go_simp
         refine (then_any xo yo xc yc na nb A B sa fa sb fb v3 HNA.out HNB.out (HCV.out _ HD3.out).2.1 (HCV.out _ HD3.out).2.2 (by omega) (by omega) (by have := HEA.out; omega) (by have := HEA.out; omega) (by have := HEB.out; omega) (by have := HEB.out; omega)).mono ?_
         rintro e v4 ⟨B5, vo, m', vc, M5, R5, x', y', rfl, hJ, hl, hu, hT, ba⟩
         have HT5 := hid hT
         have HJ5 := hid hJ
         have HQ5 := hid (And.intro hl hu)
         clear hJ hl hu
         have HS3 := hid ba.size
         have HD4 := hid (HD3.out.trans (ba.mono HD3.out.size))
         have HK6 := hid (HK6.out.trans (ba.mono HK6.out.size))
         have HK2 := hid (HK2.out.trans (ba.mono HK2.out.size))
         have HK7 := hid (HK7.out.trans (ba.mono HK7.out.size))
         have HK5 := hid (Below.refl v4.heap.size v4)
         refine hKK _ _ (HCV.out _ HD4.out).1 ?_
         clear hKK KK ba hT
         have HF := hid (show p9 ≠ p10 ∧ v0.heap.size ≤ p9 ∧ v0.heap.size ≤ p10 from by
           have := And.intro HS0.out (And.intro HS1.out (And.intro HS2.out (And.intro HS3.out (And.intro HL6.out HL7.out))))
           omega)
         have HPX := hid ((HK6.out.block p9 (lt_of HP6.out)).trans HP6.out)
         have HQX := hid ((HK7.out.block p10 (lt_of HP7.out)).trans HP7.out)
         obtain ⟨x0, x1, x2, f0, f1, f2⟩ := box6 HPX.out
         refine mixQ_go rfl (by kernel_rfl) fun KK hKK => ?_
         go_simp
         obtain ⟨vA, hvA⟩ : ∃ W, W = ((v4.setCell ⟨p9, 0, none⟩ (.slice uo m uc)).setCell ⟨p9, 1, none⟩ (.int .i64 x)).setCell ⟨p9, 2, none⟩ (.int .i64 y) := ⟨_, rfl⟩
         rw [← hvA]
         have HVA := hid (show vA = st3 v4 p9 _ _ _ from hvA)
         have hA := stores1 HVA.out HD4.out HPX.out HQX.out HF.out.1 HF.out.2.1
         refine hKK _ _ (HCV.out _ hA.1).1 ?_
         clear hKK KK hvA x0 x1 x2 f0 f1 f2
         obtain ⟨x0, x1, x2, f0, f1, f2⟩ := box6 hA.2
         clear hA
         refine mixQ_go rfl (by kernel_rfl) fun KK hKK => ?_
         go_simp
         obtain ⟨vB, hvB⟩ : ∃ W, W = ((vA.setCell ⟨p10, 0, none⟩ (.slice vo m' vc)).setCell ⟨p10, 1, none⟩ (.int .i64 x')).setCell ⟨p10, 2, none⟩ (.int .i64 y') := ⟨_, rfl⟩
         rw [← hvB]
         have hB := stores2 HVA.out hvB HD4.out HPX.out HQX.out HF.out.1 HF.out.2.1 HF.out.2.2
         refine hKK _ _ (HCV.out _ hB.1).1 ?_
         clear hKK KK hvB x0 x1 x2 f0 f1 f2
         have z := And.intro HS0.out (And.intro HS1.out (And.intro HS2.out (And.intro HS3.out (And.intro HL6.out (And.intro HL7.out (And.intro hB.2.2.2.1 (And.intro HK2.out.size HK5.out.size)))))))
         have z' := And.intro HD00.out.size (And.intro HQ2.out HQ5.out)
         have HG2 := hid (HT2.out.keep2 (w' := vB) (by omega) (fun k hk hl => (hB.2.2.2.2 k (by omega) (by omega)).trans (HK2.out.block k hl)))
         have HG5 := hid (HT5.out.keep2 (w' := vB) (by omega) (fun k hk hl => (hB.2.2.2.2 k (by omega) (by omega)).trans (HK5.out.block k hl)))
         refine mixQ_end (NoPanic.normal ⟨rfl, p9, p10, m, m', uo, vo, uc, vc, x, y, x', y', ⟨HD00.out.trans (hB.1.mono HD00.out.size), hB.2.1, hB.2.2.1, ⟨B2, M2, R2, HJ2.out, by omega, by omega, HG2.out⟩, ⟨B5, M5, R5, HJ5.out, by omega, by omega, HG5.out⟩⟩, ?_⟩)
         with_reducible rfl
       case zb6b =>
        refine hnd_go rfl (by kernel_rfl) fun KK hKK => ?_
        go_simp
        obtain ⟨v2, p10, hW, hp, ba, hh, hz⟩ := al_box v1
        rw [← hW, ← hp]
        have HP7 := hid hh
        have HL7 := hid hp
        have HS1 := hid hz
        have HD2 := hid (HD1.out.trans (ba.mono HD1.out.size))
        have HK6 := hid (HK6.out.trans (ba.mono HK6.out.size))
        have HK7 := hid (Below.refl v2.heap.size v2)
        refine hKK _ _ (HCV.out _ HD2.out).1 ?_
        clear hKK KK ba hW hp hh hz
        refine mixQ_go rfl (by kernel_rfl) fun KK hKK => ?_
        go_simp
        refine (or_any xo yo xc yc na nb A B sa fa sb fb v2 HNA.out HNB.out (HCV.out _ HD2.out).2.1 (HCV.out _ HD2.out).2.2 (by omega) (by omega) (by have := HEA.out; omega) (by have := HEA.out; omega) (by have := HEB.out; omega) (by have := HEB.out; omega)).mono ?_
        rintro e v3 ⟨B2, uo, m, uc, M2, R2, x, y, rfl, hJ, hl, hu, hT, ba⟩
        have HT2 := hid hT
        have HJ2 := hid hJ
        have HQ2 := hid (And.intro hl hu)
        clear hJ hl hu
        have HS2 := hid ba.size
        have HD3 := hid (HD2.out.trans (ba.mono HD2.out.size))
        have HK6 := hid (HK6.out.trans (ba.mono HK6.out.size))
        have HK7 := hid (HK7.out.trans (ba.mono HK7.out.size))
        have HK2 := hid (Below.refl v3.heap.size v3)
        refine hKK _ _ (HCV.out _ HD3.out).1 ?_
        clear hKK KK ba hT
        refine mixQ_go rfl (by kernel_rfl) fun KK hKK => ?_
        go_simp
        refine (then_any xo yo xc yc na nb A B sa fa sb fb v3 HNA.out HNB.out (HCV.out _ HD3.out).2.1 (HCV.out _ HD3.out).2.2 (by omega) (by omega) (by have := HEA.out; omega) (by have := HEA.out; omega) (by have := HEB.out; omega) (by have := HEB.out; omega)).mono ?_
        rintro e v4 ⟨B5, vo, m', vc, M5, R5, x', y', rfl, hJ, hl, hu, hT, ba⟩
        have HT5 := hid hT
        have HJ5 := hid hJ
        have HQ5 := hid (And.intro hl hu)
        clear hJ hl hu
        have HS3 := hid ba.size
        have HD4 := hid (HD3.out.trans (ba.mono HD3.out.size))
        have HK6 := hid (HK6.out.trans (ba.mono HK6.out.size))
        have HK7 := hid (HK7.out.trans (ba.mono HK7.out.size))
        have HK2 := hid (HK2.out.trans (ba.mono HK2.out.size))
        have HK5 := hid (Below.refl v4.heap.size v4)
        refine hKK _ _ (HCV.out _ HD4.out).1 ?_
        clear hKK KK ba hT
        have HF := hid (show p9 ≠ p10 ∧ v0.heap.size ≤ p9 ∧ v0.heap.size ≤ p10 from by
          have := And.intro HS0.out (And.intro HS1.out (And.intro HS2.out (And.intro HS3.out (And.intro HL6.out HL7.out))))
          omega)
        have HPX := hid ((HK6.out.block p9 (lt_of HP6.out)).trans HP6.out)
        have HQX := hid ((HK7.out.block p10 (lt_of HP7.out)).trans HP7.out)
        obtain ⟨x0, x1, x2, f0, f1, f2⟩ := box6 HPX.out
        refine mixQ_go rfl (by kernel_rfl) fun KK hKK => ?_
        go_simp
        obtain ⟨vA, hvA⟩ : ∃ W, W = ((v4.setCell ⟨p9, 0, none⟩ (.slice uo m uc)).setCell ⟨p9, 1, none⟩ (.int .i64 x)).setCell ⟨p9, 2, none⟩ (.int .i64 y) := ⟨_, rfl⟩
        rw [← hvA]
        have HVA := hid (show vA = st3 v4 p9 _ _ _ from hvA)
        have hA := stores1 HVA.out HD4.out HPX.out HQX.out HF.out.1 HF.out.2.1
        refine hKK _ _ (HCV.out _ hA.1).1 ?_
        clear hKK KK hvA x0 x1 x2 f0 f1 f2
        obtain ⟨x0, x1, x2, f0, f1, f2⟩ := box6 hA.2
        clear hA
        refine mixQ_go rfl (by kernel_rfl) fun KK hKK => ?_
        go_simp
        obtain ⟨vB, hvB⟩ : ∃ W, W = ((vA.setCell ⟨p10, 0, none⟩ (.slice vo m' vc)).setCell ⟨p10, 1, none⟩ (.int .i64 x')).setCell ⟨p10, 2, none⟩ (.int .i64 y') := ⟨_, rfl⟩
        rw [← hvB]
        have hB := stores2 HVA.out hvB HD4.out HPX.out HQX.out HF.out.1 HF.out.2.1 HF.out.2.2
        refine hKK _ _ (HCV.out _ hB.1).1 ?_
        clear hKK KK hvB x0 x1 x2 f0 f1 f2
        have z := And.intro HS0.out (And.intro HS1.out (And.intro HS2.out (And.intro HS3.out (And.intro HL6.out (And.intro HL7.out (And.intro hB.2.2.2.1 (And.intro HK2.out.size HK5.out.size)))))))
        have z' := And.intro HD00.out.size (And.intro HQ2.out HQ5.out)
        have HG2 := hid (HT2.out.keep2 (w' := vB) (by omega) (fun k hk hl => (hB.2.2.2.2 k (by omega) (by omega)).trans (HK2.out.block k hl)))
        have HG5 := hid (HT5.out.keep2 (w' := vB) (by omega) (fun k hk hl => (hB.2.2.2.2 k (by omega) (by omega)).trans (HK5.out.block k hl)))
        refine mixQ_end (NoPanic.normal ⟨rfl, p9, p10, m, m', uo, vo, uc, vc, x, y, x', y', ⟨HD00.out.trans (hB.1.mono HD00.out.size), hB.2.1, hB.2.2.1, ⟨B2, M2, R2, HJ2.out, by omega, by omega, HG2.out⟩, ⟨B5, M5, R5, HJ5.out, by omega, by omega, HG5.out⟩⟩, ?_⟩)
        with_reducible rfl
      case zb1c =>
       refine hnd_go rfl (by kernel_rfl) fun KK hKK => ?_
       go_simp
       obtain ⟨v1, p10, hW, hp, ba, hh, hz⟩ := al_box v0
       rw [← hW, ← hp]
       have HP7 := hid hh
       have HL7 := hid hp
       have HS0 := hid hz
       have HD1 := hid (HD0.out.trans (ba.mono HD0.out.size))
       have HK7 := hid (Below.refl v1.heap.size v1)
       refine hKK _ _ (HCV.out _ HD1.out).1 ?_
       clear hKK KK ba hW hp hh hz
       refine mixQ_two ?zb8a ?zb8b
       case zb8a =>
        refine hnd_go rfl (by kernel_rfl) fun KK hKK => ?_
        go_simp
        refine (or_any xo yo xc yc na nb A B sa fa sb fb v1 HNA.out HNB.out (HCV.out _ HD1.out).2.1 (HCV.out _ HD1.out).2.2 (by omega) (by omega) (by have := HEA.out; omega) (by have := HEA.out; omega) (by have := HEB.out; omega) (by have := HEB.out; omega)).mono ?_
        rintro e v2 ⟨B2, uo, m, uc, M2, R2, x, y, rfl, hJ, hl, hu, hT, ba⟩
        have HT2 := hid hT
        have HJ2 := hid hJ
        have HQ2 := hid (And.intro hl hu)
        clear hJ hl hu
        have HS1 := hid ba.size
        have HD2 := hid (HD1.out.trans (ba.mono HD1.out.size))
        have HK7 := hid (HK7.out.trans (ba.mono HK7.out.size))
        have HK2 := hid (Below.refl v2.heap.size v2)
        refine hKK _ _ (HCV.out _ HD2.out).1 ?_
        clear hKK KK ba hT
        refine mixQ_two ?zb9a ?zb9b
        case zb9a =>
         refine hnd_go rfl (by kernel_rfl) fun KK hKK => ?_
         go_simp
         refine (then_any xo yo xc yc na nb A B sa fa sb fb v2 HNA.out HNB.out (HCV.out _ HD2.out).2.1 (HCV.out _ HD2.out).2.2 (by omega) (by omega) (by have := HEA.out; omega) (by have := HEA.out; omega) (by have := HEB.out; omega) (by have := HEB.out; omega)).mono ?_
         rintro e v3 ⟨B5, vo, m', vc, M5, R5, x', y', rfl, hJ, hl, hu, hT, ba⟩
         have HT5 := hid hT
         have HJ5 := hid hJ
         have HQ5 := hid (And.intro hl hu)
         clear hJ hl hu
         have HS2 := hid ba.size
         have HD3 := hid (HD2.out.trans (ba.mono HD2.out.size))
         have HK7 := hid (HK7.out.trans (ba.mono HK7.out.size))
         have HK2 := hid (HK2.out.trans (ba.mono HK2.out.size))
         have HK5 := hid (Below.refl v3.heap.size v3)
         refine hKK _ _ (HCV.out _ HD3.out).1 ?_
         clear hKK KK ba hT
         refine mixQ_go rfl (by kernel_rfl) fun KK hKK => ?_
         go_simp
         obtain ⟨v4, p9, hW, hp, ba, hh, hz⟩ := al_box v3
         rw [← hW, ← hp]
         have HP6 := hid hh
         have HL6 := hid hp
         have HS3 := hid hz
         have HD4 := hid (HD3.out.trans (ba.mono HD3.out.size))
         have HK7 := hid (HK7.out.trans (ba.mono HK7.out.size))
         have HK2 := hid (HK2.out.trans (ba.mono HK2.out.size))
         have HK5 := hid (HK5.out.trans (ba.mono HK5.out.size))
         have HK6 := hid (Below.refl v4.heap.size v4)
         refine hKK _ _ (HCV.out _ HD4.out).1 ?_
         clear hKK KK ba hW hp hh hz
         have HF := hid (show p9 ≠ p10 ∧ v0.heap.size ≤ p9 ∧ v0.heap.size ≤ p10 from by
           have := And.intro HS0.out (And.intro HS1.out (And.intro HS2.out (And.intro HS3.out (And.intro HL6.out HL7.out))))
           omega)
         have HPX := hid ((HK6.out.block p9 (lt_of HP6.out)).trans HP6.out)
         have HQX := hid ((HK7.out.block p10 (lt_of HP7.out)).trans HP7.out)
         obtain ⟨x0, x1, x2, f0, f1, f2⟩ := box6 HPX.out
         refine mixQ_go rfl (by kernel_rfl) fun KK hKK => ?_
         go_simp
         obtain ⟨vA, hvA⟩ : ∃ W, W = ((v4.setCell ⟨p9, 0, none⟩ (.slice uo m uc)).setCell ⟨p9, 1, none⟩ (.int .i64 x)).setCell ⟨p9, 2, none⟩ (.int .i64 y) := ⟨_, rfl⟩
         rw [← hvA]
         have HVA := hid (show vA = st3 v4 p9 _ _ _ from hvA)
         have hA := stores1 HVA.out HD4.out HPX.out HQX.out HF.out.1 HF.out.2.1
         refine hKK _ _ (HCV.out _ hA.1).1 ?_
         clear hKK KK hvA x0 x1 x2 f0 f1 f2
         obtain ⟨x0, x1, x2, f0, f1, f2⟩ := box6 hA.2
         clear hA
         refine mixQ_go rfl (by kernel_rfl) fun KK hKK => ?_
         go_simp
         obtain ⟨vB, hvB⟩ : ∃ W, W = ((vA.setCell ⟨p10, 0, none⟩ (.slice vo m' vc)).setCell ⟨p10, 1, none⟩ (.int .i64 x')).setCell ⟨p10, 2, none⟩ (.int .i64 y') := ⟨_, rfl⟩
         rw [← hvB]
         have hB := stores2 HVA.out hvB HD4.out HPX.out HQX.out HF.out.1 HF.out.2.1 HF.out.2.2
         refine hKK _ _ (HCV.out _ hB.1).1 ?_
         clear hKK KK hvB x0 x1 x2 f0 f1 f2
         have z := And.intro HS0.out (And.intro HS1.out (And.intro HS2.out (And.intro HS3.out (And.intro HL6.out (And.intro HL7.out (And.intro hB.2.2.2.1 (And.intro HK2.out.size HK5.out.size)))))))
         have z' := And.intro HD00.out.size (And.intro HQ2.out HQ5.out)
         have HG2 := hid (HT2.out.keep2 (w' := vB) (by omega) (fun k hk hl => (hB.2.2.2.2 k (by omega) (by omega)).trans (HK2.out.block k hl)))
         have HG5 := hid (HT5.out.keep2 (w' := vB) (by omega) (fun k hk hl => (hB.2.2.2.2 k (by omega) (by omega)).trans (HK5.out.block k hl)))
         refine mixQ_end (NoPanic.normal ⟨rfl, p9, p10, m, m', uo, vo, uc, vc, x, y, x', y', ⟨HD00.out.trans (hB.1.mono HD00.out.size), hB.2.1, hB.2.2.1, ⟨B2, M2, R2, HJ2.out, by omega, by omega, HG2.out⟩, ⟨B5, M5, R5, HJ5.out, by omega, by omega, HG5.out⟩⟩, ?_⟩)
         with_reducible rfl
        case zb9b =>
         refine hnd_go rfl (by kernel_rfl) fun KK hKK => ?_
         go_simp
         obtain ⟨v3, p9, hW, hp, ba, hh, hz⟩ := al_box v2
         rw [← hW, ← hp]
         have HP6 := hid hh
         have HL6 := hid hp
         have HS2 := hid hz
         have HD3 := hid (HD2.out.trans (ba.mono HD2.out.size))
         have HK7 := hid (HK7.out.trans (ba.mono HK7.out.size))
         have HK2 := hid (HK2.out.trans (ba.mono HK2.out.size))
         have HK6 := hid (Below.refl v3.heap.size v3)
         refine hKK _ _ (HCV.out _ HD3.out).1 ?_
         clear hKK KK ba hW hp hh hz
         refine mixQ_go rfl (by kernel_rfl) fun KK hKK => ?_
         go_simp
         refine (then_any xo yo xc yc na nb A B sa fa sb fb v3 HNA.out HNB.out (HCV.out _ HD3.out).2.1 (HCV.out _ HD3.out).2.2 (by omega) (by omega) (by have := HEA.out; omega) (by have := HEA.out; omega) (by have := HEB.out; omega) (by have := HEB.out; omega)).mono ?_
         rintro e v4 ⟨B5, vo, m', vc, M5, R5, x', y', rfl, hJ, hl, hu, hT, ba⟩
         have HT5 := hid hT
         have HJ5 := hid hJ
         have HQ5 := hid (And.intro hl hu)
         clear hJ hl hu
         have HS3 := hid ba.size
         have HD4 := hid (HD3.out.trans (ba.mono HD3.out.size))
         have HK7 := hid (HK7.out.trans (ba.mono HK7.out.size))
         have HK2 := hid (HK2.out.trans (ba.mono HK2.out.size))
         have HK6 := hid (HK6.out.trans (ba.mono HK6.out.size))
         have HK5 := hid (Below.refl v4.heap.size v4)
         refine hKK _ _ (HCV.out _ HD4.out).1 ?_
         clear hKK KK ba hT
         have HF := hid (show p9 ≠ p10 ∧ v0.heap.size ≤ p9 ∧ v0.heap.size ≤ p10 from by
           have := And.intro HS0.out (And.intro HS1.out (And.intro HS2.out (And.intro HS3.out (And.intro HL6.out HL7.out))))
           omega)
         have HPX := hid ((HK6.out.block p9 (lt_of HP6.out)).trans HP6.out)
         have HQX := hid ((HK7.out.block p10 (lt_of HP7.out)).trans HP7.out)
         obtain ⟨x0, x1, x2, f0, f1, f2⟩ := box6 HPX.out
         refine mixQ_go rfl (by kernel_rfl) fun KK hKK => ?_
         go_simp
         obtain ⟨vA, hvA⟩ : ∃ W, W = ((v4.setCell ⟨p9, 0, none⟩ (.slice uo m uc)).setCell ⟨p9, 1, none⟩ (.int .i64 x)).setCell ⟨p9, 2, none⟩ (.int .i64 y) := ⟨_, rfl⟩
         rw [← hvA]
         have HVA := hid (show vA = st3 v4 p9 _ _ _ from hvA)
         have hA := stores1 HVA.out HD4.out HPX.out HQX.out HF.out.1 HF.out.2.1
         refine hKK _ _ (HCV.out _ hA.1).1 ?_
         clear hKK KK hvA x0 x1 x2 f0 f1 f2
         obtain ⟨x0, x1, x2, f0, f1, f2⟩ := box6 hA.2
         clear hA
         refine mixQ_go rfl (by kernel_rfl) fun KK hKK => ?_
         go_simp
         obtain ⟨vB, hvB⟩ : ∃ W, W = ((vA.setCell ⟨p10, 0, none⟩ (.slice vo m' vc)).setCell ⟨p10, 1, none⟩ (.int .i64 x')).setCell ⟨p10, 2, none⟩ (.int .i64 y') := ⟨_, rfl⟩
         rw [← hvB]
         have hB := stores2 HVA.out hvB HD4.out HPX.out HQX.out HF.out.1 HF.out.2.1 HF.out.2.2
         refine hKK _ _ (HCV.out _ hB.1).1 ?_
         clear hKK KK hvB x0 x1 x2 f0 f1 f2
         have z := And.intro HS0.out (And.intro HS1.out (And.intro HS2.out (And.intro HS3.out (And.intro HL6.out (And.intro HL7.out (And.intro hB.2.2.2.1 (And.intro HK2.out.size HK5.out.size)))))))
         have z' := And.intro HD00.out.size (And.intro HQ2.out HQ5.out)
         have HG2 := hid (HT2.out.keep2 (w' := vB) (by omega) (fun k hk hl => (hB.2.2.2.2 k (by omega) (by omega)).trans (HK2.out.block k hl)))
         have HG5 := hid (HT5.out.keep2 (w' := vB) (by omega) (fun k hk hl => (hB.2.2.2.2 k (by omega) (by omega)).trans (HK5.out.block k hl)))
         refine mixQ_end (NoPanic.normal ⟨rfl, p9, p10, m, m', uo, vo, uc, vc, x, y, x', y', ⟨HD00.out.trans (hB.1.mono HD00.out.size), hB.2.1, hB.2.2.1, ⟨B2, M2, R2, HJ2.out, by omega, by omega, HG2.out⟩, ⟨B5, M5, R5, HJ5.out, by omega, by omega, HG5.out⟩⟩, ?_⟩)
         with_reducible rfl
       case zb8b =>
        refine hnd_go rfl (by kernel_rfl) fun KK hKK => ?_
        go_simp
        obtain ⟨v2, p9, hW, hp, ba, hh, hz⟩ := al_box v1
        rw [← hW, ← hp]
        have HP6 := hid hh
        have HL6 := hid hp
        have HS1 := hid hz
        have HD2 := hid (HD1.out.trans (ba.mono HD1.out.size))
        have HK7 := hid (HK7.out.trans (ba.mono HK7.out.size))
        have HK6 := hid (Below.refl v2.heap.size v2)
        refine hKK _ _ (HCV.out _ HD2.out).1 ?_
        clear hKK KK ba hW hp hh hz
        refine mixQ_go rfl (by kernel_rfl) fun KK hKK => ?_
        go_simp
        refine (or_any xo yo xc yc na nb A B sa fa sb fb v2 HNA.out HNB.out (HCV.out _ HD2.out).2.1 (HCV.out _ HD2.out).2.2 (by omega) (by omega) (by have := HEA.out; omega) (by have := HEA.out; omega) (by have := HEB.out; omega) (by have := HEB.out; omega)).mono ?_
        rintro e v3 ⟨B2, uo, m, uc, M2, R2, x, y, rfl, hJ, hl, hu, hT, ba⟩
        have HT2 := hid hT
        have HJ2 := hid hJ
        have HQ2 := hid (And.intro hl hu)
        clear hJ hl hu
        have HS2 := hid ba.size
        have HD3 := hid (HD2.out.trans (ba.mono HD2.out.size))
        have HK7 := hid (HK7.out.trans (ba.mono HK7.out.size))
        have HK6 := hid (HK6.out.trans (ba.mono HK6.out.size))
        have HK2 := hid (Below.refl v3.heap.size v3)
        refine hKK _ _ (HCV.out _ HD3.out).1 ?_
        clear hKK KK ba hT
        refine mixQ_go rfl (by kernel_rfl) fun KK hKK => ?_
        go_simp
        refine (then_any xo yo xc yc na nb A B sa fa sb fb v3 HNA.out HNB.out (HCV.out _ HD3.out).2.1 (HCV.out _ HD3.out).2.2 (by omega) (by omega) (by have := HEA.out; omega) (by have := HEA.out; omega) (by have := HEB.out; omega) (by have := HEB.out; omega)).mono ?_
        rintro e v4 ⟨B5, vo, m', vc, M5, R5, x', y', rfl, hJ, hl, hu, hT, ba⟩
        have HT5 := hid hT
        have HJ5 := hid hJ
        have HQ5 := hid (And.intro hl hu)
        clear hJ hl hu
        have HS3 := hid ba.size
        have HD4 := hid (HD3.out.trans (ba.mono HD3.out.size))
        have HK7 := hid (HK7.out.trans (ba.mono HK7.out.size))
        have HK6 := hid (HK6.out.trans (ba.mono HK6.out.size))
        have HK2 := hid (HK2.out.trans (ba.mono HK2.out.size))
        have HK5 := hid (Below.refl v4.heap.size v4)
        refine hKK _ _ (HCV.out _ HD4.out).1 ?_
        clear hKK KK ba hT
        have HF := hid (show p9 ≠ p10 ∧ v0.heap.size ≤ p9 ∧ v0.heap.size ≤ p10 from by
          have := And.intro HS0.out (And.intro HS1.out (And.intro HS2.out (And.intro HS3.out (And.intro HL6.out HL7.out))))
          omega)
        have HPX := hid ((HK6.out.block p9 (lt_of HP6.out)).trans HP6.out)
        have HQX := hid ((HK7.out.block p10 (lt_of HP7.out)).trans HP7.out)
        obtain ⟨x0, x1, x2, f0, f1, f2⟩ := box6 HPX.out
        refine mixQ_go rfl (by kernel_rfl) fun KK hKK => ?_
        go_simp
        obtain ⟨vA, hvA⟩ : ∃ W, W = ((v4.setCell ⟨p9, 0, none⟩ (.slice uo m uc)).setCell ⟨p9, 1, none⟩ (.int .i64 x)).setCell ⟨p9, 2, none⟩ (.int .i64 y) := ⟨_, rfl⟩
        rw [← hvA]
        have HVA := hid (show vA = st3 v4 p9 _ _ _ from hvA)
        have hA := stores1 HVA.out HD4.out HPX.out HQX.out HF.out.1 HF.out.2.1
        refine hKK _ _ (HCV.out _ hA.1).1 ?_
        clear hKK KK hvA x0 x1 x2 f0 f1 f2
        obtain ⟨x0, x1, x2, f0, f1, f2⟩ := box6 hA.2
        clear hA
        refine mixQ_go rfl (by kernel_rfl) fun KK hKK => ?_
        go_simp
        obtain ⟨vB, hvB⟩ : ∃ W, W = ((vA.setCell ⟨p10, 0, none⟩ (.slice vo m' vc)).setCell ⟨p10, 1, none⟩ (.int .i64 x')).setCell ⟨p10, 2, none⟩ (.int .i64 y') := ⟨_, rfl⟩
        rw [← hvB]
        have hB := stores2 HVA.out hvB HD4.out HPX.out HQX.out HF.out.1 HF.out.2.1 HF.out.2.2
        refine hKK _ _ (HCV.out _ hB.1).1 ?_
        clear hKK KK hvB x0 x1 x2 f0 f1 f2
        have z := And.intro HS0.out (And.intro HS1.out (And.intro HS2.out (And.intro HS3.out (And.intro HL6.out (And.intro HL7.out (And.intro hB.2.2.2.1 (And.intro HK2.out.size HK5.out.size)))))))
        have z' := And.intro HD00.out.size (And.intro HQ2.out HQ5.out)
        have HG2 := hid (HT2.out.keep2 (w' := vB) (by omega) (fun k hk hl => (hB.2.2.2.2 k (by omega) (by omega)).trans (HK2.out.block k hl)))
        have HG5 := hid (HT5.out.keep2 (w' := vB) (by omega) (fun k hk hl => (hB.2.2.2.2 k (by omega) (by omega)).trans (HK5.out.block k hl)))
        refine mixQ_end (NoPanic.normal ⟨rfl, p9, p10, m, m', uo, vo, uc, vc, x, y, x', y', ⟨HD00.out.trans (hB.1.mono HD00.out.size), hB.2.1, hB.2.2.1, ⟨B2, M2, R2, HJ2.out, by omega, by omega, HG2.out⟩, ⟨B5, M5, R5, HJ5.out, by omega, by omega, HG5.out⟩⟩, ?_⟩)
        with_reducible rfl
    case m4 =>
      rintro a' w5 ⟨p9, p10, m, m', uo, vo, uc, vc, x, y, x', y', hjn, rfl⟩
      have HJN := hid hjn
      obtain ⟨BU, MU, RU, hju, hbu1, hbu2, hgu⟩ := hjn.ru
      obtain ⟨BV, MV, RV, hjv, hbv1, hbv2, hgv⟩ := hjn.rv
      have HJU := hid hju
      have HJV := hid hjv
      have HBU := hid (show w4.heap.size ≤ BU ∧ BU ≤ w5.heap.size from ⟨hbu1, hbu2⟩)
      have HBV := hid (show w4.heap.size ≤ BV ∧ BV ≤ w5.heap.size from ⟨hbv1, hbv2⟩)
      have HGU := hid hgu
      have HGV := hid hgv
      have HSU := hid (hju.small HEA.out HEB.out (by have h1 := HNA.out; have h2 := HNB.out; omega))
      have HSV := hid (hjv.smallT HEA.out HEB.out (by have h1 := HNA.out; have h2 := HNB.out; omega))
      have HB45 := hid hjn.below
      have HS6 := hid (show ∀ W, Below w5.heap.size w5 W → (W.cell? ⟨w.heap.size, 0, none⟩ = some (.slice so na sc) ∧ W.cell? ⟨w.heap.size, 1, none⟩ = some (.int .i64 sa) ∧ W.cell? ⟨w.heap.size, 2, none⟩ = some (.int .i64 fa)) ∧ (W.cell? ⟨w.heap.size + 1, 0, none⟩ = some (.slice to nb tc) ∧ W.cell? ⟨w.heap.size + 1, 1, none⟩ = some (.int .i64 sb) ∧ W.cell? ⟨w.heap.size + 1, 2, none⟩ = some (.int .i64 fb)) ∧ (W.cell? ⟨p7, 0, none⟩ = some (.slice xo na xc) ∧ W.cell? ⟨p7, 1, none⟩ = some (.int .i64 sa) ∧ W.cell? ⟨p7, 2, none⟩ = some (.int .i64 fa)) ∧ (W.cell? ⟨p8, 0, none⟩ = some (.slice yo nb yc) ∧ W.cell? ⟨p8, 1, none⟩ = some (.int .i64 sb) ∧ W.cell? ⟨p8, 2, none⟩ = some (.int .i64 fb)) ∧ (W.cell? ⟨p9, 0, none⟩ = some (.slice uo m uc) ∧ W.cell? ⟨p9, 1, none⟩ = some (.int .i64 x) ∧ W.cell? ⟨p9, 2, none⟩ = some (.int .i64 y)) ∧ (W.cell? ⟨p10, 0, none⟩ = some (.slice vo m' vc) ∧ W.cell? ⟨p10, 1, none⟩ = some (.int .i64 x') ∧ W.cell? ⟨p10, 2, none⟩ = some (.int .i64 y')) from fun W h => by
        obtain ⟨h1, h2, h3, h4⟩ := HCX.out _ (HB45.out.trans (h.mono HB45.out.size))
        obtain ⟨u0, u1, u2⟩ := box_3 HJN.out.pu
        obtain ⟨v0, v1, v2⟩ := box_3 HJN.out.pv
        exact ⟨h1, h2, h3, h4, ⟨cell_bl h u0, cell_bl h u1, cell_bl h u2⟩, cell_bl h v0, cell_bl h v1, cell_bl h v2⟩)
      have HW45 := hid (show ∀ W, Below w5.heap.size w5 W → Below w4.heap.size w4 W from fun W h => HB45.out.trans (h.mono HB45.out.size))
      have HUW := hid (show ∀ W, Below w5.heap.size w5 W → RdS W uo MU from fun W h => (HGU.out.keep h).reads HSU.out.2.2.2.2)
      have HVW := hid (show ∀ W, Below w5.heap.size w5 W → RdS W vo MV from fun W h => (HGV.out.keep h).reads HSV.out.2.2.2.2)
      have HLU := hid hgu.len
      have HLV := hid hgv.len
      have hmU : m ≤ 4096 := by have h1 := HSU.out.2.2.1; have h2 := hgu.len; omega
      have hmV : m' ≤ 4096 := by have h1 := HSV.out.2.2.1; have h2 := hgv.len; omega
      clear hjn hju hbu1 hbu2 hgu hjv hbv1 hbv2 hgv
      go_wp2_with fail
      refine wp_region_mix [(0, true), (1, true), (2, true), (3, false), (4, false), (5, true), (6, true), (7, true), (8, true), (9, true), (10, false), (11, false), (12, true), (13, true), (14, true), (15, true), (16, true), (17, false), (18, true), (19, true), (20, true), (21, true), (22, true), (23, false), (24, true), (25, true)] (fun w' => (w'.cell? ⟨w.heap.size, 0, none⟩ = some (.slice so na sc) ∧ w'.cell? ⟨w.heap.size, 1, none⟩ = some (.int .i64 sa) ∧ w'.cell? ⟨w.heap.size, 2, none⟩ = some (.int .i64 fa)) ∧ (w'.cell? ⟨w.heap.size + 1, 0, none⟩ = some (.slice to nb tc) ∧ w'.cell? ⟨w.heap.size + 1, 1, none⟩ = some (.int .i64 sb) ∧ w'.cell? ⟨w.heap.size + 1, 2, none⟩ = some (.int .i64 fb)) ∧ (w'.cell? ⟨p7, 0, none⟩ = some (.slice xo na xc) ∧ w'.cell? ⟨p7, 1, none⟩ = some (.int .i64 sa) ∧ w'.cell? ⟨p7, 2, none⟩ = some (.int .i64 fa)) ∧ (w'.cell? ⟨p8, 0, none⟩ = some (.slice yo nb yc) ∧ w'.cell? ⟨p8, 1, none⟩ = some (.int .i64 sb) ∧ w'.cell? ⟨p8, 2, none⟩ = some (.int .i64 fb)) ∧ (w'.cell? ⟨p9, 0, none⟩ = some (.slice uo m uc) ∧ w'.cell? ⟨p9, 1, none⟩ = some (.int .i64 x) ∧ w'.cell? ⟨p9, 2, none⟩ = some (.int .i64 y)) ∧ (w'.cell? ⟨p10, 0, none⟩ = some (.slice vo m' vc) ∧ w'.cell? ⟨p10, 1, none⟩ = some (.int .i64 x') ∧ w'.cell? ⟨p10, 2, none⟩ = some (.int .i64 y'))) (fun _ => false) (by kernel_rfl) (by kernel_rfl) (fun j hj => by cases hj) rfl (by kernel_rfl) (HS6.out _ (Below.refl _ _).drew) ?_
      iterate 3 (refine mix_free ?_ rfl (by kernel_rfl) (fun w' hS => ?_) ?_; (rotate_left; (obtain ⟨⟨s1, s2, s3⟩, ⟨s4, s5, s6⟩, ⟨s7, s8, s9⟩, ⟨s10, s11, s12⟩, ⟨s13, s14, s15⟩, s16, s17, s18⟩ := hS; go_simp; with_reducible rfl); rotate_left))
      obtain ⟨w6, hw6⟩ : ∃ v, v = w5.drew := ⟨_, rfl⟩
      have HZ6 := hid (show Below w5.heap.size w5 w6 by rw [hw6]; exact (Below.refl _ _).drew)
      rw [← hw6]
      clear hw6
      refine mix_go rfl (by kernel_rfl) fun KK hKK => ?_
      go_simp
      refine (ror_any so to sc tc na nb A B sa fa sb fb w6 HNA.out HNB.out (HSAW.out _ (HW14.out _ (HW45.out _ HZ6.out))) (HSBW.out _ (HW14.out _ (HW45.out _ HZ6.out))) (by omega) (by omega) (by have := HEA.out; omega) (by have := HEA.out; omega) (by have := HEB.out; omega) (by have := HEB.out; omega)).mono ?_
      rintro e w7 ⟨_, qo, m7, qc, M7, R7, x7, y7, rfl, hJ, _, _, hGq, ba⟩
      have HZ7 := hid (show Below w5.heap.size w5 w7 from HZ6.out.trans (ba.mono HZ6.out.size))
      obtain ⟨rfl, rfl, rfl⟩ := HJU.out.uniq hJ
      obtain rfl : m = m7 := HLU.out.symm.trans hGq.len
      have HRQ := hid (hGq.reads HSU.out.2.2.2.2)
      clear hJ hGq
      refine hKK _ _ (fun _ => HS6.out _ HZ7.out) ?_
      clear hKK KK ba
      refine mix_go rfl (by kernel_rfl) fun KK hKK => ?_
      go_simp
      refine (same_any uo qo uc qc m MU x y w7 HLU.out.symm (HUW.out _ HZ7.out) HRQ.out (by unfold most; omega) (fun z hz => ⟨(HSU.out.2.2.2.1 z hz).1, (HSU.out.2.2.2.1 z hz).2.1⟩)).mono ?_
      rintro e w8 ⟨rfl, ba⟩
      have HZ8 := hid (show Below w5.heap.size w5 w8 from HZ7.out.trans (ba.mono HZ7.out.size))
      refine hKK _ _ (fun _ => HS6.out _ HZ8.out) ?_
      clear hKK KK ba
      iterate 2 (refine mix_free ?_ rfl (by kernel_rfl) (fun w' hS => ?_) ?_; (rotate_left; (go_simp; with_reducible rfl); rotate_left))
      iterate 3 (refine mix_free ?_ rfl (by kernel_rfl) (fun w' hS => ?_) ?_; (rotate_left; (obtain ⟨⟨s1, s2, s3⟩, ⟨s4, s5, s6⟩, ⟨s7, s8, s9⟩, ⟨s10, s11, s12⟩, ⟨s13, s14, s15⟩, s16, s17, s18⟩ := hS; go_simp; with_reducible rfl); rotate_left))
      refine mix_go rfl (by kernel_rfl) fun KK hKK => ?_
      go_simp
      refine (rthen_any so to sc tc na nb A B sa fa sb fb w8 HNA.out HNB.out (HSAW.out _ (HW14.out _ (HW45.out _ HZ8.out))) (HSBW.out _ (HW14.out _ (HW45.out _ HZ8.out))) (by omega) (by omega) (by have := HEA.out; omega) (by have := HEA.out; omega) (by have := HEB.out; omega) (by have := HEB.out; omega)).mono ?_
      rintro e w9 ⟨_, ro, m9, rc, M9, R9, x9, y9, rfl, hJ, _, _, hGq, ba⟩
      have HZ9 := hid (show Below w5.heap.size w5 w9 from HZ8.out.trans (ba.mono HZ8.out.size))
      obtain ⟨rfl, rfl, rfl⟩ := HJV.out.uniq hJ
      obtain rfl : m' = m9 := HLV.out.symm.trans hGq.len
      have HRR := hid (hGq.reads HSV.out.2.2.2.2)
      clear hJ hGq
      refine hKK _ _ (fun _ => HS6.out _ HZ9.out) ?_
      clear hKK KK ba
      refine mix_go rfl (by kernel_rfl) fun KK hKK => ?_
      go_simp
      refine (same_any vo ro vc rc m' MV x' y' w9 HLV.out.symm (HVW.out _ HZ9.out) HRR.out (by unfold most; omega) (fun z hz => ⟨(HSV.out.2.2.2.1 z hz).1, (HSV.out.2.2.2.1 z hz).2.1⟩)).mono ?_
      rintro e w10 ⟨rfl, ba⟩
      have HZ10 := hid (show Below w5.heap.size w5 w10 from HZ9.out.trans (ba.mono HZ9.out.size))
      refine hKK _ _ (fun _ => HS6.out _ HZ10.out) ?_
      clear hKK KK ba
      iterate 3 (refine mix_free ?_ rfl (by kernel_rfl) (fun w' hS => ?_) ?_; (rotate_left; (go_simp; with_reducible rfl); rotate_left))
      iterate 2 (refine mix_free ?_ rfl (by kernel_rfl) (fun w' hS => ?_) ?_; (rotate_left; (obtain ⟨⟨s1, s2, s3⟩, ⟨s4, s5, s6⟩, ⟨s7, s8, s9⟩, ⟨s10, s11, s12⟩, ⟨s13, s14, s15⟩, s16, s17, s18⟩ := hS; go_simp; with_reducible rfl); rotate_left))
      refine mix_go rfl (by kernel_rfl) fun KK hKK => ?_
      go_simp
      refine (same_any xo so xc sc na A sa fa w10 HNA.out (HXW.out _ (HW45.out _ HZ10.out)) (HSAW.out _ (HW14.out _ (HW45.out _ HZ10.out))) HMA.out (fun z hz => ⟨(HLA.out z hz).1, (HLA.out z hz).2.1⟩)).mono ?_
      rintro e w11 ⟨rfl, ba⟩
      have HZ11 := hid (show Below w5.heap.size w5 w11 from HZ10.out.trans (ba.mono HZ10.out.size))
      refine hKK _ _ (fun _ => HS6.out _ HZ11.out) ?_
      clear hKK KK ba
      iterate 3 (refine mix_free ?_ rfl (by kernel_rfl) (fun w' hS => ?_) ?_; (rotate_left; (go_simp; with_reducible rfl); rotate_left))
      iterate 2 (refine mix_free ?_ rfl (by kernel_rfl) (fun w' hS => ?_) ?_; (rotate_left; (obtain ⟨⟨s1, s2, s3⟩, ⟨s4, s5, s6⟩, ⟨s7, s8, s9⟩, ⟨s10, s11, s12⟩, ⟨s13, s14, s15⟩, s16, s17, s18⟩ := hS; go_simp; with_reducible rfl); rotate_left))
      refine mix_go rfl (by kernel_rfl) fun KK hKK => ?_
      go_simp
      refine (same_any yo to yc tc nb B sb fb w11 HNB.out (HYW.out _ (HW45.out _ HZ11.out)) (HSBW.out _ (HW14.out _ (HW45.out _ HZ11.out))) HMB.out (fun z hz => ⟨(HLB.out z hz).1, (HLB.out z hz).2.1⟩)).mono ?_
      rintro e w12 ⟨rfl, ba⟩
      have HZ12 := hid (show Below w5.heap.size w5 w12 from HZ11.out.trans (ba.mono HZ11.out.size))
      refine hKK _ _ (fun _ => HS6.out _ HZ12.out) ?_
      clear hKK KK ba
      iterate 2 (refine mix_free ?_ rfl (by kernel_rfl) (fun w' hS => ?_) ?_; (rotate_left; (go_simp; with_reducible rfl); rotate_left))
      refine mix_end (NoPanic.normal ?_)
      clear HZ6 HZ7 HZ8 HZ9 HZ10 HZ11 HRQ HRR
      obtain ⟨⟨a0, a1, a2⟩, ⟨b0, b1, b2⟩, _, _, _, _, _, _⟩ := HS6.out _ HZ12.out
      go_wp2_with fail
      clear a0 a1 a2 b0 b1 b2
      refine (rgood_any so sc na A sa fa w12 HNA.out (HSAW.out _ (HW14.out _ (HW45.out _ HZ12.out))) HMA.out).mono ?_
      rintro e w13 ⟨rfl, ba⟩
      have HZ13 := hid (show Below w5.heap.size w5 w13 from HZ12.out.trans (ba.mono HZ12.out.size))
      clear ba HZ12
      rcases bool_cases (gdB A sa fa) with hGA | hGA
      rotate_left
      · rw [hGA]
        go_wp2_with fail
        refine (live_tb (HTW.out _ (HW14.out _ (HW45.out _ HZ13.out))).1).mono ?_
        rintro e w14 ⟨rfl, ba⟩
        have HE := hid (HTW.out _ (HW14.out _ (HW45.out _ (HZ13.out.trans (ba.mono HZ13.out.size))))).2
        clear ba
        go_wp2
        go_ret
        exact ⟨rfl, HE.out⟩
      rw [hGA]
      obtain ⟨⟨a0, a1, a2⟩, ⟨b0, b1, b2⟩, _, _, _, _, _, _⟩ := HS6.out _ HZ13.out
      clear a0 a1 a2
      go_wp2_with fail
      clear b0 b1 b2
      refine (rgood_any to tc nb B sb fb w13 HNB.out (HSBW.out _ (HW14.out _ (HW45.out _ HZ13.out))) HMB.out).mono ?_
      rintro e w14 ⟨rfl, ba⟩
      have HZ14 := hid (show Below w5.heap.size w5 w14 from HZ13.out.trans (ba.mono HZ13.out.size))
      clear ba HZ13
      rcases bool_cases (gdB B sb fb) with hGB | hGB
      rotate_left
      · rw [hGB]
        go_wp2_with fail
        refine (live_tb (HTW.out _ (HW14.out _ (HW45.out _ HZ14.out))).1).mono ?_
        rintro e w15 ⟨rfl, ba⟩
        have HE := hid (HTW.out _ (HW14.out _ (HW45.out _ (HZ14.out.trans (ba.mono HZ14.out.size))))).2
        clear ba
        go_wp2
        go_ret
        exact ⟨rfl, HE.out⟩
      rw [hGB]
      have HGA := hid hGA
      have HGB := hid hGB
      have HOK := hid (show (gdB A sa fa && gdB B sb fb) = true by rw [hGA, hGB]; rfl)
      clear hGA hGB
      go_wp2
      go_loopw [11, 12] (fun b0 y wr => ∃ (bo : Bool) (k : Nat), b0 = .bool bo ∧ y = .int .i64 k ∧ k ≤ cl + 1 ∧ Hid (bo = true ↔ ∃ j, j < k ∧ tk A sa fa (c.take j) = true ∧ tk B sb fb (c.drop j) = true) ∧ Hid (Below w5.heap.size w5 wr)) (fun _ y _ => cl + 1 - (intOf y).toNat)
      case atStart => exact ⟨false, 0, rfl, rfl, Nat.zero_le _, ⟨fun h => (by cases h), fun ⟨j, h, _⟩ => (by omega)⟩, HZ14⟩
      case round =>
        clear HZ14
        obtain ⟨bo, k, rfl, rfl, hk, HBO, HZ⟩ := hrel
        by_cases hkc : k ≤ cl
        · have k1 : (k : Int) ≤ (cl : Int) := by omega
          have k0 : (0 : Int) ≤ (k : Int) := by omega
          have k2 : (k : Int) ≤ (cc : Int) := by omega
          have HTK := hid (show k = (c.take k).length by rw [List.length_take]; have := HCL.out; omega)
          have HDR := hid (show cl - k = (c.drop k).length by rw [List.length_drop]; have := HCL.out; omega)
          have HCT := hid (show ∀ W, Below w5.heap.size w5 W → RdI W co (c.take k) from fun W h j z hj => HCCW.out _ (HW14.out _ (HW45.out _ h)) j z (List.mem_take_at' hj))
          obtain ⟨⟨a0, a1, a2⟩, ⟨b0, b1, b2⟩, _, _, _, _, _, _⟩ := HS6.out _ HZ.out
          have HCA := hid (show ∀ W, Below w5.heap.size w5 W → (W.cell? ⟨w.heap.size, 0, none⟩ = some (.slice so na sc) ∧ W.cell? ⟨w.heap.size, 1, none⟩ = some (.int .i64 sa) ∧ W.cell? ⟨w.heap.size, 2, none⟩ = some (.int .i64 fa)) ∧ (W.cell? ⟨w.heap.size + 1, 0, none⟩ = some (.slice to nb tc) ∧ W.cell? ⟨w.heap.size + 1, 1, none⟩ = some (.int .i64 sb) ∧ W.cell? ⟨w.heap.size + 1, 2, none⟩ = some (.int .i64 fb)) from fun W h => ⟨(HS6.out _ h).1, (HS6.out _ h).2.1⟩)
          rcases bool_cases bo with hbo | hbo
          · subst hbo
            go_wp2_with fail
            refine wp_region_mix [(0, true), (1, true), (2, true), (3, true), (4, true), (5, true), (6, false), (7, true), (8, true), (9, true), (10, true), (11, true), (12, false), (13, true), (14, true), (15, false)] (fun w' => (w'.cell? ⟨w.heap.size, 0, none⟩ = some (.slice so na sc) ∧ w'.cell? ⟨w.heap.size, 1, none⟩ = some (.int .i64 sa) ∧ w'.cell? ⟨w.heap.size, 2, none⟩ = some (.int .i64 fa)) ∧ (w'.cell? ⟨w.heap.size + 1, 0, none⟩ = some (.slice to nb tc) ∧ w'.cell? ⟨w.heap.size + 1, 1, none⟩ = some (.int .i64 sb) ∧ w'.cell? ⟨w.heap.size + 1, 2, none⟩ = some (.int .i64 fb))) (fun _ => false) (by kernel_rfl) (by kernel_rfl) (fun j hj => by cases hj) rfl (by kernel_rfl) ⟨⟨a0, a1, a2⟩, b0, b1, b2⟩ ?_
            clear a0 a1 a2 b0 b1 b2
            iterate 2 (refine mix_free ?_ rfl (by kernel_rfl) (fun w' hS => ?_) ?_; (rotate_left; (go_simp; with_reducible rfl); rotate_left))
            iterate 4 (refine mix_pass rfl (by kernel_rfl) ?_)
            refine mix_skip1 rfl (by kernel_rfl) (fun _ => HCA.out _ HZ.out.drew) ?_
            iterate 5 (refine mix_pass rfl (by kernel_rfl) ?_)
            refine mix_skip1 rfl (by kernel_rfl) (fun _ => HCA.out _ HZ.out.drew) ?_
            iterate 1 (refine mix_pass rfl (by kernel_rfl) ?_)
            iterate 1 (refine mix_free ?_ rfl (by kernel_rfl) (fun w' hS => ?_) ?_; (rotate_left; (go_simp; with_reducible rfl); rotate_left))
            refine mix_go rfl (by kernel_rfl) fun KK hKK => ?_
            go_simp
            refine hKK _ _ (fun _ => HCA.out _ HZ.out.drew) ?_
            clear hKK KK
            refine mix_end (NoPanic.normal ?_)
            have HZ2 := hid (show Below w5.heap.size w5 wr.drew from HZ.out.drew)
            have HBO2 := hid (show true = true ↔ ∃ j, j < k + 1 ∧ tk A sa fa (c.take j) = true ∧ tk B sb fb (c.drop j) = true from ⟨fun _ => by
              obtain ⟨j, h1, h2⟩ := HBO.out.1 (by first | rfl | trivial)
              exact ⟨j, by omega, h2⟩, fun _ => rfl⟩)
            clear HZ HBO HTK HDR HCT HCA
            go_wp2
            go_roundw
            case rel => exact ⟨true, k + 1, rfl, by go_num, by omega, HBO2, HZ2⟩
            case measure => simp [intOf]; omega
          · subst hbo
            go_wp2_with fail
            refine wp_region_mix [(0, true), (1, true), (2, true), (3, true), (4, true), (5, true), (6, false), (7, true), (8, true), (9, true), (10, true), (11, true), (12, false), (13, true), (14, true), (15, false)] (fun w' => (w'.cell? ⟨w.heap.size, 0, none⟩ = some (.slice so na sc) ∧ w'.cell? ⟨w.heap.size, 1, none⟩ = some (.int .i64 sa) ∧ w'.cell? ⟨w.heap.size, 2, none⟩ = some (.int .i64 fa)) ∧ (w'.cell? ⟨w.heap.size + 1, 0, none⟩ = some (.slice to nb tc) ∧ w'.cell? ⟨w.heap.size + 1, 1, none⟩ = some (.int .i64 sb) ∧ w'.cell? ⟨w.heap.size + 1, 2, none⟩ = some (.int .i64 fb))) (fun _ => false) (by kernel_rfl) (by kernel_rfl) (fun j hj => by cases hj) rfl (by kernel_rfl) ⟨⟨a0, a1, a2⟩, b0, b1, b2⟩ ?_
            clear a0 a1 a2 b0 b1 b2
            iterate 6 (refine mix_free ?_ rfl (by kernel_rfl) (fun w' hS => ?_) ?_; (rotate_left; (obtain ⟨⟨s1, s2, s3⟩, s4, s5, s6⟩ := hS; go_simp; with_reducible rfl); rotate_left))
            refine mix_go rfl (by kernel_rfl) fun KK hKK => ?_
            go_simp
            refine (takesA_any so sc na A sa fa co k cc (c.take k) wr.drew HNA.out (HSAW.out _ (HW14.out _ (HW45.out _ HZ.out.drew))) HMA.out (by have := HEA.out; omega) (by have := HEA.out; omega) (HCT.out _ HZ.out.drew) HTK.out (by omega)).mono ?_
            intro e w16 htk
            obtain ⟨rfl, ba⟩ := htk.tk HGA.out
            have HZ2 := hid (show Below w5.heap.size w5 w16 from HZ.out.drew.trans (ba.mono HZ.out.drew.size))
            clear ba htk HZ
            rcases bool_cases (tk A sa fa (c.take k)) with hta | hta
            · rw [hta]
              have HTA := hid hta
              refine hKK _ _ (fun _ => HCA.out _ HZ2.out) ?_
              clear hKK KK hta
              iterate 1 (refine mix_free ?_ rfl (by kernel_rfl) (fun w' hS => ?_) ?_; (rotate_left; (go_simp; with_reducible rfl); rotate_left))
              iterate 3 (refine mix_free ?_ rfl (by kernel_rfl) (fun w' hS => ?_) ?_; (rotate_left; (obtain ⟨⟨s1, s2, s3⟩, s4, s5, s6⟩ := hS; go_simp; with_reducible rfl); rotate_left))
              iterate 1 (refine mix_free ?_ rfl (by kernel_rfl) (fun w' hS => ?_) ?_; (rotate_left; (go_simp; with_reducible rfl); rotate_left))
              obtain ⟨dO, hdO⟩ : ∃ d, d = (if cc = k then co else Option.map (fun x => x.add k) co) := ⟨_, rfl⟩
              have HDC := hid (show RdI w16 dO (c.drop k) from fun j z hj => by
                rw [List.getElem?_drop] at hj
                obtain ⟨q, hq, hqb, hqc⟩ := HCCW.out _ (HW14.out _ (HW45.out _ HZ2.out)) (k + j) z hj
                have hlt := (List.getElem?_eq_some_iff.1 hj).1
                have hlc := HCL.out
                refine ⟨q.add k, by rw [hdO, if_neg (by omega), hq]; rfl, by rw [add_blk]; exact hqb, ?_⟩
                rw [addr_add_add]; exact hqc)
              have HDO := hid hdO
              clear hdO
              refine mix_go rfl (by kernel_rfl) fun KK hKK => ?_
              go_simp
              rw [← HDO.out]
              refine (takesA_any to tc nb B sb fb dO (cl - k) (cc - k) (c.drop k) w16 HNB.out (HSBW.out _ (HW14.out _ (HW45.out _ HZ2.out))) HMB.out (by have := HEB.out; omega) (by have := HEB.out; omega) HDC.out HDR.out (by omega)).mono ?_
              intro e w17 htk
              obtain ⟨rfl, ba⟩ := htk.tk HGB.out
              have HZ3 := hid (show Below w5.heap.size w5 w17 from HZ2.out.trans (ba.mono HZ2.out.size))
              clear ba htk HZ2 HDC
              obtain ⟨tb, htb⟩ : ∃ t, t = tk B sb fb (c.drop k) := ⟨_, rfl⟩
              rw [← htb]
              have HTBB := hid htb
              refine hKK _ _ (fun _ => HCA.out _ HZ3.out) ?_
              clear hKK KK htb
              iterate 2 (refine mix_free ?_ rfl (by kernel_rfl) (fun w' hS => ?_) ?_; (rotate_left; (go_simp; with_reducible rfl); rotate_left))
              refine mix_go rfl (by kernel_rfl) fun KK hKK => ?_
              go_simp
              refine hKK _ _ (fun _ => HCA.out _ HZ3.out) ?_
              clear hKK KK
              refine mix_end (NoPanic.normal ?_)
              have HBO2 := hid (show tb = true ↔ ∃ j, j < k + 1 ∧ tk A sa fa (c.take j) = true ∧ tk B sb fb (c.drop j) = true from ⟨fun h => ⟨k, by omega, HTA.out, by rw [← HTBB.out]; exact h⟩, fun ⟨j, h1, h2, h3⟩ => by
                by_cases e : j = k
                · subst e
                  rw [HTBB.out]; exact h3
                · exact absurd (HBO.out.2 ⟨j, by omega, h2, h3⟩) (by simp)⟩)
              clear HBO HTK HDR HCT HCA HTA HTBB HDO
              go_wp2
              go_roundw
              case rel => exact ⟨tb, k + 1, rfl, by go_num, by omega, HBO2, HZ3⟩
              case measure => simp [intOf]; omega
            · rw [hta]
              have HTA := hid hta
              refine hKK _ _ (fun _ => HCA.out _ HZ2.out) ?_
              clear hKK KK hta
              iterate 1 (refine mix_free ?_ rfl (by kernel_rfl) (fun w' hS => ?_) ?_; (rotate_left; (go_simp; with_reducible rfl); rotate_left))
              iterate 4 (refine mix_pass rfl (by kernel_rfl) ?_)
              refine mix_skip1 rfl (by kernel_rfl) (fun _ => HCA.out _ HZ2.out) ?_
              iterate 2 (refine mix_free ?_ rfl (by kernel_rfl) (fun w' hS => ?_) ?_; (rotate_left; (go_simp; with_reducible rfl); rotate_left))
              refine mix_go rfl (by kernel_rfl) fun KK hKK => ?_
              go_simp
              refine hKK _ _ (fun _ => HCA.out _ HZ2.out) ?_
              clear hKK KK
              refine mix_end (NoPanic.normal ?_)
              have HBO2 := hid (show false = true ↔ ∃ j, j < k + 1 ∧ tk A sa fa (c.take j) = true ∧ tk B sb fb (c.drop j) = true from ⟨fun h => (by cases h), fun ⟨j, h1, h2, h3⟩ => by
                by_cases e : j = k
                · subst e
                  rw [HTA.out] at h2; cases h2
                · exact HBO.out.2 ⟨j, by omega, h2, h3⟩⟩)
              clear HBO HTK HDR HCT HCA HTA
              go_wp2
              go_roundw
              case rel => exact ⟨false, k + 1, rfl, by go_num, by omega, HBO2, HZ2⟩
              case measure => simp [intOf]; omega
        · have k1 : ¬ (k : Int) ≤ (cl : Int) := by omega
          have hk1 : k = cl + 1 := by omega
          have HBT := hid (show bo = tk (thn A fa B sb) sa (fb + A.length) c from by
            rw [Bool.eq_iff_iff, HBO.out, tk_thn HGA.out HGB.out]
            constructor
            · rintro ⟨j, h1, h2⟩
              exact ⟨j, by have := HCL.out; omega, h2⟩
            · rintro ⟨j, h1, h2⟩
              exact ⟨j, by have := HCL.out; omega, h2⟩)
          have HYU := hid (HJU.out.yes HOK.out)
          have HYV := hid (HJV.out.yes HOK.out)
          have HGU2 := hid (show gdB MU x y = true by obtain ⟨h1, h2, h3⟩ := HYU.out; rw [h1, h2, h3]; exact gd_orl HGA.out HGB.out (by have h1 := HNA.out; have h2 := HNB.out; omega))
          have HGV2 := hid (show gdB MV x' y' = true by obtain ⟨h1, h2, h3⟩ := HYV.out; rw [h1, h2, h3]; exact gd_thn HGA.out HGB.out (by have h1 := HNA.out; have h2 := HNB.out; omega))
          obtain ⟨ta, hta⟩ : ∃ t, t = tk A sa fa c := ⟨_, rfl⟩
          obtain ⟨tb, htb⟩ : ∃ t, t = tk B sb fb c := ⟨_, rfl⟩
          have HTU := hid (show tk MU x y c = (ta || tb) by obtain ⟨h1, h2, h3⟩ := HYU.out; rw [h1, h2, h3, hta, htb]; exact tk_orl HGA.out HGB.out c)
          have HTV := hid (show tk MV x' y' c = bo by obtain ⟨h1, h2, h3⟩ := HYV.out; rw [h1, h2, h3]; exact HBT.out.symm)
          have HTA := hid hta
          have HTBX := hid htb
          clear hta htb hk1 HBO
          go_wp2_with fail
          refine wp_region_mix [(0, true), (1, true), (3, true), (4, true), (2, false), (5, false), (6, true), (7, true), (8, true), (9, false), (10, true), (11, true), (12, true), (13, true), (14, true), (16, true), (15, false), (17, true), (18, true)] (fun w' => (w'.cell? ⟨w.heap.size, 0, none⟩ = some (.slice so na sc) ∧ w'.cell? ⟨w.heap.size, 1, none⟩ = some (.int .i64 sa) ∧ w'.cell? ⟨w.heap.size, 2, none⟩ = some (.int .i64 fa)) ∧ (w'.cell? ⟨w.heap.size + 1, 0, none⟩ = some (.slice to nb tc) ∧ w'.cell? ⟨w.heap.size + 1, 1, none⟩ = some (.int .i64 sb) ∧ w'.cell? ⟨w.heap.size + 1, 2, none⟩ = some (.int .i64 fb)) ∧ (w'.cell? ⟨p7, 0, none⟩ = some (.slice xo na xc) ∧ w'.cell? ⟨p7, 1, none⟩ = some (.int .i64 sa) ∧ w'.cell? ⟨p7, 2, none⟩ = some (.int .i64 fa)) ∧ (w'.cell? ⟨p8, 0, none⟩ = some (.slice yo nb yc) ∧ w'.cell? ⟨p8, 1, none⟩ = some (.int .i64 sb) ∧ w'.cell? ⟨p8, 2, none⟩ = some (.int .i64 fb)) ∧ (w'.cell? ⟨p9, 0, none⟩ = some (.slice uo m uc) ∧ w'.cell? ⟨p9, 1, none⟩ = some (.int .i64 x) ∧ w'.cell? ⟨p9, 2, none⟩ = some (.int .i64 y)) ∧ (w'.cell? ⟨p10, 0, none⟩ = some (.slice vo m' vc) ∧ w'.cell? ⟨p10, 1, none⟩ = some (.int .i64 x') ∧ w'.cell? ⟨p10, 2, none⟩ = some (.int .i64 y'))) (fun _ => false) (by kernel_rfl) (by kernel_rfl) (fun j hj => by cases hj) rfl (by kernel_rfl) (HS6.out _ HZ.out.drew) ?_
          iterate 4 (refine mix_free ?_ rfl (by kernel_rfl) (fun w' hS => ?_) ?_; (rotate_left; (obtain ⟨⟨s1, s2, s3⟩, ⟨s4, s5, s6⟩, ⟨s7, s8, s9⟩, ⟨s10, s11, s12⟩, ⟨s13, s14, s15⟩, s16, s17, s18⟩ := hS; go_simp; with_reducible rfl); rotate_left))
          have HZd := hid (show Below w5.heap.size w5 wr.drew from HZ.out.drew)
          clear HZ
          refine mix_go rfl (by kernel_rfl) fun KK hKK => ?_
          go_simp
          refine (takesA_any uo uc m MU x y co cl cc c wr.drew HLU.out.symm (HUW.out _ HZd.out) (by unfold most; omega) HSU.out.1 HSU.out.2.1 (HCCW.out _ (HW14.out _ (HW45.out _ HZd.out))) HCL.out (by omega)).mono ?_
          intro e w18 htk
          obtain ⟨rfl, ba⟩ := htk.tk HGU2.out
          rw [HTU.out]
          have HZ18 := hid (show Below w5.heap.size w5 w18 from HZd.out.trans (ba.mono HZd.out.size))
          refine hKK _ _ (fun _ => HS6.out _ HZ18.out) ?_
          clear hKK KK ba htk HZd
          refine mix_go rfl (by kernel_rfl) fun KK hKK => ?_
          go_simp
          refine (takesA_any so sc na A sa fa co cl cc c w18 HNA.out (HSAW.out _ (HW14.out _ (HW45.out _ HZ18.out))) HMA.out (by have := HEA.out; omega) (by have := HEA.out; omega) (HCCW.out _ (HW14.out _ (HW45.out _ HZ18.out))) HCL.out (by omega)).mono ?_
          intro e w19 htk
          obtain ⟨rfl, ba⟩ := htk.tk HGA.out
          rw [← HTA.out]
          have HZ19 := hid (show Below w5.heap.size w5 w19 from HZ18.out.trans (ba.mono HZ18.out.size))
          clear ba htk HZ18
          rcases bool_cases ta with hta | hta
          · subst hta
            refine hKK _ _ (fun _ => HS6.out _ HZ19.out) ?_
            clear hKK KK
            iterate 1 (refine mix_free ?_ rfl (by kernel_rfl) (fun w' hS => ?_) ?_; (rotate_left; (go_simp; with_reducible rfl); rotate_left))
            iterate 2 (refine mix_pass0 rfl (by kernel_rfl) (by kernel_rfl) ?_)
            refine mix_skip0 rfl (by kernel_rfl) (by kernel_rfl) (fun _ => HS6.out _ HZ19.out) ?_
            obtain ⟨w20, hw20⟩ : ∃ W, W = w19 := ⟨_, rfl⟩
            rw [← hw20] at HZ19 ⊢
            have HZ20 := hid HZ19.out
            clear hw20 HZ19
            iterate 3 (refine mix_free ?_ rfl (by kernel_rfl) (fun w' hS => ?_) ?_; (rotate_left; (go_simp; with_reducible rfl); rotate_left))
            iterate 3 (refine mix_free ?_ rfl (by kernel_rfl) (fun w' hS => ?_) ?_; (rotate_left; (obtain ⟨⟨s1, s2, s3⟩, ⟨s4, s5, s6⟩, ⟨s7, s8, s9⟩, ⟨s10, s11, s12⟩, ⟨s13, s14, s15⟩, s16, s17, s18⟩ := hS; go_simp; with_reducible rfl); rotate_left))
            refine mix_go rfl (by kernel_rfl) fun KK hKK => ?_
            go_simp
            refine (takesA_any vo vc m' MV x' y' co cl cc c w20 HLV.out.symm (HVW.out _ HZ20.out) (by unfold most; omega) HSV.out.1 HSV.out.2.1 (HCCW.out _ (HW14.out _ (HW45.out _ HZ20.out))) HCL.out (by omega)).mono ?_
            intro e w21 htk
            obtain ⟨rfl, ba⟩ := htk.tk HGV2.out
            rw [HTV.out]
            have HZ21 := hid (show Below w5.heap.size w5 w21 from HZ20.out.trans (ba.mono HZ20.out.size))
            refine hKK _ _ (fun _ => HS6.out _ HZ21.out) ?_
            clear hKK KK ba htk HZ20
            iterate 2 (refine mix_free ?_ rfl (by kernel_rfl) (fun w' hS => ?_) ?_; (rotate_left; (go_simp; with_reducible rfl); rotate_left))
            refine mix_end (NoPanic.normal ?_)
            obtain ⟨_, _, _, _, ⟨u0, u1, u2⟩, _, _, _⟩ := HS6.out _ HZ21.out
            go_wp2_with fail
            clear u0 u1 u2
            refine (spoil_keeps (sgd_and BV (.slice vo m' vc) m' RV p10 (.slice vo m' vc) (.int .i64 x') (.int .i64 y')) BU uo uc m x y RU w21 ((HGU.out.keep HZ21.out).spoils HSU.out.2.2.2.1) (by omega) (by have h1 := HBU.out; have h2 := HZ21.out.size; omega) ⟨(HGV.out.keep HZ21.out).spoils HSV.out.2.2.2.1, by rw [HZ21.out.block p10 (lt_of HJN.out.pv)]; exact HJN.out.pv⟩).mono ?_
            rintro e w22 ⟨rfl, ba, hsv, hpv⟩
            have HB22 := hid (show Below w4.heap.size w4 w22 from (HW45.out _ HZ21.out).trans (ba.mono HBU.out.1))
            have HS22 := hid (show w5.heap.size ≤ w22.heap.size from Nat.le_trans HZ21.out.size ba.size)
            obtain ⟨v0, v1, v2⟩ := box_3 hpv
            have HSPV := hid hsv
            clear ba hsv hpv HZ21
            go_wp2_with fail
            clear v0 v1 v2
            refine (spoil_any BV vo vc m' x' y' RV w22 HSPV.out (by omega) (by have h1 := HBV.out; have h2 := HS22.out; omega)).mono ?_
            rintro e w23 ⟨rfl, ba⟩
            have HB23 := hid (show Below w4.heap.size w4 w23 from HB22.out.trans (ba.mono HBV.out.1))
            clear ba HB22 HSPV
            obtain ⟨⟨a0, a1, a2⟩, ⟨b0, b1, b2⟩, ⟨c0, c1, c2⟩, d0, d1, d2⟩ := HCX.out _ HB23.out
            clear b0 b1 b2 d0 d1 d2
            go_wp2_with fail
            clear a0 a1 a2 c0 c1 c2
            refine (same_any xo so xc sc na A sa fa w23 HNA.out (HXW.out _ HB23.out) (HSAW.out _ (HW14.out _ HB23.out)) HMA.out (fun z hz => ⟨(HLA.out z hz).1, (HLA.out z hz).2.1⟩)).mono ?_
            rintro e w24 ⟨rfl, ba⟩
            have HB24 := hid (show Below w4.heap.size w4 w24 from HB23.out.trans (ba.mono HB23.out.size))
            clear ba HB23
            obtain ⟨⟨a0, a1, a2⟩, ⟨b0, b1, b2⟩, ⟨c0, c1, c2⟩, d0, d1, d2⟩ := HCX.out _ HB24.out
            clear a0 a1 a2 c0 c1 c2
            go_wp2_with fail
            clear b0 b1 b2 d0 d1 d2
            refine (same_any yo to yc tc nb B sb fb w24 HNB.out (HYW.out _ HB24.out) (HSBW.out _ (HW14.out _ HB24.out)) HMB.out (fun z hz => ⟨(HLB.out z hz).1, (HLB.out z hz).2.1⟩)).mono ?_
            rintro e w25 ⟨rfl, ba⟩
            have HB25 := hid (show Below w4.heap.size w4 w25 from HB24.out.trans (ba.mono HB24.out.size))
            clear ba HB24
            go_wp2_with fail
            refine (live_tb (HTW.out _ (HW14.out _ HB25.out)).1).mono ?_
            rintro e w26 ⟨rfl, ba⟩
            have HE := hid (HTW.out _ (HW14.out _ (HB25.out.trans (ba.mono HB25.out.size)))).2
            clear ba
            go_wp2
            go_ret
            exact ⟨rfl, HE.out⟩
          · subst hta
            refine hKK _ _ (fun _ => HS6.out _ HZ19.out) ?_
            clear hKK KK
            iterate 1 (refine mix_free ?_ rfl (by kernel_rfl) (fun w' hS => ?_) ?_; (rotate_left; (go_simp; with_reducible rfl); rotate_left))
            iterate 2 (refine mix_free ?_ rfl (by kernel_rfl) (fun w' hS => ?_) ?_; (rotate_left; (obtain ⟨⟨s1, s2, s3⟩, ⟨s4, s5, s6⟩, ⟨s7, s8, s9⟩, ⟨s10, s11, s12⟩, ⟨s13, s14, s15⟩, s16, s17, s18⟩ := hS; go_simp; with_reducible rfl); rotate_left))
            refine mix_go rfl (by kernel_rfl) fun KK hKK => ?_
            go_simp
            refine (takesA_any to tc nb B sb fb co cl cc c w19 HNB.out (HSBW.out _ (HW14.out _ (HW45.out _ HZ19.out))) HMB.out (by have := HEB.out; omega) (by have := HEB.out; omega) (HCCW.out _ (HW14.out _ (HW45.out _ HZ19.out))) HCL.out (by omega)).mono ?_
            intro e w20 htk
            obtain ⟨rfl, ba⟩ := htk.tk HGB.out
            rw [← HTBX.out]
            have HZ20 := hid (show Below w5.heap.size w5 w20 from HZ19.out.trans (ba.mono HZ19.out.size))
            refine hKK _ _ (fun _ => HS6.out _ HZ20.out) ?_
            clear hKK KK ba htk HZ19
            iterate 3 (refine mix_free ?_ rfl (by kernel_rfl) (fun w' hS => ?_) ?_; (rotate_left; (go_simp; with_reducible rfl); rotate_left))
            iterate 3 (refine mix_free ?_ rfl (by kernel_rfl) (fun w' hS => ?_) ?_; (rotate_left; (obtain ⟨⟨s1, s2, s3⟩, ⟨s4, s5, s6⟩, ⟨s7, s8, s9⟩, ⟨s10, s11, s12⟩, ⟨s13, s14, s15⟩, s16, s17, s18⟩ := hS; go_simp; with_reducible rfl); rotate_left))
            refine mix_go rfl (by kernel_rfl) fun KK hKK => ?_
            go_simp
            refine (takesA_any vo vc m' MV x' y' co cl cc c w20 HLV.out.symm (HVW.out _ HZ20.out) (by unfold most; omega) HSV.out.1 HSV.out.2.1 (HCCW.out _ (HW14.out _ (HW45.out _ HZ20.out))) HCL.out (by omega)).mono ?_
            intro e w21 htk
            obtain ⟨rfl, ba⟩ := htk.tk HGV2.out
            rw [HTV.out]
            have HZ21 := hid (show Below w5.heap.size w5 w21 from HZ20.out.trans (ba.mono HZ20.out.size))
            refine hKK _ _ (fun _ => HS6.out _ HZ21.out) ?_
            clear hKK KK ba htk HZ20
            iterate 2 (refine mix_free ?_ rfl (by kernel_rfl) (fun w' hS => ?_) ?_; (rotate_left; (go_simp; with_reducible rfl); rotate_left))
            refine mix_end (NoPanic.normal ?_)
            obtain ⟨_, _, _, _, ⟨u0, u1, u2⟩, _, _, _⟩ := HS6.out _ HZ21.out
            go_wp2_with fail
            clear u0 u1 u2
            refine (spoil_keeps (sgd_and BV (.slice vo m' vc) m' RV p10 (.slice vo m' vc) (.int .i64 x') (.int .i64 y')) BU uo uc m x y RU w21 ((HGU.out.keep HZ21.out).spoils HSU.out.2.2.2.1) (by omega) (by have h1 := HBU.out; have h2 := HZ21.out.size; omega) ⟨(HGV.out.keep HZ21.out).spoils HSV.out.2.2.2.1, by rw [HZ21.out.block p10 (lt_of HJN.out.pv)]; exact HJN.out.pv⟩).mono ?_
            rintro e w22 ⟨rfl, ba, hsv, hpv⟩
            have HB22 := hid (show Below w4.heap.size w4 w22 from (HW45.out _ HZ21.out).trans (ba.mono HBU.out.1))
            have HS22 := hid (show w5.heap.size ≤ w22.heap.size from Nat.le_trans HZ21.out.size ba.size)
            obtain ⟨v0, v1, v2⟩ := box_3 hpv
            have HSPV := hid hsv
            clear ba hsv hpv HZ21
            go_wp2_with fail
            clear v0 v1 v2
            refine (spoil_any BV vo vc m' x' y' RV w22 HSPV.out (by omega) (by have h1 := HBV.out; have h2 := HS22.out; omega)).mono ?_
            rintro e w23 ⟨rfl, ba⟩
            have HB23 := hid (show Below w4.heap.size w4 w23 from HB22.out.trans (ba.mono HBV.out.1))
            clear ba HB22 HSPV
            obtain ⟨⟨a0, a1, a2⟩, ⟨b0, b1, b2⟩, ⟨c0, c1, c2⟩, d0, d1, d2⟩ := HCX.out _ HB23.out
            clear b0 b1 b2 d0 d1 d2
            go_wp2_with fail
            clear a0 a1 a2 c0 c1 c2
            refine (same_any xo so xc sc na A sa fa w23 HNA.out (HXW.out _ HB23.out) (HSAW.out _ (HW14.out _ HB23.out)) HMA.out (fun z hz => ⟨(HLA.out z hz).1, (HLA.out z hz).2.1⟩)).mono ?_
            rintro e w24 ⟨rfl, ba⟩
            have HB24 := hid (show Below w4.heap.size w4 w24 from HB23.out.trans (ba.mono HB23.out.size))
            clear ba HB23
            obtain ⟨⟨a0, a1, a2⟩, ⟨b0, b1, b2⟩, ⟨c0, c1, c2⟩, d0, d1, d2⟩ := HCX.out _ HB24.out
            clear a0 a1 a2 c0 c1 c2
            go_wp2_with fail
            clear b0 b1 b2 d0 d1 d2
            refine (same_any yo to yc tc nb B sb fb w24 HNB.out (HYW.out _ HB24.out) (HSBW.out _ (HW14.out _ HB24.out)) HMB.out (fun z hz => ⟨(HLB.out z hz).1, (HLB.out z hz).2.1⟩)).mono ?_
            rintro e w25 ⟨rfl, ba⟩
            have HB25 := hid (show Below w4.heap.size w4 w25 from HB24.out.trans (ba.mono HB24.out.size))
            clear ba HB24
            go_wp2_with fail
            refine (live_tb (HTW.out _ (HW14.out _ HB25.out)).1).mono ?_
            rintro e w26 ⟨rfl, ba⟩
            have HE := hid (HTW.out _ (HW14.out _ (HB25.out.trans (ba.mono HB25.out.size)))).2
            clear ba
            go_wp2
            go_ret
            exact ⟨rfl, HE.out⟩
end Go.Proofs.YteacehfihogmpaaDoor
