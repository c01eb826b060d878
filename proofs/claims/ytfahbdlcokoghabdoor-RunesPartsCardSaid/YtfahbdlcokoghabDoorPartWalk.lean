/- The walk of RunesParts. -/
import Derived.Test.YtfahbdlcokoghabDoorPartMath
import Derived.Test.YtfahbdlcokoghabDoorAnd
import Derived.Test.YtfahbdlcokoghabDoorTwNest
import Derived.Test.YtfahbdlcokoghabDoorTrim
namespace Go.Proofs.YtfahbdlcokoghabDoor
open Go.RowKit Go.Shelf
attribute [local go_sem] Oper.semAt_some

theorem eq_nilfP (lb : Array Value) (w : World) : (binOp .eql 35 (.func (.func 20) #[] lb) .nilFunc).run Tryd.prog w = .ok (.bool false) w := by kernel_rfl
attribute [local go_sem] eq_nilfP

/-- Whether no byte of what was looked at is invalid. -/
def okB (T : List Trp) : Bool := T.all fun x => (x.1 != 65533) || ((x.2.2 : Int) - (x.2.1 : Int) == 3)
theorem okB_okT {T : List Trp} (h : okB T = true) : okT T := fun x hx => by
  have := List.all_eq_true.1 h x hx
  rw [Bool.or_eq_true] at this
  rcases this with h | h
  · exact .inl (bne_iff_ne.1 h)
  · have := beq_iff_eq.1 h
    exact .inr (by omega)
theorem okB_snoc {T : List Trp} {k : Nat} {x : Trp} (hk : T[k]? = some x) : okB (T.take (k + 1)) = (okB (T.take k) && ((x.1 != 65533) || ((x.2.2 : Int) - (x.2.1 : Int) == 3))) := by
  have hlt := (List.getElem?_eq_some_iff.1 hk).1
  have hx := (List.getElem?_eq_some_iff.1 hk).2
  rw [List.take_succ_eq_append_getElem hlt, hx]
  unfold okB
  rw [List.all_append]
  simp
theorem txt_in (l : List UInt8) {k : Nat} {x : Trp} (h : (txt l)[k]? = some x) : x.2.1 ≤ l.length ∧ x.2.2 ≤ l.length := by
  obtain ⟨xs, ys, y, h1, h2, h3, h4, h5, h6⟩ := txt_at l k ((List.getElem?_eq_some_iff.1 h).1)
  rw [h] at h3
  injection h3 with h3
  subst h3
  dsimp only
  omega
theorem below_drewN {n : Nat} {w w' : World} (h : Below n w w') : ∀ k, Below n w (w'.drewN k)
  | 0 => h
  | k + 1 => (below_drewN h k).drew
theorem sgl_bd (l : List UInt8) : (nrm (sgl (plr l 0))).length ≤ l.length := by
  have h1 := nrm_len (sgl (plr l 0))
  have h2 := plr_len l l.length 0 (by omega)
  have h3 : (sgl (plr l 0)).length = (plr l 0).length := by simp [sgl]
  omega
/-- Runs that have come, as they lie in a row of numbers. -/
def flP {l : List UInt8} (pre : List (Tw l)) : List Value := flv (pre.map Subtype.val)
theorem flP_snoc {l : List UInt8} (pre : List (Tw l)) (x : Tw l) : flP (pre ++ [x]) = flP pre ++ [.int .i64 x.val.1, .int .i64 x.val.2] := by
  unfold flP; rw [List.map_append, flv_app]; rfl
theorem app_step {W w1 w0 : World} {A B C n m : Nat} {v v' : Value} {xs ys : List Value} {tmp : Obj} (hC : C = w0.heap.size) (hA : A ≤ B) (hBC : B < C)
    (hv : Boxed W B 33 v) (hrow : W.ownsRow C 3 1 v n xs) (hk : KpA B w0 W) (hb : Below A w0 W) (hown' : w1.ownsRow C 3 1 v' m ys) (hgrow : (W.alloc tmp).grownBy w1 v.ownBlock) :
    Boxed w1 B 33 v ∧ (Boxed (w1.setCell ⟨B, 0, none⟩ v') B 33 v' ∧ (w1.setCell ⟨B, 0, none⟩ v').ownsRow C 3 1 v' m ys) ∧ (KpA B w0 (w1.setCell ⟨B, 0, none⟩ v') ∧ Below A w0 (w1.setCell ⟨B, 0, none⟩ v')) ∧ KeepsOthers W (w1.setCell ⟨B, 0, none⟩ v') ∧ ∀ j, j < w0.heap.size → j ≠ B → (w1.setCell ⟨B, 0, none⟩ v').heap[j]? = W.heap[j]? := by
  have hs := hk.size
  obtain ⟨hv1, hv2, _, hk2, hb2⟩ := hv.appended (by decide) (ownsRow_base2 hrow (show A ≤ C by omega)) (by omega) hA (ownsRow_base2 hown' (show A ≤ C by omega)) hgrow
  have hr := hown'.kept (grownBy_setCell' w1 B v') (.inr (hv1.not_row (by decide) hown').symm)
  have same : ∀ j, j < w0.heap.size → j ≠ B → (w1.setCell ⟨B, 0, none⟩ v').heap[j]? = W.heap[j]? := fun j hj hjB =>
    (Below.heap_setCell _ ⟨B, 0, none⟩ _ j hjB).trans ((hgrow.block j (by simp; omega) (fun e => by have := (hrow.lt j e.symm).1; omega)).trans (Below.heap_alloc W tmp j (by omega)))
  refine ⟨hv1, ⟨hv2, hr⟩, ⟨⟨Nat.le_trans hs hk2.size, fun j hj hjB => (same j hj hjB).trans (hk.same j hj hjB), fun o ho hc => ?_⟩, hb.trans (hb2.mono (Nat.le_refl _))⟩, hk2, same⟩
  have h := hk.others o ho hc
  have e : W.heap[B]? = _ := hv
  rw [e] at h
  cases h
  cases hc
theorem kr_box33 {Bs Bl B : Nat} {l : List UInt8} {so : Option Addr} {sc : Nat} {s : List Rg} {v : Value} {W : World} (h : RunsAt Bs Bl l so sc s W) (hb : Boxed W B 33 v) : ∀ k, KR Bs Bl so k → k ≠ B := fun k hk e => by
  subst e
  rcases hk with rfl | rfl | ⟨a, h1, rfl⟩
  · have := h.bs; unfold Boxed at this hb; rw [hb] at this; cases this
  · have := h.bl; unfold Boxed at this hb; rw [hb] at this; cases this
  · obtain ⟨c, fz, hc⟩ := h.row a h1
    unfold Boxed at hb; rw [hb] at hc; cases hc
theorem flv_get : ∀ (ys : List (Nat × Nat)) (k : Nat) (y : Nat × Nat), ys[k]? = some y → (flv ys)[2 * k]? = some (.int .i64 y.1) ∧ (flv ys)[2 * k + 1]? = some (.int .i64 y.2)
  | [], _, _, h => by cases h
  | x :: t, 0, y, h => by cases h; exact ⟨rfl, rfl⟩
  | x :: t, k + 1, y, h => by
    have ih := flv_get t k y h
    have e : flv (x :: t) = .int .i64 x.1 :: .int .i64 x.2 :: flv t := rfl
    rw [e, show 2 * (k + 1) = 2 * k + 1 + 1 by omega]
    exact ih
theorem tws_val (l : List UInt8) : ∀ (ys : List (Nat × Nat)), okR l.length ys → (tws l ys).map Subtype.val = ys
  | [], _ => rfl
  | y :: t, h => by
    rw [tws_cons l y t (h y (by simp)), List.map_cons, tws_val l t (fun x hx => h x (by simp [hx]))]
/-- A slice of numbers that reads as runs. -/
def SlR (B : Nat) (W : World) (v : Value) (A : List (Nat × Nat)) : Prop :=
  ∃ ao ac, v = .slice ao (2 * A.length) ac ∧ 2 * A.length ≤ ac ∧ ∀ (j : Nat) (x : Nat × Nat), A[j]? = some x → ∃ g o, ao = some ⟨g, o, none⟩ ∧ B + 2 ≤ g ∧ g < W.heap.size ∧ W.cell? ⟨g, o + 2 * j, none⟩ = some (.int .i64 x.1) ∧ W.cell? ⟨g, o + 2 * j + 1, none⟩ = some (.int .i64 x.2)
theorem cell_heap {W W' : World} {g o : Nat} (h : W'.heap[g]? = W.heap[g]?) : W'.cell? ⟨g, o, none⟩ = W.cell? ⟨g, o, none⟩ := by
  unfold World.cell?
  dsimp only
  rw [h]
theorem slr_keep {B : Nat} {W W' : World} {v : Value} {A : List (Nat × Nat)} (h : SlR B W v A) (hs : W.heap.size ≤ W'.heap.size) (hk : ∀ j, B + 2 ≤ j → j < W.heap.size → W'.heap[j]? = W.heap[j]?) : SlR B W' v A := by
  obtain ⟨ao, ac, h1, h2, h3⟩ := h
  refine ⟨ao, ac, h1, h2, fun j x hj => ?_⟩
  obtain ⟨g, o, e1, e2, e3, e4, e5⟩ := h3 j x hj
  exact ⟨g, o, e1, e2, by omega, (cell_heap (hk g e2 e3)).trans e4, (cell_heap (hk g e2 e3)).trans e5⟩
theorem slr_mono {B : Nat} {W W' : World} {v : Value} {A : List (Nat × Nat)} (h : SlR B W v A) (hk : KpA (B + 1) W W') (_ : W.heap.size ≤ W.heap.size) : SlR B W' v A :=
  slr_keep h hk.size (fun j h1 h2 => hk.same j h2 (by omega))
theorem slr_row {p : Int → Bool} {t : List UInt8} {L : List (Tw t)} {B C : Nat} {W : World} {v : Value} (hL : L = rst p t none 0) (h : W.ownsRow C 3 1 v (2 * L.length) (flP L)) (hBC : B + 2 ≤ C) : SlR B W v (rnA p t 0) := by
  have hm : L.map Subtype.val = rnA p t 0 := by rw [hL]; exact tws_val t (rnl p t) (rnl_ok p t)
  have hlen : L.length = (rnA p t 0).length := by rw [← hm, List.length_map]
  have hfl : flP L = flv (rnA p t 0) := by unfold flP; rw [hm]
  rw [hfl, hlen] at h
  rcases h.2 with ⟨h1, h2⟩ | ⟨g, cap, cur, h1, h2, h3, h4, h5, h6, h7⟩
  · have e : rnA p t 0 = [] := List.length_eq_zero_iff.1 (by omega)
    rw [e]
    exact ⟨none, 0, h1, Nat.le_refl _, fun j x hj => by cases hj⟩
  · refine ⟨some ⟨g, 0, none⟩, cap, h1, by omega, fun j x hj => ⟨g, 0, rfl, by omega, (Array.getElem?_eq_some_iff.1 h3).1, ?_⟩⟩
    obtain ⟨e1, e2⟩ := flv_get _ j x hj
    have hc : ∀ j u, (flv (rnA p t 0))[j]? = some u → W.cell? ⟨g, j, none⟩ = some u := fun j u hj => by
      have := h.cells (g := g) (by rw [h1]; rfl) j u hj
      rw [show (⟨g, 0, none⟩ : Addr).add j = ⟨g, j, none⟩ by unfold Addr.add; split <;> simp_all] at this
      exact this
    rw [Nat.zero_add]
    exact ⟨hc _ _ e1, hc _ _ e2⟩
theorem slr_tail {B : Nat} {W : World} {g o n ac : Nat} {x : Nat × Nat} {A : List (Nat × Nat)} (hn : n = A.length) (h : SlR B W (.slice (some ⟨g, o, none⟩) (2 * n + 2) ac) (x :: A)) : SlR B W (.slice (some ⟨g, o + 2, none⟩) (2 * n) (ac - 2)) A := by
  obtain ⟨ao, ac', h1, h2, h3⟩ := h
  injection h1 with e1 _ e3
  subst e1 e3 hn
  rw [List.length_cons] at h2
  refine ⟨_, _, rfl, by omega, fun j y hj => ?_⟩
  obtain ⟨g', o', e1, e2, e3, e4, e5⟩ := h3 (j + 1) y hj
  cases e1
  refine ⟨g, o + 2, rfl, e2, e3, ?_, ?_⟩
  · rw [show o + 2 + 2 * j = o + 2 * (j + 1) by omega]; exact e4
  · rw [show o + 2 + 2 * j + 1 = o + 2 * (j + 1) + 1 by omega]; exact e5
theorem slr_cons {B : Nat} {W : World} {v : Value} {x : Nat × Nat} {A : List (Nat × Nat)} (h : SlR B W v (x :: A)) : ∃ g o ac, v = .slice (some ⟨g, o, none⟩) (2 * A.length + 2) ac ∧ 2 * A.length + 2 ≤ ac ∧ B + 2 ≤ g ∧ g < W.heap.size ∧ W.cell? ⟨g, o, none⟩ = some (.int .i64 x.1) ∧ W.cell? ⟨g, o + 1, none⟩ = some (.int .i64 x.2) := by
  obtain ⟨ao, ac, h1, h2, h3⟩ := h
  obtain ⟨g, o, e1, e2, e3, e4, e5⟩ := h3 0 x rfl
  subst e1
  rw [Nat.mul_zero, Nat.add_zero] at e4 e5
  rw [List.length_cons] at h1 h2
  exact ⟨g, o, ac, h1.trans (by rw [Nat.mul_succ]), by omega, e2, e3, e4, e5⟩
theorem slr_set {B k : Nat} {W : World} {v u : Value} {A : List (Nat × Nat)} (h : SlR B W v A) (hk : k < B + 2) : SlR B (W.setCell ⟨k, 0, none⟩ u) v A :=
  slr_keep h (by simp) (fun j h1 _ => Below.heap_setCell W ⟨k, 0, none⟩ u j (by show j ≠ k; omega))
theorem rnA_len (p : Int → Bool) (t : List UInt8) (u : Nat) : (rnA p t u).length ≤ t.length + 1 := by
  have h1 := rnF_len p t.length (plr t u) none
  have h2 := plr_len t t.length u (by omega)
  unfold rnA
  omega
theorem slr_nil (B : Nat) (W : World) (q : Option Addr) (n c : Nat) (hn : n = 0) : SlR B W (.slice q (2 * n) c) [] := by
  subst hn
  exact ⟨q, c, rfl, by simp, fun j x hj => by cases hj⟩
theorem slr_head {B : Nat} {W : World} {g o n c : Nat} {x : Nat × Nat} {A : List (Nat × Nat)} (h : SlR B W (.slice (some ⟨g, o, none⟩) n c) (x :: A)) : W.cell? ⟨g, o, none⟩ = some (.int .i64 x.1) := by
  obtain ⟨g', o', ac', hsl, _, _, _, z0, _⟩ := slr_cons h
  injection hsl with hsl _ _
  injection hsl with hsl
  injection hsl with h1 h2 _
  subst h1 h2
  exact z0

set_option maxHeartbeats 2000000 in
set_option maxRecDepth 100000 in
theorem part_in (t : List UInt8) (lo : Option Addr) (lc : Nat) (l : List Rg) (w : World) (hT : Lib.Utf8Tabs 0 1 w) (h2 : 2 ≤ w.heap.size) (hl : RdR w lo l) (h1 : ¬ (20000 : Int) < t.length) (h3 : ¬ (60 : Int) < l.length) :
    CallsIn Fence.wide 9 Tryd.prog 3 #[.string ⟨t.toArray⟩, .slice lo l.length lc] w fun e w' => e = .returned (.bool true) ∧ Below w.heap.size w w' := by
  have HT := hid hT
  have HL := hid hl
  have hnt := nt_len l
  have HNO := hid (not_any lo lc l w hl (by omega))
  clear hT hl
  refine callsIn_of_wp_marks Tryd.func3 rfl trivial ?_ rfl
  simp only [Tryd.ntmps3, List.size_toArray, List.length_cons, List.length_nil, Nat.reduceAdd, Nat.reduceSub, Array.replicate_succ, Array.replicate_zero, List.push_toArray, List.append_toArray, List.nil_append, List.cons_append]
  refine wpIn_wide.2 ?_
  go_wp2_with fail
  refine HNO.out.mono ?_
  rintro e w1 ⟨v1, rfl, o1, hb1⟩
  obtain ⟨no, nc, rfl, hr1⟩ := rdr_row o1
  have HN1 := hid hr1
  have HB1 := hid hb1
  have hs1 := hb1.size
  obtain ⟨KS, hKS⟩ : ∃ KS, KS = rkp (fun r => hasB r (nrm l)) t (txt t) := ⟨_, rfl⟩
  obtain ⟨KT, hKT⟩ : ∃ KT, KT = rkp (fun r => hasB r (nrm (nt l))) t (txt t) := ⟨_, rfl⟩
  have hkl := keep_lens l t
  rw [← hKS, ← hKT] at hkl
  have HK1 := hid (show Calls Tryd.prog 7 #[.string ⟨t.toArray⟩, .slice lo l.length lc] w1 (fun e w' => e = .returned (.string ⟨KS.toArray⟩) ∧ Below w1.heap.size w1 w') by have h := keep_any t lo lc l w1 (HL.out.below hb1) (by omega) (by omega); rw [keep_same, ← hKS] at h; exact h)
  have HK2 := hid (fun W hW => show Calls Tryd.prog 7 #[.string ⟨t.toArray⟩, .slice no (nt l).length nc] W (fun e w' => e = .returned (.string ⟨KT.toArray⟩) ∧ Below W.heap.size W w') by have h := keep_any t no nc (nt l) W (HN1.out.below hW) (by omega) (by omega); rw [keep_same, ← hKT] at h; exact h)
  have HKS := hid hKS
  clear o1 hb1 hr1 HNO hKS hKT
  go_wp2_with fail
  refine HK1.out.mono ?_
  rintro e w2 ⟨rfl, hb2⟩
  have HB2 := hid hb2
  have hs2 := hb2.size
  clear hb2 HK1
  go_wp2_with fail
  refine (HK2.out _ HB2.out).mono ?_
  rintro e w3 ⟨rfl, hb3⟩
  have HB3 := hid (HB2.out.trans (hb3.mono hs2))
  have hs3 := HB3.out.size
  have tk : (KS.length : Int) + (KT.length : Int) = (t.length : Int) := by omega
  have HRR := hid (rrunes_rd t w3 (by omega))
  clear hb3 HK2 HB2
  go_wp2_with fail
  refine HRR.out.mono ?_
  rintro e w4 ⟨xo, xc, rfl, hr4, hb4⟩
  have HB4 := hid (HB3.out.trans (hb4.mono hs3))
  have hs4 := HB4.out.size
  have HR4 := hid hr4
  have hcl : (txt t).length ≤ t.length := by unfold txt; rw [cls_len]; have := plr_len t t.length 0 (by omega); omega
  clear hb4 hr4 HRR HB3
  go_wp2_with fail
  obtain ⟨m, hm⟩ : ∃ m, m = (txt t).length := ⟨_, rfl⟩
  rw [← hm] at hcl
  have HM := hid hm
  clear hm
  rw [← HM.out]
  go_loopw [7, 9] (fun va i wr => ∃ j : Nat, i = .int .i64 (j : Int) ∧ j ≤ m ∧ va = .bool (okB ((txt t).take j)) ∧ Hid (Below w4.heap.size w4 wr)) (fun _ i _ => m - (intOf i).toNat)
  case atStart => exact ⟨0, rfl, by omega, rfl, Below.refl _ _⟩
  case round =>
    obtain ⟨j, rfl, hj, rfl, HBr⟩ := hrel
    by_cases hlt : j < m
    · obtain ⟨x, hx⟩ : ∃ x, (txt t)[j]? = some x := ⟨_, List.getElem?_eq_getElem (by rw [← HM.out]; exact hlt)⟩
      have HSN := hid (okB_snoc hx)
      obtain ⟨g, rfl, hgl, c0, c1, c2⟩ := (HR4.out.below HBr.out) j x hx
      have tj : (j : Int) < (m : Int) := by omega
      have tj0 : (0 : Int) ≤ (j : Int) := by omega
      obtain ⟨r, fr, tw⟩ := x
      dsimp only at HSN c0 c1 c2
      have htx := txt_in t hx
      dsimp only at htx
      cases hb : okB ((txt t).take j) with
      | true =>
        rw [hb, Bool.true_and] at HSN
        by_cases e1 : r = 65533
        · subst e1
          have HS2 := hid (show okB ((txt t).take (j + 1)) = ((tw : Int) - (fr : Int) == 3) from HSN.out)
          have ew : IntKind.i64.wrap ((tw : Int) - (fr : Int)) = (tw : Int) - (fr : Int) := by rw [IntKind.wrap_i64]; omega
          clear HSN hx
          go_wp2_with fail
          go_quiet (fail)
          go_wp2
          go_roundw
          case rel => exact ⟨j + 1, by go_num, by omega, by rw [HS2.out], below_drewN HBr.out _⟩
          case measure => simp [intOf]; omega
        · have HS2 := hid (show okB ((txt t).take (j + 1)) = true by rw [HSN.out, bne_iff_ne.2 e1]; rfl)
          have e1' : (r != 65533) = true := bne_iff_ne.2 e1
          clear HSN hx
          go_wp2_with fail
          go_quiet (fail)
          go_wp2
          go_roundw
          case rel => exact ⟨j + 1, by go_num, by omega, by rw [HS2.out], below_drewN HBr.out _⟩
          case measure => simp [intOf]; omega
      | false =>
        rw [hb, Bool.false_and] at HSN
        clear hx
        go_wp2_with fail
        go_quiet (fail)
        go_wp2
        go_roundw
        case rel => exact ⟨j + 1, by go_num, by omega, by rw [HSN.out], below_drewN HBr.out _⟩
        case measure => simp [intOf]; omega
    · have hjm : j = m := by omega
      have HV := hid (show okB ((txt t).take j) = okB (txt t) by rw [List.take_of_length_le (by rw [← HM.out]; omega)])
      have tj : ¬ (j : Int) < (m : Int) := by omega
      rw [HV.out]
      have HB5 := hid (HB4.out.trans (HBr.out.mono (by omega)))
      have hs5 := HB5.out.size
      clear HV HBr HB4 hjm
      cases hv : okB (txt t) with
      | true =>
        have hok := okB_okT hv
        have hofk := of_keep l t hok
        rw [← HKS.out] at hofk
        clear hv hok
        have HO1 := hid (fun W => of_any KS W (by omega))
        have HO2 := hid (fun W => of_any t W (by omega))
        obtain ⟨sa, hsa⟩ : ∃ sa, sa = nrm (sgl (plr KS 0)) := ⟨_, rfl⟩
        obtain ⟨sb, hsb⟩ : ∃ sb, sb = nrm (sgl (plr t 0)) := ⟨_, rfl⟩
        have hsbl : sb.length ≤ 20000 := by rw [hsb]; have := sgl_bd t; omega
        have hsal : sa.length ≤ 20000 := by rw [hsa]; have := sgl_bd KS; omega
        rw [← hsa, ← hsb] at hofk
        rw [← hsa] at HO1
        rw [← hsb] at HO2
        have HOF := hid hofk
        clear hsa hsb hofk
        go_wp2_with fail
        refine (HO1.out _).mono ?_
        rintro e w6 ⟨v6, rfl, o6, hb6⟩
        obtain ⟨ko, kc, rfl, hr6⟩ := rdr_row o6
        have HB6 := hid (HB5.out.trans (hb6.mono hs5))
        have hs6 := HB6.out.size
        have HR6 := hid hr6
        clear o6 hb6 hr6 HO1
        go_wp2_with fail
        refine (HO2.out _).mono ?_
        rintro e w7 ⟨v7, rfl, o7, hb7⟩
        obtain ⟨to', tc, rfl, hr7⟩ := rdr_row o7
        have HB7 := hid (HB6.out.trans (hb7.mono hs6))
        have hs7 := HB7.out.size
        have HR6' := hid (HR6.out.below hb7)
        have HAN := hid (and_any to' lo tc lc sb l w7 hr7 (HL.out.below (HB1.out.trans (HB7.out.mono hs1))) (by omega) (by omega))
        rw [← HOF.out] at HAN
        clear o7 hb7 hr7 HO2 HB6 HR6
        go_wp2_with fail
        refine HAN.out.mono ?_
        rintro e w8 ⟨v8, rfl, o8, hb8⟩
        obtain ⟨ao, ac, rfl, hr8⟩ := rdr_row o8
        have HB8 := hid (HB7.out.trans (hb8.mono hs7))
        have hs8 := HB8.out.size
        have HSA := hid (same_eq ko ao kc ac sa sa true (decide_eq_true rfl) w8 (HR6'.out.below hb8) hr8 (by omega))
        clear o8 hb8 hr8 HAN HB7 HR6'
        go_wp2_with fail
        refine HSA.out.mono ?_
        rintro e w9 ⟨rfl, hb9⟩
        have HB9 := hid (HB8.out.trans (hb9.mono hs8))
        have hs9 := HB9.out.size
        clear hb9 HSA HB8 HB5 hs5 hs6 hs7 hs8 hsal hsbl
        go_wp2_with fail
        obtain ⟨W9, hW9⟩ : ∃ W9, W9 = w9 := ⟨_, rfl⟩
        rw [← hW9] at HB9 hs9 ⊢
        clear hW9 w9
        obtain ⟨B, hB⟩ : ∃ B, B = W9.heap.size := ⟨_, rfl⟩
        obtain ⟨U, hU⟩ : ∃ U, U = (W9.alloc (.cells #[.slice none 0 0] 33)).alloc (.cells #[.slice none 0 0] 33) := ⟨_, rfl⟩
        have hUs : U.heap.size = B + 2 := by rw [hU, hB]; simp
        have HUa := hid (show Boxed U B 33 (.slice none 0 0) by rw [hU, hB]; exact (Boxed.new W9 33 (.slice none 0 0)).alloc _)
        have HUb := hid (show Boxed U (B + 1) 33 (.slice none 0 0) by rw [hU, hB]; have h := Boxed.new (W9.alloc (.cells #[.slice none 0 0] 33)) 33 (.slice none 0 0); simp only [World.size_alloc] at h; exact h)
        have HBU := hid (show Below w1.heap.size w1 U by rw [hU]; exact (HB9.out.alloc (by omega) _).alloc (by simp; omega) _)
        have hw1B : w1.heap.size ≤ B := by omega
        have hUle : B + 2 ≤ U.heap.size := by omega
        have HRX := hid (runs_any t lo lc l U (HL.out.below (HB1.out.trans (HBU.out.mono hs1))) (by omega))
        rw [← hU, ← hB]
        clear hU HB9 hB hUs
        refine HRX.out.mono ?_
        rintro e wa ⟨Bs, Bl, so, sc, rfl, hRa, hba⟩
        have hsa := hba.size
        have HRY := hid (runs_any t no nc (nt l) wa (HN1.out.below (HBU.out.trans (hba.mono (by omega)))) (by omega))
        have HBa := hid hba
        have HRa := hid hRa
        clear hba hRa HRX
        go_wp2_with fail
        refine HRY.out.mono ?_
        rintro e wb ⟨Bt, Bm, so2, sc2, rfl, hRb, hbb⟩
        have hsb := hbb.size
        have HRb := hid hRb
        have HRa2 := hid (HRa.out.below hbb (Nat.le_refl _))
        have HBb := hid (show Below B U wb from (HBa.out.mono (by omega)).trans (hbb.mono (by omega)))
        have HXa := hid (show Boxed wb B 33 (.slice none 0 0) from boxed_bl (boxed_bl HUa.out HBa.out (by omega)) hbb (by omega))
        have HXb := hid (show Boxed wb (B + 1) 33 (.slice none 0 0) from boxed_bl (boxed_bl HUb.out HBa.out (by omega)) hbb (by omega))
        clear hbb hRb HRY HRa HBa HUa HUb
        go_wp2_with fail
        have hBC : B + 2 ≤ wb.heap.size := by omega
        have HKB := hid (fun k hk => kr_box33 HRa2.out HXa.out k hk)
        have HL1 := hid (rnl_len (fun r => hasB r (nrm l)) t)
        have HL2 := hid (rnl_len (fun r => hasB r (nrm (nt l))) t)
        obtain ⟨L1, hL1⟩ : ∃ L1, L1 = rst (fun r => hasB r (nrm l)) t none 0 := ⟨_, rfl⟩
        obtain ⟨L2, hL2⟩ : ∃ L2, L2 = rst (fun r => hasB r (nrm (nt l))) t none 0 := ⟨_, rfl⟩
        have hl1 : L1.length ≤ 20001 := by rw [hL1]; have := HL1.out; unfold rst; unfold rnl at this; omega
        have hl2 : L2.length ≤ 20001 := by rw [hL2]; have := HL2.out; unfold rst; unfold rnl at this; omega
        have HLE1 := hid hL1
        have HLE2 := hid hL2
        clear HL1 HL2 hL1 hL2
        obtain ⟨i0, hi, hz0, hz1, hz2⟩ := info_parts Tryd.info3
        refine (wpIn_wide (n := 9)).1 ?_
        refine rfT_H (K := KR Bs Bl so) (L := L1) rfl (by omega) (gf := 20) (lb := #[.pointer (some ⟨Bs, 0, none⟩), .pointer (some ⟨Bl, 0, none⟩)]) rfl trivial (enters_of Tryd.func20 (by kernel_rfl) rfl)
          (by rw [HLE1.out]; exact runs_stops _ (by omega) Bs Bl t so sc (nrm l) wb HRa2.out (nrm_nf _) (by have := nrm_len l; omega)) HRa2.out.lt (Below.refl _ _) rfl 2 14 15
          (fun pre W => (∃ v, Boxed W B 33 v ∧ W.ownsRow wb.heap.size 3 1 v (2 * pre.length) (flP pre) ∧ True) ∧ (KpA B wb W ∧ Below B wb W))
          (fun _ _ => False)
          (OwnFrom.and (Own.from (holdsRow_own wb.heap.size B 33 3 1 (fun pre : List (Tw t) => 2 * pre.length) (fun pre => flP pre) (fun _ _ => True)) _) (OwnFrom.and (ownFrom_kpA (Nat.le_refl _)) (ownFrom_below (by omega) (by omega))))
          (fun _ _ _ _ h _ _ => h)
          ⟨⟨_, HXa.out, World.ownsRow_nil _ _ _ _, trivial⟩, KpA.refl _ _, Below.refl _ _⟩ ?assign ?body
          (fun W => (∃ v, Boxed W B 33 v ∧ W.ownsRow wb.heap.size 3 1 v (2 * L1.length) (flP L1) ∧ True) ∧ (KpA B wb W ∧ Below B wb W)) (fun _ h => h) (fun _ _ _ h => h.elim) (fun _ _ h => h) ?fin
        case assign =>
          intro lp x W K hK
          dsimp only [encR]
          gi_wp2
          refine Eq.mp (congrArg (fun a => K a W) ?_) hK
          simp [frT, encR]
        case body =>
          rintro lp pre x W hlp _ ⟨⟨v, hv, hrow, _⟩, hkp, hbw⟩ hlt
          have hc := hv.cell
          have hsw := hkp.size
          have HSN := hid (flP_snoc pre x)
          obtain ⟨x1, hxa⟩ : ∃ x1, x.val.1 = x1 := ⟨_, rfl⟩
          obtain ⟨x2, hxb⟩ : ∃ x2, x.val.2 = x2 := ⟨_, rfl⟩
          rw [hxa, hxb] at HSN
          dsimp only [frT, encR]
          rw [hxa, hxb]
          have HV := hid hv
          have HROW := hid hrow
          have HKP := hid hkp
          have HBW := hid hbw
          clear hxa hxb hv hrow hkp hbw
          gi_wp2_with (gi_at_builtin; refine wpListIn_append_own _ rfl _ _ 33 rfl wb.heap.size 3 i0 (.int .i64 0) 1 8 Tryd.underlying33 hi hz0 hz1 hz2 rfl (by decide) _ _ _ rfl (HROW.out.alloc _) ⟨W.heap.size, 0, none⟩ 2 2 [.int .i64 x1, .int .i64 x2] rfl rfl (news_2 W _ _ _) (by simp [Value.oneCell']) (by unfold maxLen; omega) (by omega) (by simp; omega) ?_; intro v' w3 hown' hgrow _; obtain ⟨g', cap', rfl⟩ := ownsRow_succ hown'; obtain ⟨hv1, hv2, hkb, hk2, hsm⟩ := app_step rfl (Nat.le_refl B) (by omega) HV.out HROW.out HKP.out HBW.out hown' hgrow; have hc1 := hv1.cell; have hf1 := hv1.frozen; have HF := hid (And.intro hv2 (And.intro hkb (And.intro hk2 hsm))); clear hv1 hv2 hkb hk2 hsm hown' hgrow)
          obtain ⟨⟨hv2, hr2⟩, hkb, hk2, hsm⟩ := HF.out
          exact ⟨hk2.from _, ⟨⟨hk2.size, fun k o h hw => hk2.same k o h (Obj.not_cells_of_walk hw)⟩, fun k hk => hsm k (HRa2.out.lt k hk) (HKB.out k hk)⟩, ⟨⟨_, hv2, by rw [HSN.out, List.length_append]; exact hr2, trivial⟩, hkb⟩⟩
        case fin =>
          rintro D W hD ⟨⟨v, hv, hrow, _⟩, hkp, hbw⟩ hDK
          obtain ⟨W1, hW1⟩ : ∃ W1, W1 = W := ⟨_, rfl⟩
          rw [← hW1] at hv hrow hkp hbw hDK ⊢
          clear hW1 W
          have hsw := hkp.size
          have HVa := hid hv
          have HROWa := hid hrow
          have HD1 := hid hDK
          have hD1 : D < W1.heap.size := (Array.getElem?_eq_some_iff.1 hDK).1
          have HRb1 := hid (HRb.out.keeps hkp.size (fun k hk => hkp.same k (HRb.out.lt k hk) (kr_box33 HRb.out HXa.out k hk)))
          have HXb1 := hid (show Boxed W1 (B + 1) 33 (.slice none 0 0) from (hkp.same (B + 1) (by omega) (by omega)).trans HXb.out)
          have HBW1 := hid hbw
          clear hv hrow hkp hbw hDK
          go_wp2_with fail
          refine (wpIn_wide (n := 9)).1 ?_
          refine rfT_H (K := KR Bt Bm so2) (L := L2) rfl (by omega) (gf := 20) (lb := #[.pointer (some ⟨Bt, 0, none⟩), .pointer (some ⟨Bm, 0, none⟩)]) rfl trivial (enters_of Tryd.func20 (by kernel_rfl) rfl)
            (by rw [HLE2.out]; exact runs_stops _ (by omega) Bt Bm t so2 sc2 (nrm (nt l)) W1 HRb1.out (nrm_nf _) (by have := nrm_len (nt l); omega)) HRb1.out.lt (Below.refl _ _) rfl 4 16 17
            (fun pre W => (∃ v, Boxed W (B + 1) 33 v ∧ W.ownsRow W1.heap.size 3 1 v (2 * pre.length) (flP pre) ∧ True) ∧ (KpA (B + 1) W1 W ∧ Below B W1 W))
            (fun _ _ => False)
            (OwnFrom.and (Own.from (holdsRow_own W1.heap.size (B + 1) 33 3 1 (fun pre : List (Tw t) => 2 * pre.length) (fun pre => flP pre) (fun _ _ => True)) _) (OwnFrom.and (ownFrom_kpA (Nat.le_refl _)) (ownFrom_below (by omega) (by omega))))
            (fun _ _ _ _ h _ _ => h)
            ⟨⟨_, HXb1.out, World.ownsRow_nil _ _ _ _, trivial⟩, KpA.refl _ _, Below.refl _ _⟩ ?assign2 ?body2
            (fun W => (∃ v, Boxed W (B + 1) 33 v ∧ W.ownsRow W1.heap.size 3 1 v (2 * L2.length) (flP L2) ∧ True) ∧ (KpA (B + 1) W1 W ∧ Below B W1 W)) (fun _ h => h) (fun _ _ _ h => h.elim) (fun _ _ h => h) ?fin2
          case assign2 =>
            intro lp x W K hK
            dsimp only [encR]
            gi_wp2
            refine Eq.mp (congrArg (fun a => K a W) ?_) hK
            simp [frT, encR]
          case body2 =>
            rintro lp pre x W hlp _ ⟨⟨v, hv, hrow, _⟩, hkp, hbw⟩ hlt
            have hc := hv.cell
            have hsw := hkp.size
            have HSN := hid (flP_snoc pre x)
            obtain ⟨x1, hxa⟩ : ∃ x1, x.val.1 = x1 := ⟨_, rfl⟩
            obtain ⟨x2, hxb⟩ : ∃ x2, x.val.2 = x2 := ⟨_, rfl⟩
            rw [hxa, hxb] at HSN
            dsimp only [frT, encR]
            rw [hxa, hxb]
            have HV := hid hv
            have HROW := hid hrow
            have HKP := hid hkp
            have HBW := hid hbw
            clear hxa hxb hv hrow hkp hbw
            gi_wp2_with (gi_at_builtin; refine wpListIn_append_own _ rfl _ _ 33 rfl W1.heap.size 3 i0 (.int .i64 0) 1 8 Tryd.underlying33 hi hz0 hz1 hz2 rfl (by decide) _ _ _ rfl (HROW.out.alloc _) ⟨W.heap.size, 0, none⟩ 2 2 [.int .i64 x1, .int .i64 x2] rfl rfl (news_2 W _ _ _) (by simp [Value.oneCell']) (by unfold maxLen; omega) (by omega) (by simp; omega) ?_; intro v' w3 hown' hgrow _; obtain ⟨g', cap', rfl⟩ := ownsRow_succ hown'; obtain ⟨hv1, hv2, hkb, hk2, hsm⟩ := app_step rfl (show B ≤ B + 1 by omega) (by omega) HV.out HROW.out HKP.out HBW.out hown' hgrow; have hc1 := hv1.cell; have hf1 := hv1.frozen; have HF := hid (And.intro hv2 (And.intro hkb (And.intro hk2 hsm))); clear hv1 hv2 hkb hk2 hsm hown' hgrow)
            obtain ⟨⟨hv2, hr2⟩, hkb, hk2, hsm⟩ := HF.out
            exact ⟨hk2.from _, ⟨⟨hk2.size, fun k o h hw => hk2.same k o h (Obj.not_cells_of_walk hw)⟩, fun k hk => hsm k (HRb1.out.lt k hk) (kr_box33 HRb1.out HXb1.out k hk)⟩, ⟨⟨_, hv2, by rw [HSN.out, List.length_append]; exact hr2, trivial⟩, hkb⟩⟩
          case fin2 =>
            rintro D2 W hD2 ⟨⟨v2, hv2, hrow2, _⟩, hkp, hbw⟩ hDK2
            obtain ⟨W2, hW2⟩ : ∃ W2, W2 = W := ⟨_, rfl⟩
            rw [← hW2] at hv2 hrow2 hkp hbw hDK2 ⊢
            clear hW2 W
            have hsw2 := hkp.size
            have hD2 : D2 < W2.heap.size := (Array.getElem?_eq_some_iff.1 hDK2).1
            have HVa2 := hid (show Boxed W2 B 33 v from (hkp.same B (by omega) (by omega)).trans HVa.out)
            have HVb2 := hid hv2
            have HDa := hid (show W2.heap[D]? = some (.deferred (some [])) from (hkp.same D hD1 (fun e => by have h1 := HD1.out; have h2 : W1.heap[B + 1]? = _ := HXb1.out; rw [e, h2] at h1; cases h1)).trans HD1.out)
            have HDb := hid hDK2
            have HSa := hid (slr_mono (slr_row HLE1.out HROWa.out (show B + 2 ≤ wb.heap.size by omega)) hkp (by omega))
            have HSb := hid (slr_row HLE2.out hrow2 (show B + 2 ≤ W1.heap.size by omega))
            have HBW2 := hid (HBb.out.trans ((HBW1.out.trans hbw).mono (Nat.le_refl _)))
            have hDne : D ≠ D2 := by omega
            clear hv2 hrow2 hkp hbw hDK2 HROWa HVa HD1 HXb1 HRb1 HBW1 HLE1 HLE2 HRb HRa2 HKB HXa HXb HBb
            go_wp2_with fail
            go_loopw [18] (fun x wr => ∃ (u : Nat) (va vb : Value), x = .int .i64 (u : Int) ∧ u ≤ t.length ∧ Hid (Boxed wr B 33 va) ∧ Hid (Boxed wr (B + 1) 33 vb) ∧ Hid (SlR B wr va (rnA (fun r => hasB r (nrm l)) t u)) ∧ Hid (SlR B wr vb (rnA (fun r => hasB r (nrm (nt l))) t u)) ∧ Hid (Below B W2 wr) ∧ Hid (wr.heap[D]? = some (.deferred (some []))) ∧ Hid (wr.heap[D2]? = some (.deferred (some [])))) (fun x _ => t.length - (intOf x).toNat)
            case atStart => exact ⟨0, v, v2, rfl, by omega, HVa2, HVb2, HSa, HSb, Below.refl _ _, HDa, HDb⟩
            case round =>
              obtain ⟨u, va, vb, rfl, hu, HQa, HQb, HSA, HSB, HBQ, HDA, HDB⟩ := hrel
              by_cases hlt : u < t.length
              · rcases part_step (fun r => hasB r (nrm l)) (fun r => hasB r (nrm (nt l))) t u hlt (fun x h0 h1 => both_sides l x h0 h1) with ⟨e, a1, a2, a3, a4, a5⟩ | ⟨e, a1, a2, a3, a4, a5, a6⟩
                · rw [a3] at HSA
                  rw [a4] at HSB
                  obtain ⟨g, o, ac, rfl, hac, hg1, hg2, y0, y1⟩ := slr_cons HSA.out
                  dsimp only at y0 y1
                  have HA5 := hid a5
                  have hAl := rnA_len (fun r => hasB r (nrm l)) t e
                  obtain ⟨A, hA⟩ : ∃ A, A = rnA (fun r => hasB r (nrm l)) t e := ⟨_, rfl⟩
                  rw [← hA] at HSA HA5 hac HQa hAl
                  have HEA := hid hA
                  have hbl := rnA_len (fun r => hasB r (nrm (nt l))) t e
                  obtain ⟨bo, bc, hvb, hbc, hb3⟩ := HSB.out
                  obtain ⟨nb, hnb⟩ : ∃ nb, nb = 2 * (rnA (fun r => hasB r (nrm (nt l))) t e).length := ⟨_, rfl⟩
                  have hnb9 : nb ≤ 60000 := by omega
                  rw [← hnb] at hvb
                  subst hvb
                  obtain ⟨n, hn⟩ : ∃ n, n = A.length := ⟨_, rfl⟩
                  have hnn : n ≤ 30000 := by omega
                  rw [← hn] at HSA hac HQa
                  have HST := hid (slr_tail hn HSA.out)
                  have cA := HQa.out.cell
                  have fA := HQa.out.frozen
                  have cB := HQb.out.cell
                  have t1 : (0 : Int) < (2 * n + 2 : Nat) + (nb : Nat) := by omega
                  have t2 : (1 : Int) < (2 * n + 2 : Nat) := by omega
                  have t3 : (u : Int) < (e : Int) := by omega
                  have HQa2 := hid (fun q => HQa.out.set (.slice q (2 * n) (ac - 2)))
                  have HQb2 := hid (fun q => HQb.out.other (B' := B) (by omega) (.slice q (2 * n) (ac - 2)))
                  have HST2 := hid (slr_set (k := B) (u := .slice (some ⟨g, o + 2, none⟩) (2 * n) (ac - 2)) HST.out (by omega))
                  have HSB2 := hid (fun q => slr_set (k := B) (u := .slice q (2 * n) (ac - 2)) HSB.out (by omega))
                  have HBQ2 := hid (fun q => HBQ.out.setCell (p := ⟨B, 0, none⟩) (Nat.le_refl _) (.slice q (2 * n) (ac - 2)))
                  have HDA2 := hid (fun q => (Below.heap_setCell wr ⟨B, 0, none⟩ (.slice q (2 * n) (ac - 2)) D (show D ≠ B by omega)).trans HDA.out)
                  have HDB2 := hid (fun q => (Below.heap_setCell wr ⟨B, 0, none⟩ (.slice q (2 * n) (ac - 2)) D2 (show D2 ≠ B by omega)).trans HDB.out)
                  clear a3 a4 a5 hA hbc hb3 hnb HSa HSb HVa2 HVb2 HDa HDb HSA
                  cases A with
                  | nil =>
                    have t8 : ¬ (0 : Int) < (2 * n : Nat) := by rw [hn]; simp
                    have HN0 := hid (show n = 0 from hn)
                    clear hn
                    go_wp2
                    go_roundw
                    case rel => exact ⟨e, _, _, rfl, a2, HQa2.out _, HQb2.out _, by rw [← HEA.out]; exact slr_nil _ _ _ _ _ HN0.out, HSB2.out _, HBQ2.out _, HDA2.out _, HDB2.out _⟩
                    case measure => simp [intOf]; omega
                  | cons y A =>
                    have t8 : (0 : Int) < (2 * n : Nat) := by rw [hn, List.length_cons]; omega
                    have z0 := slr_head HST.out
                    have hy := HA5.out y (by simp)
                    obtain ⟨yy, hyy⟩ : ∃ yy, yy = y.1 := ⟨_, rfl⟩
                    rw [← hyy] at z0 hy
                    have t9 : ((yy : Int) == (e : Int)) = false := beq_eq_false_iff_ne.2 (by omega)
                    have hac2 : ¬ ac = 2 := by rw [List.length_cons] at hn; omega
                    clear hn hyy hy HA5
                    go_wp2
                    go_roundw
                    case rel => exact ⟨e, _, _, rfl, a2, HQa2.out _, HQb2.out _, by rw [← HEA.out]; exact HST2, HSB2.out _, HBQ2.out _, HDA2.out _, HDB2.out _⟩
                    case measure => simp [intOf]; omega
                · rw [a3] at HSB
                  obtain ⟨g, o, ac, rfl, hac, hg1, hg2, y0, y1⟩ := slr_cons HSB.out
                  dsimp only at y0 y1
                  have HA5 := hid a5
                  have hAl := rnA_len (fun r => hasB r (nrm (nt l))) t e
                  obtain ⟨A, hA⟩ : ∃ A, A = rnA (fun r => hasB r (nrm (nt l))) t e := ⟨_, rfl⟩
                  rw [← hA] at HSB HA5 hac HQb hAl
                  have HEA := hid hA
                  obtain ⟨n, hn⟩ : ∃ n, n = A.length := ⟨_, rfl⟩
                  have hnn : n ≤ 30000 := by omega
                  rw [← hn] at HSB hac HQb
                  have HST := hid (slr_tail hn HSB.out)
                  have cB := HQb.out.cell
                  have fB := HQb.out.frozen
                  have cA := HQa.out.cell
                  have hal := rnA_len (fun r => hasB r (nrm l)) t u
                  have HA6 := hid a6
                  have HSA' := hid (show SlR B wr va (rnA (fun r => hasB r (nrm l)) t e) by have h := HSA.out; rw [a4] at h; exact h)
                  have t2 : (1 : Int) < (2 * n + 2 : Nat) := by omega
                  have t3 : (u : Int) < (e : Int) := by omega
                  have HQb2 := hid (fun q => HQb.out.set (.slice q (2 * n) (ac - 2)))
                  have HQa2 := hid (fun q => HQa.out.other (B' := B + 1) (by omega) (.slice q (2 * n) (ac - 2)))
                  have HST2 := hid (slr_set (k := B + 1) (u := .slice (some ⟨g, o + 2, none⟩) (2 * n) (ac - 2)) HST.out (by omega))
                  have HSA2 := hid (fun q => slr_set (k := B + 1) (u := .slice q (2 * n) (ac - 2)) HSA'.out (by omega))
                  have HBQ2 := hid (fun q => HBQ.out.setCell (p := ⟨B + 1, 0, none⟩) (by simp) (.slice q (2 * n) (ac - 2)))
                  have HDA2 := hid (fun q => (Below.heap_setCell wr ⟨B + 1, 0, none⟩ (.slice q (2 * n) (ac - 2)) D (show D ≠ B + 1 by omega)).trans HDA.out)
                  have HDB2 := hid (fun q => (Below.heap_setCell wr ⟨B + 1, 0, none⟩ (.slice q (2 * n) (ac - 2)) D2 (show D2 ≠ B + 1 by omega)).trans HDB.out)
                  have HSA0 := hid HSA.out
                  obtain ⟨Z, hZ⟩ : ∃ Z, Z = rnA (fun r => hasB r (nrm l)) t u := ⟨_, rfl⟩
                  rw [← hZ] at HSA0 HA6 hal
                  clear a3 a4 a5 a6 hA hZ HSa HSb HVa2 HVb2 HDa HDb HSA HSB HSA'
                  cases Z with
                  | nil =>
                    obtain ⟨bo, bc, hva, hbc, _⟩ := HSA0.out
                    have hva0 : va = .slice bo 0 bc := hva
                    subst hva0
                    have t1 : (0 : Int) < (2 * n + 2 : Nat) := by omega
                    clear hva hbc HSA0 HA6
                    cases A with
                    | nil =>
                      have t8 : ¬ (0 : Int) < (2 * n : Nat) := by rw [hn]; simp
                      have HN0 := hid (show n = 0 from hn)
                      clear hn
                      go_wp2
                      go_roundw
                      case rel => exact ⟨e, _, _, rfl, a2, HQa2.out _, HQb2.out _, HSA2.out _, by rw [← HEA.out]; exact slr_nil _ _ _ _ _ HN0.out, HBQ2.out _, HDA2.out _, HDB2.out _⟩
                      case measure => simp [intOf]; omega
                    | cons y A =>
                      have t8 : (0 : Int) < (2 * n : Nat) := by rw [hn, List.length_cons]; omega
                      have z0 := slr_head HST.out
                      have hy := HA5.out y (by simp)
                      obtain ⟨yy, hyy⟩ : ∃ yy, yy = y.1 := ⟨_, rfl⟩
                      rw [← hyy] at z0 hy
                      have t9 : ((yy : Int) == (e : Int)) = false := beq_eq_false_iff_ne.2 (by omega)
                      have hac2 : ¬ ac = 2 := by rw [List.length_cons] at hn; omega
                      clear hn hyy hy HA5
                      go_wp2
                      go_roundw
                      case rel => exact ⟨e, _, _, rfl, a2, HQa2.out _, HQb2.out _, HSA2.out _, by rw [← HEA.out]; exact HST2, HBQ2.out _, HDA2.out _, HDB2.out _⟩
                      case measure => simp [intOf]; omega
                  | cons z Z =>
                    obtain ⟨gz, oz, bc, rfl, hbc, hgz1, hgz2, q0, q1⟩ := slr_cons HSA0.out
                    have hz := HA6.out z (by simp)
                    obtain ⟨nz, hnz⟩ : ∃ nz, nz = 2 * Z.length + 2 := ⟨_, rfl⟩
                    rw [List.length_cons] at hal
                    have hnz9 : nz ≤ 60000 := by omega
                    rw [← hnz] at HQa2 cA HSA2
                    have t0 : (1 : Int) < (nz : Int) := by omega
                    have t1 : (0 : Int) < (nz : Int) + (2 * n + 2 : Nat) := by omega
                    obtain ⟨zz, hzz⟩ : ∃ zz, zz = z.1 := ⟨_, rfl⟩
                    obtain ⟨zy, hzy⟩ : ∃ zy, zy = z.2 := ⟨_, rfl⟩
                    rw [← hzz] at q0 hz
                    rw [← hzy] at q1
                    have t7 : ((zz : Int) == (u : Int)) = false := beq_eq_false_iff_ne.2 (by omega)
                    clear hnz hzz hzy hz HA6 HSA0 hbc
                    cases A with
                    | nil =>
                      have t8 : ¬ (0 : Int) < (2 * n : Nat) := by rw [hn]; simp
                      have HN0 := hid (show n = 0 from hn)
                      clear hn
                      go_wp2
                      go_roundw
                      case rel => exact ⟨e, _, _, rfl, a2, HQa2.out _, HQb2.out _, HSA2.out _, by rw [← HEA.out]; exact slr_nil _ _ _ _ _ HN0.out, HBQ2.out _, HDA2.out _, HDB2.out _⟩
                      case measure => simp [intOf]; omega
                    | cons y A =>
                      have t8 : (0 : Int) < (2 * n : Nat) := by rw [hn, List.length_cons]; omega
                      have z0 := slr_head HST.out
                      have hy := HA5.out y (by simp)
                      obtain ⟨yy, hyy⟩ : ∃ yy, yy = y.1 := ⟨_, rfl⟩
                      rw [← hyy] at z0 hy
                      have t9 : ((yy : Int) == (e : Int)) = false := beq_eq_false_iff_ne.2 (by omega)
                      have hac2 : ¬ ac = 2 := by rw [List.length_cons] at hn; omega
                      clear hn hyy hy HA5
                      go_wp2
                      go_roundw
                      case rel => exact ⟨e, _, _, rfl, a2, HQa2.out _, HQb2.out _, HSA2.out _, by rw [← HEA.out]; exact HST2, HBQ2.out _, HDA2.out _, HDB2.out _⟩
                      case measure => simp [intOf]; omega
              · have hue : u = t.length := by omega
                have eA := rnA_end (fun r => hasB r (nrm l)) t u hlt
                have eB := rnA_end (fun r => hasB r (nrm (nt l))) t u hlt
                rw [eA] at HSA
                rw [eB] at HSB
                obtain ⟨ao, ac, hva, _, _⟩ := HSA.out
                obtain ⟨bo, bc, hvb, _, _⟩ := HSB.out
                have hva0 : va = .slice ao 0 ac := hva
                have hvb0 : vb = .slice bo 0 bc := hvb
                subst hva0 hvb0
                have cA := HQa.out.cell
                have cB := HQb.out.cell
                have te : ((u : Int) == (t.length : Int)) = true := beq_iff_eq.2 (by omega)
                have hsq := HBQ.out.size
                have HBF := hid (HB1.out.trans ((HBU.out.trans ((HBW2.out.trans HBQ.out).mono hw1B)).mono hs1))
                have HLV := hid (live_any wr (tabs_below HT.out h2 HBF.out) (by have := HBF.out.size; omega))
                clear hva hvb eA eB hue HSA HSB HSa HSb HVa2 HVb2 HDa HDb
                go_wp2_with fail
                refine HLV.out.mono ?_
                rintro e wz ⟨rfl, hbz⟩
                have hsz := hbz.size
                have HBZ := hid (HBF.out.trans (hbz.mono (by have := HBF.out.size; omega)))
                have HDz := hid ((hbz.block D (Array.getElem?_eq_some_iff.1 HDA.out).1).trans HDA.out)
                have HDz2 := hid ((hbz.block D2 (Array.getElem?_eq_some_iff.1 HDB.out).1).trans HDB.out)
                clear hbz HLV
                go_wp2
                have hq1 : (wz.putObj D2 (.deferred none)).heap[D]? = some (.deferred (some [])) := (World.putObj_heap_other (by omega)).trans HDz.out
                refine ⟨by simp, .inl ⟨_, _, rfl, run_takeDeferred HDz2.out, ?_⟩⟩
                refine ⟨by simp, .inl ⟨_, _, rfl, run_takeDeferred hq1, ?_⟩⟩
                have hbf : Below w.heap.size w ((wz.putObj D2 (.deferred none)).putObj D (.deferred none)) := (HBZ.out.trans (belowK_b (w := w) (Nat.le_refl _) _ D2 _ _ (by omega) HDz2.out rfl rfl)).trans (belowK_b (w := w) (Nat.le_refl _) _ D _ _ (by omega) hq1 rfl rfl)
                exact ⟨_, results_tmp rfl _ _ _, rfl, hbf⟩
      | false =>
        clear hv HKS
        have HB9 := hid HB5.out
        have hs9 := hs5
        clear HB5 hs5
        go_wp2_with fail
        obtain ⟨W9, hW9⟩ : ∃ W9, W9 = wr := ⟨_, rfl⟩
        rw [← hW9] at HB9 hs9 ⊢
        clear hW9
        obtain ⟨B, hB⟩ : ∃ B, B = W9.heap.size := ⟨_, rfl⟩
        obtain ⟨U, hU⟩ : ∃ U, U = (W9.alloc (.cells #[.slice none 0 0] 33)).alloc (.cells #[.slice none 0 0] 33) := ⟨_, rfl⟩
        have hUs : U.heap.size = B + 2 := by rw [hU, hB]; simp
        have HUa := hid (show Boxed U B 33 (.slice none 0 0) by rw [hU, hB]; exact (Boxed.new W9 33 (.slice none 0 0)).alloc _)
        have HUb := hid (show Boxed U (B + 1) 33 (.slice none 0 0) by rw [hU, hB]; have h := Boxed.new (W9.alloc (.cells #[.slice none 0 0] 33)) 33 (.slice none 0 0); simp only [World.size_alloc] at h; exact h)
        have HBU := hid (show Below w1.heap.size w1 U by rw [hU]; exact (HB9.out.alloc (by omega) _).alloc (by simp; omega) _)
        have hw1B : w1.heap.size ≤ B := by omega
        have hUle : B + 2 ≤ U.heap.size := by omega
        have HRX := hid (runs_any t lo lc l U (HL.out.below (HB1.out.trans (HBU.out.mono hs1))) (by omega))
        rw [← hU, ← hB]
        clear hU HB9 hB hUs
        refine HRX.out.mono ?_
        rintro e wa ⟨Bs, Bl, so, sc, rfl, hRa, hba⟩
        have hsa := hba.size
        have HRY := hid (runs_any t no nc (nt l) wa (HN1.out.below (HBU.out.trans (hba.mono (by omega)))) (by omega))
        have HBa := hid hba
        have HRa := hid hRa
        clear hba hRa HRX
        go_wp2_with fail
        refine HRY.out.mono ?_
        rintro e wb ⟨Bt, Bm, so2, sc2, rfl, hRb, hbb⟩
        have hsb := hbb.size
        have HRb := hid hRb
        have HRa2 := hid (HRa.out.below hbb (Nat.le_refl _))
        have HBb := hid (show Below B U wb from (HBa.out.mono (by omega)).trans (hbb.mono (by omega)))
        have HXa := hid (show Boxed wb B 33 (.slice none 0 0) from boxed_bl (boxed_bl HUa.out HBa.out (by omega)) hbb (by omega))
        have HXb := hid (show Boxed wb (B + 1) 33 (.slice none 0 0) from boxed_bl (boxed_bl HUb.out HBa.out (by omega)) hbb (by omega))
        clear hbb hRb HRY HRa HBa HUa HUb
        go_wp2_with fail
        have hBC : B + 2 ≤ wb.heap.size := by omega
        have HKB := hid (fun k hk => kr_box33 HRa2.out HXa.out k hk)
        have HL1 := hid (rnl_len (fun r => hasB r (nrm l)) t)
        have HL2 := hid (rnl_len (fun r => hasB r (nrm (nt l))) t)
        obtain ⟨L1, hL1⟩ : ∃ L1, L1 = rst (fun r => hasB r (nrm l)) t none 0 := ⟨_, rfl⟩
        obtain ⟨L2, hL2⟩ : ∃ L2, L2 = rst (fun r => hasB r (nrm (nt l))) t none 0 := ⟨_, rfl⟩
        have hl1 : L1.length ≤ 20001 := by rw [hL1]; have := HL1.out; unfold rst; unfold rnl at this; omega
        have hl2 : L2.length ≤ 20001 := by rw [hL2]; have := HL2.out; unfold rst; unfold rnl at this; omega
        have HLE1 := hid hL1
        have HLE2 := hid hL2
        clear HL1 HL2 hL1 hL2
        obtain ⟨i0, hi, hz0, hz1, hz2⟩ := info_parts Tryd.info3
        refine (wpIn_wide (n := 9)).1 ?_
        refine rfT_H (K := KR Bs Bl so) (L := L1) rfl (by omega) (gf := 20) (lb := #[.pointer (some ⟨Bs, 0, none⟩), .pointer (some ⟨Bl, 0, none⟩)]) rfl trivial (enters_of Tryd.func20 (by kernel_rfl) rfl)
          (by rw [HLE1.out]; exact runs_stops _ (by omega) Bs Bl t so sc (nrm l) wb HRa2.out (nrm_nf _) (by have := nrm_len l; omega)) HRa2.out.lt (Below.refl _ _) rfl 2 14 15
          (fun pre W => (∃ v, Boxed W B 33 v ∧ W.ownsRow wb.heap.size 3 1 v (2 * pre.length) (flP pre) ∧ True) ∧ (KpA B wb W ∧ Below B wb W))
          (fun _ _ => False)
          (OwnFrom.and (Own.from (holdsRow_own wb.heap.size B 33 3 1 (fun pre : List (Tw t) => 2 * pre.length) (fun pre => flP pre) (fun _ _ => True)) _) (OwnFrom.and (ownFrom_kpA (Nat.le_refl _)) (ownFrom_below (by omega) (by omega))))
          (fun _ _ _ _ h _ _ => h)
          ⟨⟨_, HXa.out, World.ownsRow_nil _ _ _ _, trivial⟩, KpA.refl _ _, Below.refl _ _⟩ ?assign ?body
          (fun W => (∃ v, Boxed W B 33 v ∧ W.ownsRow wb.heap.size 3 1 v (2 * L1.length) (flP L1) ∧ True) ∧ (KpA B wb W ∧ Below B wb W)) (fun _ h => h) (fun _ _ _ h => h.elim) (fun _ _ h => h) ?fin
        case assign =>
          intro lp x W K hK
          dsimp only [encR]
          gi_wp2
          refine Eq.mp (congrArg (fun a => K a W) ?_) hK
          simp [frT, encR]
        case body =>
          rintro lp pre x W hlp _ ⟨⟨v, hv, hrow, _⟩, hkp, hbw⟩ hlt
          have hc := hv.cell
          have hsw := hkp.size
          have HSN := hid (flP_snoc pre x)
          obtain ⟨x1, hxa⟩ : ∃ x1, x.val.1 = x1 := ⟨_, rfl⟩
          obtain ⟨x2, hxb⟩ : ∃ x2, x.val.2 = x2 := ⟨_, rfl⟩
          rw [hxa, hxb] at HSN
          dsimp only [frT, encR]
          rw [hxa, hxb]
          have HV := hid hv
          have HROW := hid hrow
          have HKP := hid hkp
          have HBW := hid hbw
          clear hxa hxb hv hrow hkp hbw
          gi_wp2_with (gi_at_builtin; refine wpListIn_append_own _ rfl _ _ 33 rfl wb.heap.size 3 i0 (.int .i64 0) 1 8 Tryd.underlying33 hi hz0 hz1 hz2 rfl (by decide) _ _ _ rfl (HROW.out.alloc _) ⟨W.heap.size, 0, none⟩ 2 2 [.int .i64 x1, .int .i64 x2] rfl rfl (news_2 W _ _ _) (by simp [Value.oneCell']) (by unfold maxLen; omega) (by omega) (by simp; omega) ?_; intro v' w3 hown' hgrow _; obtain ⟨g', cap', rfl⟩ := ownsRow_succ hown'; obtain ⟨hv1, hv2, hkb, hk2, hsm⟩ := app_step rfl (Nat.le_refl B) (by omega) HV.out HROW.out HKP.out HBW.out hown' hgrow; have hc1 := hv1.cell; have hf1 := hv1.frozen; have HF := hid (And.intro hv2 (And.intro hkb (And.intro hk2 hsm))); clear hv1 hv2 hkb hk2 hsm hown' hgrow)
          obtain ⟨⟨hv2, hr2⟩, hkb, hk2, hsm⟩ := HF.out
          exact ⟨hk2.from _, ⟨⟨hk2.size, fun k o h hw => hk2.same k o h (Obj.not_cells_of_walk hw)⟩, fun k hk => hsm k (HRa2.out.lt k hk) (HKB.out k hk)⟩, ⟨⟨_, hv2, by rw [HSN.out, List.length_append]; exact hr2, trivial⟩, hkb⟩⟩
        case fin =>
          rintro D W hD ⟨⟨v, hv, hrow, _⟩, hkp, hbw⟩ hDK
          obtain ⟨W1, hW1⟩ : ∃ W1, W1 = W := ⟨_, rfl⟩
          rw [← hW1] at hv hrow hkp hbw hDK ⊢
          clear hW1 W
          have hsw := hkp.size
          have HVa := hid hv
          have HROWa := hid hrow
          have HD1 := hid hDK
          have hD1 : D < W1.heap.size := (Array.getElem?_eq_some_iff.1 hDK).1
          have HRb1 := hid (HRb.out.keeps hkp.size (fun k hk => hkp.same k (HRb.out.lt k hk) (kr_box33 HRb.out HXa.out k hk)))
          have HXb1 := hid (show Boxed W1 (B + 1) 33 (.slice none 0 0) from (hkp.same (B + 1) (by omega) (by omega)).trans HXb.out)
          have HBW1 := hid hbw
          clear hv hrow hkp hbw hDK
          go_wp2_with fail
          refine (wpIn_wide (n := 9)).1 ?_
          refine rfT_H (K := KR Bt Bm so2) (L := L2) rfl (by omega) (gf := 20) (lb := #[.pointer (some ⟨Bt, 0, none⟩), .pointer (some ⟨Bm, 0, none⟩)]) rfl trivial (enters_of Tryd.func20 (by kernel_rfl) rfl)
            (by rw [HLE2.out]; exact runs_stops _ (by omega) Bt Bm t so2 sc2 (nrm (nt l)) W1 HRb1.out (nrm_nf _) (by have := nrm_len (nt l); omega)) HRb1.out.lt (Below.refl _ _) rfl 4 16 17
            (fun pre W => (∃ v, Boxed W (B + 1) 33 v ∧ W.ownsRow W1.heap.size 3 1 v (2 * pre.length) (flP pre) ∧ True) ∧ (KpA (B + 1) W1 W ∧ Below B W1 W))
            (fun _ _ => False)
            (OwnFrom.and (Own.from (holdsRow_own W1.heap.size (B + 1) 33 3 1 (fun pre : List (Tw t) => 2 * pre.length) (fun pre => flP pre) (fun _ _ => True)) _) (OwnFrom.and (ownFrom_kpA (Nat.le_refl _)) (ownFrom_below (by omega) (by omega))))
            (fun _ _ _ _ h _ _ => h)
            ⟨⟨_, HXb1.out, World.ownsRow_nil _ _ _ _, trivial⟩, KpA.refl _ _, Below.refl _ _⟩ ?assign2 ?body2
            (fun W => (∃ v, Boxed W (B + 1) 33 v ∧ W.ownsRow W1.heap.size 3 1 v (2 * L2.length) (flP L2) ∧ True) ∧ (KpA (B + 1) W1 W ∧ Below B W1 W)) (fun _ h => h) (fun _ _ _ h => h.elim) (fun _ _ h => h) ?fin2
          case assign2 =>
            intro lp x W K hK
            dsimp only [encR]
            gi_wp2
            refine Eq.mp (congrArg (fun a => K a W) ?_) hK
            simp [frT, encR]
          case body2 =>
            rintro lp pre x W hlp _ ⟨⟨v, hv, hrow, _⟩, hkp, hbw⟩ hlt
            have hc := hv.cell
            have hsw := hkp.size
            have HSN := hid (flP_snoc pre x)
            obtain ⟨x1, hxa⟩ : ∃ x1, x.val.1 = x1 := ⟨_, rfl⟩
            obtain ⟨x2, hxb⟩ : ∃ x2, x.val.2 = x2 := ⟨_, rfl⟩
            rw [hxa, hxb] at HSN
            dsimp only [frT, encR]
            rw [hxa, hxb]
            have HV := hid hv
            have HROW := hid hrow
            have HKP := hid hkp
            have HBW := hid hbw
            clear hxa hxb hv hrow hkp hbw
            gi_wp2_with (gi_at_builtin; refine wpListIn_append_own _ rfl _ _ 33 rfl W1.heap.size 3 i0 (.int .i64 0) 1 8 Tryd.underlying33 hi hz0 hz1 hz2 rfl (by decide) _ _ _ rfl (HROW.out.alloc _) ⟨W.heap.size, 0, none⟩ 2 2 [.int .i64 x1, .int .i64 x2] rfl rfl (news_2 W _ _ _) (by simp [Value.oneCell']) (by unfold maxLen; omega) (by omega) (by simp; omega) ?_; intro v' w3 hown' hgrow _; obtain ⟨g', cap', rfl⟩ := ownsRow_succ hown'; obtain ⟨hv1, hv2, hkb, hk2, hsm⟩ := app_step rfl (show B ≤ B + 1 by omega) (by omega) HV.out HROW.out HKP.out HBW.out hown' hgrow; have hc1 := hv1.cell; have hf1 := hv1.frozen; have HF := hid (And.intro hv2 (And.intro hkb (And.intro hk2 hsm))); clear hv1 hv2 hkb hk2 hsm hown' hgrow)
            obtain ⟨⟨hv2, hr2⟩, hkb, hk2, hsm⟩ := HF.out
            exact ⟨hk2.from _, ⟨⟨hk2.size, fun k o h hw => hk2.same k o h (Obj.not_cells_of_walk hw)⟩, fun k hk => hsm k (HRb1.out.lt k hk) (kr_box33 HRb1.out HXb1.out k hk)⟩, ⟨⟨_, hv2, by rw [HSN.out, List.length_append]; exact hr2, trivial⟩, hkb⟩⟩
          case fin2 =>
            rintro D2 W hD2 ⟨⟨v2, hv2, hrow2, _⟩, hkp, hbw⟩ hDK2
            obtain ⟨W2, hW2⟩ : ∃ W2, W2 = W := ⟨_, rfl⟩
            rw [← hW2] at hv2 hrow2 hkp hbw hDK2 ⊢
            clear hW2 W
            have hsw2 := hkp.size
            have hD2 : D2 < W2.heap.size := (Array.getElem?_eq_some_iff.1 hDK2).1
            have HVa2 := hid (show Boxed W2 B 33 v from (hkp.same B (by omega) (by omega)).trans HVa.out)
            have HVb2 := hid hv2
            have HDa := hid (show W2.heap[D]? = some (.deferred (some [])) from (hkp.same D hD1 (fun e => by have h1 := HD1.out; have h2 : W1.heap[B + 1]? = _ := HXb1.out; rw [e, h2] at h1; cases h1)).trans HD1.out)
            have HDb := hid hDK2
            have HSa := hid (slr_mono (slr_row HLE1.out HROWa.out (show B + 2 ≤ wb.heap.size by omega)) hkp (by omega))
            have HSb := hid (slr_row HLE2.out hrow2 (show B + 2 ≤ W1.heap.size by omega))
            have HBW2 := hid (HBb.out.trans ((HBW1.out.trans hbw).mono (Nat.le_refl _)))
            have hDne : D ≠ D2 := by omega
            clear hv2 hrow2 hkp hbw hDK2 HROWa HVa HD1 HXb1 HRb1 HBW1 HLE1 HLE2 HRb HRa2 HKB HXa HXb HBb
            go_wp2_with fail
            go_loopw [18] (fun x wr => ∃ (u : Nat) (va vb : Value), x = .int .i64 (u : Int) ∧ u ≤ t.length ∧ Hid (Boxed wr B 33 va) ∧ Hid (Boxed wr (B + 1) 33 vb) ∧ Hid (SlR B wr va (rnA (fun r => hasB r (nrm l)) t u)) ∧ Hid (SlR B wr vb (rnA (fun r => hasB r (nrm (nt l))) t u)) ∧ Hid (Below B W2 wr) ∧ Hid (wr.heap[D]? = some (.deferred (some []))) ∧ Hid (wr.heap[D2]? = some (.deferred (some [])))) (fun x _ => t.length - (intOf x).toNat)
            case atStart => exact ⟨0, v, v2, rfl, by omega, HVa2, HVb2, HSa, HSb, Below.refl _ _, HDa, HDb⟩
            case round =>
              obtain ⟨u, va, vb, rfl, hu, HQa, HQb, HSA, HSB, HBQ, HDA, HDB⟩ := hrel
              by_cases hlt : u < t.length
              · rcases part_step (fun r => hasB r (nrm l)) (fun r => hasB r (nrm (nt l))) t u hlt (fun x h0 h1 => both_sides l x h0 h1) with ⟨e, a1, a2, a3, a4, a5⟩ | ⟨e, a1, a2, a3, a4, a5, a6⟩
                · rw [a3] at HSA
                  rw [a4] at HSB
                  obtain ⟨g, o, ac, rfl, hac, hg1, hg2, y0, y1⟩ := slr_cons HSA.out
                  dsimp only at y0 y1
                  have HA5 := hid a5
                  have hAl := rnA_len (fun r => hasB r (nrm l)) t e
                  obtain ⟨A, hA⟩ : ∃ A, A = rnA (fun r => hasB r (nrm l)) t e := ⟨_, rfl⟩
                  rw [← hA] at HSA HA5 hac HQa hAl
                  have HEA := hid hA
                  have hbl := rnA_len (fun r => hasB r (nrm (nt l))) t e
                  obtain ⟨bo, bc, hvb, hbc, hb3⟩ := HSB.out
                  obtain ⟨nb, hnb⟩ : ∃ nb, nb = 2 * (rnA (fun r => hasB r (nrm (nt l))) t e).length := ⟨_, rfl⟩
                  have hnb9 : nb ≤ 60000 := by omega
                  rw [← hnb] at hvb
                  subst hvb
                  obtain ⟨n, hn⟩ : ∃ n, n = A.length := ⟨_, rfl⟩
                  have hnn : n ≤ 30000 := by omega
                  rw [← hn] at HSA hac HQa
                  have HST := hid (slr_tail hn HSA.out)
                  have cA := HQa.out.cell
                  have fA := HQa.out.frozen
                  have cB := HQb.out.cell
                  have t1 : (0 : Int) < (2 * n + 2 : Nat) + (nb : Nat) := by omega
                  have t2 : (1 : Int) < (2 * n + 2 : Nat) := by omega
                  have t3 : (u : Int) < (e : Int) := by omega
                  have HQa2 := hid (fun q => HQa.out.set (.slice q (2 * n) (ac - 2)))
                  have HQb2 := hid (fun q => HQb.out.other (B' := B) (by omega) (.slice q (2 * n) (ac - 2)))
                  have HST2 := hid (slr_set (k := B) (u := .slice (some ⟨g, o + 2, none⟩) (2 * n) (ac - 2)) HST.out (by omega))
                  have HSB2 := hid (fun q => slr_set (k := B) (u := .slice q (2 * n) (ac - 2)) HSB.out (by omega))
                  have HBQ2 := hid (fun q => HBQ.out.setCell (p := ⟨B, 0, none⟩) (Nat.le_refl _) (.slice q (2 * n) (ac - 2)))
                  have HDA2 := hid (fun q => (Below.heap_setCell wr ⟨B, 0, none⟩ (.slice q (2 * n) (ac - 2)) D (show D ≠ B by omega)).trans HDA.out)
                  have HDB2 := hid (fun q => (Below.heap_setCell wr ⟨B, 0, none⟩ (.slice q (2 * n) (ac - 2)) D2 (show D2 ≠ B by omega)).trans HDB.out)
                  clear a3 a4 a5 hA hbc hb3 hnb HSa HSb HVa2 HVb2 HDa HDb HSA
                  cases A with
                  | nil =>
                    have t8 : ¬ (0 : Int) < (2 * n : Nat) := by rw [hn]; simp
                    have HN0 := hid (show n = 0 from hn)
                    clear hn
                    go_wp2
                    go_roundw
                    case rel => exact ⟨e, _, _, rfl, a2, HQa2.out _, HQb2.out _, by rw [← HEA.out]; exact slr_nil _ _ _ _ _ HN0.out, HSB2.out _, HBQ2.out _, HDA2.out _, HDB2.out _⟩
                    case measure => simp [intOf]; omega
                  | cons y A =>
                    have t8 : (0 : Int) < (2 * n : Nat) := by rw [hn, List.length_cons]; omega
                    have z0 := slr_head HST.out
                    have hy := HA5.out y (by simp)
                    obtain ⟨yy, hyy⟩ : ∃ yy, yy = y.1 := ⟨_, rfl⟩
                    rw [← hyy] at z0 hy
                    have t9 : ((yy : Int) == (e : Int)) = false := beq_eq_false_iff_ne.2 (by omega)
                    have hac2 : ¬ ac = 2 := by rw [List.length_cons] at hn; omega
                    clear hn hyy hy HA5
                    go_wp2
                    go_roundw
                    case rel => exact ⟨e, _, _, rfl, a2, HQa2.out _, HQb2.out _, by rw [← HEA.out]; exact HST2, HSB2.out _, HBQ2.out _, HDA2.out _, HDB2.out _⟩
                    case measure => simp [intOf]; omega
                · rw [a3] at HSB
                  obtain ⟨g, o, ac, rfl, hac, hg1, hg2, y0, y1⟩ := slr_cons HSB.out
                  dsimp only at y0 y1
                  have HA5 := hid a5
                  have hAl := rnA_len (fun r => hasB r (nrm (nt l))) t e
                  obtain ⟨A, hA⟩ : ∃ A, A = rnA (fun r => hasB r (nrm (nt l))) t e := ⟨_, rfl⟩
                  rw [← hA] at HSB HA5 hac HQb hAl
                  have HEA := hid hA
                  obtain ⟨n, hn⟩ : ∃ n, n = A.length := ⟨_, rfl⟩
                  have hnn : n ≤ 30000 := by omega
                  rw [← hn] at HSB hac HQb
                  have HST := hid (slr_tail hn HSB.out)
                  have cB := HQb.out.cell
                  have fB := HQb.out.frozen
                  have cA := HQa.out.cell
                  have hal := rnA_len (fun r => hasB r (nrm l)) t u
                  have HA6 := hid a6
                  have HSA' := hid (show SlR B wr va (rnA (fun r => hasB r (nrm l)) t e) by have h := HSA.out; rw [a4] at h; exact h)
                  have t2 : (1 : Int) < (2 * n + 2 : Nat) := by omega
                  have t3 : (u : Int) < (e : Int) := by omega
                  have HQb2 := hid (fun q => HQb.out.set (.slice q (2 * n) (ac - 2)))
                  have HQa2 := hid (fun q => HQa.out.other (B' := B + 1) (by omega) (.slice q (2 * n) (ac - 2)))
                  have HST2 := hid (slr_set (k := B + 1) (u := .slice (some ⟨g, o + 2, none⟩) (2 * n) (ac - 2)) HST.out (by omega))
                  have HSA2 := hid (fun q => slr_set (k := B + 1) (u := .slice q (2 * n) (ac - 2)) HSA'.out (by omega))
                  have HBQ2 := hid (fun q => HBQ.out.setCell (p := ⟨B + 1, 0, none⟩) (by simp) (.slice q (2 * n) (ac - 2)))
                  have HDA2 := hid (fun q => (Below.heap_setCell wr ⟨B + 1, 0, none⟩ (.slice q (2 * n) (ac - 2)) D (show D ≠ B + 1 by omega)).trans HDA.out)
                  have HDB2 := hid (fun q => (Below.heap_setCell wr ⟨B + 1, 0, none⟩ (.slice q (2 * n) (ac - 2)) D2 (show D2 ≠ B + 1 by omega)).trans HDB.out)
                  have HSA0 := hid HSA.out
                  obtain ⟨Z, hZ⟩ : ∃ Z, Z = rnA (fun r => hasB r (nrm l)) t u := ⟨_, rfl⟩
                  rw [← hZ] at HSA0 HA6 hal
                  clear a3 a4 a5 a6 hA hZ HSa HSb HVa2 HVb2 HDa HDb HSA HSB HSA'
                  cases Z with
                  | nil =>
                    obtain ⟨bo, bc, hva, hbc, _⟩ := HSA0.out
                    have hva0 : va = .slice bo 0 bc := hva
                    subst hva0
                    have t1 : (0 : Int) < (2 * n + 2 : Nat) := by omega
                    clear hva hbc HSA0 HA6
                    cases A with
                    | nil =>
                      have t8 : ¬ (0 : Int) < (2 * n : Nat) := by rw [hn]; simp
                      have HN0 := hid (show n = 0 from hn)
                      clear hn
                      go_wp2
                      go_roundw
                      case rel => exact ⟨e, _, _, rfl, a2, HQa2.out _, HQb2.out _, HSA2.out _, by rw [← HEA.out]; exact slr_nil _ _ _ _ _ HN0.out, HBQ2.out _, HDA2.out _, HDB2.out _⟩
                      case measure => simp [intOf]; omega
                    | cons y A =>
                      have t8 : (0 : Int) < (2 * n : Nat) := by rw [hn, List.length_cons]; omega
                      have z0 := slr_head HST.out
                      have hy := HA5.out y (by simp)
                      obtain ⟨yy, hyy⟩ : ∃ yy, yy = y.1 := ⟨_, rfl⟩
                      rw [← hyy] at z0 hy
                      have t9 : ((yy : Int) == (e : Int)) = false := beq_eq_false_iff_ne.2 (by omega)
                      have hac2 : ¬ ac = 2 := by rw [List.length_cons] at hn; omega
                      clear hn hyy hy HA5
                      go_wp2
                      go_roundw
                      case rel => exact ⟨e, _, _, rfl, a2, HQa2.out _, HQb2.out _, HSA2.out _, by rw [← HEA.out]; exact HST2, HBQ2.out _, HDA2.out _, HDB2.out _⟩
                      case measure => simp [intOf]; omega
                  | cons z Z =>
                    obtain ⟨gz, oz, bc, rfl, hbc, hgz1, hgz2, q0, q1⟩ := slr_cons HSA0.out
                    have hz := HA6.out z (by simp)
                    obtain ⟨nz, hnz⟩ : ∃ nz, nz = 2 * Z.length + 2 := ⟨_, rfl⟩
                    rw [List.length_cons] at hal
                    have hnz9 : nz ≤ 60000 := by omega
                    rw [← hnz] at HQa2 cA HSA2
                    have t0 : (1 : Int) < (nz : Int) := by omega
                    have t1 : (0 : Int) < (nz : Int) + (2 * n + 2 : Nat) := by omega
                    obtain ⟨zz, hzz⟩ : ∃ zz, zz = z.1 := ⟨_, rfl⟩
                    obtain ⟨zy, hzy⟩ : ∃ zy, zy = z.2 := ⟨_, rfl⟩
                    rw [← hzz] at q0 hz
                    rw [← hzy] at q1
                    have t7 : ((zz : Int) == (u : Int)) = false := beq_eq_false_iff_ne.2 (by omega)
                    clear hnz hzz hzy hz HA6 HSA0 hbc
                    cases A with
                    | nil =>
                      have t8 : ¬ (0 : Int) < (2 * n : Nat) := by rw [hn]; simp
                      have HN0 := hid (show n = 0 from hn)
                      clear hn
                      go_wp2
                      go_roundw
                      case rel => exact ⟨e, _, _, rfl, a2, HQa2.out _, HQb2.out _, HSA2.out _, by rw [← HEA.out]; exact slr_nil _ _ _ _ _ HN0.out, HBQ2.out _, HDA2.out _, HDB2.out _⟩
                      case measure => simp [intOf]; omega
                    | cons y A =>
                      have t8 : (0 : Int) < (2 * n : Nat) := by rw [hn, List.length_cons]; omega
                      have z0 := slr_head HST.out
                      have hy := HA5.out y (by simp)
                      obtain ⟨yy, hyy⟩ : ∃ yy, yy = y.1 := ⟨_, rfl⟩
                      rw [← hyy] at z0 hy
                      have t9 : ((yy : Int) == (e : Int)) = false := beq_eq_false_iff_ne.2 (by omega)
                      have hac2 : ¬ ac = 2 := by rw [List.length_cons] at hn; omega
                      clear hn hyy hy HA5
                      go_wp2
                      go_roundw
                      case rel => exact ⟨e, _, _, rfl, a2, HQa2.out _, HQb2.out _, HSA2.out _, by rw [← HEA.out]; exact HST2, HBQ2.out _, HDA2.out _, HDB2.out _⟩
                      case measure => simp [intOf]; omega
              · have hue : u = t.length := by omega
                have eA := rnA_end (fun r => hasB r (nrm l)) t u hlt
                have eB := rnA_end (fun r => hasB r (nrm (nt l))) t u hlt
                rw [eA] at HSA
                rw [eB] at HSB
                obtain ⟨ao, ac, hva, _, _⟩ := HSA.out
                obtain ⟨bo, bc, hvb, _, _⟩ := HSB.out
                have hva0 : va = .slice ao 0 ac := hva
                have hvb0 : vb = .slice bo 0 bc := hvb
                subst hva0 hvb0
                have cA := HQa.out.cell
                have cB := HQb.out.cell
                have te : ((u : Int) == (t.length : Int)) = true := beq_iff_eq.2 (by omega)
                have hsq := HBQ.out.size
                have HBF := hid (HB1.out.trans ((HBU.out.trans ((HBW2.out.trans HBQ.out).mono hw1B)).mono hs1))
                have HLV := hid (live_any wr (tabs_below HT.out h2 HBF.out) (by have := HBF.out.size; omega))
                clear hva hvb eA eB hue HSA HSB HSa HSb HVa2 HVb2 HDa HDb
                go_wp2_with fail
                refine HLV.out.mono ?_
                rintro e wz ⟨rfl, hbz⟩
                have hsz := hbz.size
                have HBZ := hid (HBF.out.trans (hbz.mono (by have := HBF.out.size; omega)))
                have HDz := hid ((hbz.block D (Array.getElem?_eq_some_iff.1 HDA.out).1).trans HDA.out)
                have HDz2 := hid ((hbz.block D2 (Array.getElem?_eq_some_iff.1 HDB.out).1).trans HDB.out)
                clear hbz HLV
                go_wp2
                have hq1 : (wz.putObj D2 (.deferred none)).heap[D]? = some (.deferred (some [])) := (World.putObj_heap_other (by omega)).trans HDz.out
                refine ⟨by simp, .inl ⟨_, _, rfl, run_takeDeferred HDz2.out, ?_⟩⟩
                refine ⟨by simp, .inl ⟨_, _, rfl, run_takeDeferred hq1, ?_⟩⟩
                have hbf : Below w.heap.size w ((wz.putObj D2 (.deferred none)).putObj D (.deferred none)) := (HBZ.out.trans (belowK_b (w := w) (Nat.le_refl _) _ D2 _ _ (by omega) HDz2.out rfl rfl)).trans (belowK_b (w := w) (Nat.le_refl _) _ D _ _ (by omega) hq1 rfl rfl)
                exact ⟨_, results_tmp rfl _ _ _, rfl, hbf⟩

set_option maxHeartbeats 1000000 in
set_option maxRecDepth 100000 in
theorem part_long (t : List UInt8) (lo : Option Addr) (lc : Nat) (l : List Rg) (w : World) (hT : Lib.Utf8Tabs 0 1 w) (h2 : 2 ≤ w.heap.size) (hlen : (20000 : Int) < t.length ∨ (60 : Int) < l.length) :
    CallsIn Fence.wide 9 Tryd.prog 3 #[.string ⟨t.toArray⟩, .slice lo l.length lc] w fun e w' => e = .returned (.bool true) ∧ Below w.heap.size w w' := by
  have HLV := hid (live_any w hT h2)
  clear hT
  refine callsIn_of_wp_marks Tryd.func3 rfl trivial ?_ rfl
  simp only [Tryd.ntmps3, List.size_toArray, List.length_cons, List.length_nil, Nat.reduceAdd, Nat.reduceSub, Array.replicate_succ, Array.replicate_zero, List.push_toArray, List.append_toArray, List.nil_append, List.cons_append]
  refine wpIn_wide.2 ?_
  by_cases h1 : (20000 : Int) < t.length
  · go_wp2_with fail
    refine HLV.out.mono ?_
    rintro e w1 ⟨rfl, hb⟩
    have HB := hid hb
    clear hb HLV
    go_wp2
    exact ⟨_, results_tmp rfl _ _ _, rfl, HB.out⟩
  · have h3 : (60 : Int) < l.length := by omega
    go_wp2_with fail
    refine HLV.out.mono ?_
    rintro e w1 ⟨rfl, hb⟩
    have HB := hid hb
    clear hb HLV
    go_wp2
    exact ⟨_, results_tmp rfl _ _ _, rfl, HB.out⟩

theorem part_walk (t : List UInt8) (lo : Option Addr) (lc : Nat) (l : List Rg) (w : World) (hT : Lib.Utf8Tabs 0 1 w) (h2 : 2 ≤ w.heap.size) (hl : RdR w lo l) :
    Calls Tryd.prog 3 #[.string ⟨t.toArray⟩, .slice lo l.length lc] w fun e w' => e = .returned (.bool true) ∧ Below w.heap.size w w' := by
  by_cases h1 : (20000 : Int) < t.length
  · exact callsIn_wide.1 (part_long t lo lc l w hT h2 (.inl h1))
  · by_cases h3 : (60 : Int) < l.length
    · exact callsIn_wide.1 (part_long t lo lc l w hT h2 (.inr h3))
    · exact callsIn_wide.1 (part_in t lo lc l w hT h2 hl h1 h3)
end Go.Proofs.YtfahbdlcokoghabDoor
