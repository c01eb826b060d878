/- The contract of Equal (package table). -/
import Derived.Test.YtljlhlcoaajggaaSlEq
import Derived.Test.YtljlhlcoaajggaaHeld2
namespace Go.Proofs.Ytljlhlcoaajggaa
open Go.RowKit

theorem eqg76 : Try.prog.eqGuardType Try.prog.depth 76 = false := by kernel_rfl
theorem hold_mid {ops : Array Oper} {S : World → Prop} {L : Act → Prop} {a : Act} {o : Oper} {rest : List Oper} (hw : Region.wanted o (yielded ops a.tmps) = true) (ty : TypeId) (x : Operand) (ho : o.op = .load ty x) (b f : Nat) (cs : List Value) (d : TypeDesc) (hx : a.eval x = .pointer (some ⟨b, f, none⟩))
    (hc : ∀ w, S w → w.rangeAt b f cs) (hu : Try.prog.underlying ty = some d) (hd : d.isRow = true) (hi : (Try.prog.info? ty).map (·.size) = some cs.length)
    (h : wpHold Try.prog ops S L rest (a.put o.dst (.agg cs.toArray))) : wpHold Try.prog ops S L (o :: rest) a :=
  holdG_yes (.agg cs.toArray) hw (fun w hS => by
    unfold execOp
    simp only [ho, hx, Sem.run_bind, run_loadAt_mid w b f ty cs d (hc w hS) hu hd hi, Result.andThen_ok, Sem.run_pure]) h
theorem hold_eql76 {ops : Array Oper} {S : World → Prop} {L : Act → Prop} {a : Act} {o : Oper} {rest : List Oper} (hw : Region.wanted o (yielded ops a.tmps) = true) (x y : Operand) (ho : o.op = .binOp .eql 76 x y 76) (xs ys : Array Value) (d : Bool) (hx : a.eval x = .agg xs) (hy : a.eval y = .agg ys)
    (he : ∀ w, (Op.equalIn 10000 76 (.agg xs) (.agg ys)).run Try.prog w = .ok d w)
    (h : wpHold Try.prog ops S L rest (a.put o.dst (.bool d))) : wpHold Try.prog ops S L (o :: rest) a :=
  holdG_yes (.bool d) hw (fun w _ => by
    unfold execOp
    simp [ho, hx, hy, run_eqGuard_agg _ _ 76 _ _ _ _ eqg76, run_eql_struct, he]) h

set_option maxHeartbeats 6000000 in
set_option maxRecDepth 100000 in
theorem equal_any (B1 B2 T1 T2 r1 r2 : Nat) (F1 F2 : List (List Nat)) (w : World) (h1 : TbAt B1 T1 F1 r1 w) (h2 : TbAt B2 T2 F2 r2 w) :
    Calls Try.prog 26 #[.pointer (some ⟨T1, 0, none⟩), .pointer (some ⟨T2, 0, none⟩)] w fun e w' => e = .returned (.bool (decide (r1 = r2 ∧ F1 = F2))) ∧ Below w.heap.size w w' := by
  have q1 := h1.rest_cell
  have q2 := h2.rest_cell
  obtain ⟨g1, c1, hT1, hr1, ho1, h81, hF1⟩ := h1
  obtain ⟨g2, c2, hT2, hr2, ho2, h82, hF2⟩ := h2
  have p1 : w.cell? ⟨T1, 8704, none⟩ = some (.slice (some ⟨g1, 0, none⟩) (uq F1).length c1) := tb_row hT1 (by rw [fst_len]; exact hF1)
  have p2 : w.cell? ⟨T2, 8704, none⟩ = some (.slice (some ⟨g2, 0, none⟩) (uq F2).length c2) := tb_row hT2 (by rw [fst_len]; exact hF2)
  have f1 := tb_first hT1
  have f2 := tb_first hT2
  have l1 : (fst F1).length = 8704 := by rw [fst_len]; exact hF1
  have l2 : (fst F2).length = 8704 := by rw [fst_len]; exact hF2
  have z1 : (Try.prog.info? 76).map (·.size) = some (u16n (fst F1)).length := by rw [u16n_len, l1]; exact size76n
  have z2 : (Try.prog.info? 76).map (·.size) = some (u16n (fst F2)).length := by rw [u16n_len, l2]; exact size76n
  have heq := eq76 (fst F1) (fst F2) l1 l2
  have hu76 := Try.underlying76
  have HSL := hid (fun W (hb : Below w.heap.size w W) => sleq_any B1 B2 g1 g2 c1 c2 (uq F1) (uq F2) W (own_keep hr1 hb) (own_keep hr2 hb) (uq_ok ho1) (uq_ok ho2) (by have := uq_le F1; omega))
  have hw1 : T1 < w.heap.size := lt_of_heap hT1
  have hw2 : T2 < w.heap.size := lt_of_heap hT2
  obtain ⟨u1, hu1⟩ : ∃ u1, u1 = u16n (fst F1) := ⟨_, rfl⟩
  obtain ⟨u2, hu2⟩ : ∃ u2, u2 = u16n (fst F2) := ⟨_, rfl⟩
  rw [← hu1] at f1 z1 heq
  rw [← hu2] at f2 z2 heq
  obtain ⟨n1, hn1⟩ : ∃ n1, n1 = (uq F1).length := ⟨_, rfl⟩
  obtain ⟨n2, hn2⟩ : ∃ n2, n2 = (uq F2).length := ⟨_, rfl⟩
  rw [← hn1] at p1 HSL
  rw [← hn2] at p2 HSL
  have HV := hid (show decide (r1 = r2 ∧ F1 = F2) = (decide (r1 = r2) && (decide (fst F1 = fst F2) && decide (uq F1 = uq F2))) by
    rw [Bool.eq_iff_iff]
    simp only [decide_eq_true_eq, Bool.and_eq_true]
    constructor
    · rintro ⟨h, rfl⟩; exact ⟨h, rfl, rfl⟩
    · rintro ⟨h, h3, h4⟩; exact ⟨h, fst_one h3 h4⟩)
  have hq : ((r1 : Int) == (r2 : Int)) = decide (r1 = r2) := by
    rw [Bool.eq_iff_iff]
    simp only [beq_iff_eq, decide_eq_true_eq]
    omega
  obtain ⟨dr, hdr⟩ : ∃ dr, dr = decide (r1 = r2) := ⟨_, rfl⟩
  obtain ⟨df, hdf⟩ : ∃ df, df = decide (fst F1 = fst F2) := ⟨_, rfl⟩
  obtain ⟨du, hdu⟩ : ∃ du, du = decide (uq F1 = uq F2) := ⟨_, rfl⟩
  rw [← hdr] at HV hq
  rw [← hdf] at HV heq
  rw [← hdu] at HV HSL
  clear hu1 hu2 hn1 hn2 hdr hdf hdu hT1 hT2 hr1 hr2 ho1 ho2 h81 h82 hF1 hF2 l1 l2
  go_enter Try.func26, Try.ntmps26
  go_wp2_with fail
  refine wp_region_noPanic ?_
  refine wp_region_holdG 29 (fun w' => (w'.cell? ⟨T1, 8705, none⟩ = some (.int .u8 (r1 : Int)) ∧ w'.cell? ⟨T2, 8705, none⟩ = some (.int .u8 (r2 : Int)) ∧ w'.cell? ⟨T1, 8704, none⟩ = some (.slice (some ⟨g1, 0, none⟩) n1 c1) ∧ w'.cell? ⟨T2, 8704, none⟩ = some (.slice (some ⟨g2, 0, none⟩) n2 c2)) ∧ w'.rangeAt T1 0 u1 ∧ w'.rangeAt T2 0 u2) (fun _ => false) (by kernel_rfl) (by kernel_rfl) (by decide) (fun j hj => by cases hj) (by kernel_rfl) (fun _ _ _ _ _ h => h) ⟨⟨q1, q2, p1, p2⟩, f1, f2⟩ ?_
  dsimp only [List.take, List.drop]
  have HSS := hid (show (w.drew.cell? ⟨T1, 8705, none⟩ = some (.int .u8 (r1 : Int)) ∧ w.drew.cell? ⟨T2, 8705, none⟩ = some (.int .u8 (r2 : Int)) ∧ w.drew.cell? ⟨T1, 8704, none⟩ = some (.slice (some ⟨g1, 0, none⟩) n1 c1) ∧ w.drew.cell? ⟨T2, 8704, none⟩ = some (.slice (some ⟨g2, 0, none⟩) n2 c2)) ∧ w.drew.rangeAt T1 0 u1 ∧ w.drew.rangeAt T2 0 u2 from ⟨⟨q1, q2, p1, p2⟩, f1, f2⟩)
  have HEQ := hid heq
  clear f1 f2 heq
  have HBD := hid (show Below w.heap.size w w.drew from ⟨rfl, rfl, rfl, Nat.le_refl _, fun _ _ => rfl⟩)
  iterate 4 (refine wpHold_step ?_ rfl (fun w' hS => ?_) ?_; (rotate_left; (obtain ⟨⟨s1, s2, s3, s4⟩, s5, s6⟩ := hS; clear s5 s6; go_simp; with_reducible rfl); rotate_left))
  simp only [Act.put, List.setIfInBounds_toArray, List.set_cons_zero, List.set_cons_succ]
  iterate 4 (refine wpHold_step ?_ rfl (fun w' hS => ?_) ?_; (rotate_left; (obtain ⟨⟨s1, s2, s3, s4⟩, s5, s6⟩ := hS; clear s5 s6; go_simp; with_reducible rfl); rotate_left))
  simp only [Act.put, List.setIfInBounds_toArray, List.set_cons_zero, List.set_cons_succ]
  iterate 2 (refine wpHold_step ?_ rfl (fun w' hS => ?_) ?_; (rotate_left; (obtain ⟨⟨s1, s2, s3, s4⟩, s5, s6⟩ := hS; clear s5 s6; go_simp; with_reducible rfl); rotate_left))
  simp only [Act.put, List.setIfInBounds_toArray, List.set_cons_zero, List.set_cons_succ]
  cases dr with
  | false =>
    iterate 9 (refine holdG_no (by kernel_rfl) ?_)
    simp only [Act.put, List.setIfInBounds_toArray, List.set_cons_zero, List.set_cons_succ]
    iterate 2 (refine wpHold_step ?_ rfl (fun w' hS => ?_) ?_; (rotate_left; (obtain ⟨⟨s1, s2, s3, s4⟩, s5, s6⟩ := hS; clear s5 s6; go_simp; with_reducible rfl); rotate_left))
    simp only [Act.put, List.setIfInBounds_toArray, List.set_cons_zero, List.set_cons_succ]
    iterate 8 (refine holdG_no (by kernel_rfl) ?_)
    simp only [Act.put, List.setIfInBounds_toArray, List.set_cons_zero, List.set_cons_succ]
    show wpTailG _ _ _ _ _ _ _ _ _
    refine tailG_no (by kernel_rfl) HSS.out ?_
    simp only [Act.put, List.setIfInBounds_toArray, List.set_cons_zero, List.set_cons_succ]
    refine tailG_yes (by kernel_rfl) fun KK hKK => ?_
    go_simp
    refine hKK _ _ (fun _ => HSS.out) ?_
    clear hKK KK
    refine tailG_yes (by kernel_rfl) fun KK hKK => ?_
    go_simp
    refine hKK _ _ (fun _ => HSS.out) ?_
    clear hKK KK
    refine tailG_nil (NoPanic.normal ?_)
    go_wp2
    go_ret
    exact ⟨by rw [HV.out]; rfl, HBD.out⟩
  | true =>
    iterate 3 (refine holdG_yes ?_ (by kernel_rfl) (fun w' hS => ?_) ?_; (rotate_left; (obtain ⟨⟨s1, s2, s3, s4⟩, s5, s6⟩ := hS; clear s5 s6; go_simp; with_reducible rfl); rotate_left))
    simp only [Act.put, List.setIfInBounds_toArray, List.set_cons_zero, List.set_cons_succ]
    refine hold_mid (by kernel_rfl) 76 _ rfl T1 0 u1 _ rfl (fun w' hS => hS.2.1) hu76 rfl z1 ?_
    simp only [Act.put, List.setIfInBounds_toArray, List.set_cons_zero, List.set_cons_succ]
    iterate 3 (refine holdG_yes ?_ (by kernel_rfl) (fun w' hS => ?_) ?_; (rotate_left; (obtain ⟨⟨s1, s2, s3, s4⟩, s5, s6⟩ := hS; clear s5 s6; go_simp; with_reducible rfl); rotate_left))
    simp only [Act.put, List.setIfInBounds_toArray, List.set_cons_zero, List.set_cons_succ]
    refine hold_mid (by kernel_rfl) 76 _ rfl T2 0 u2 _ rfl (fun w' hS => hS.2.2) hu76 rfl z2 ?_
    simp only [Act.put, List.setIfInBounds_toArray, List.set_cons_zero, List.set_cons_succ]
    refine hold_eql76 (by kernel_rfl) _ _ rfl _ _ df rfl rfl HEQ.out ?_
    simp only [Act.put, List.setIfInBounds_toArray, List.set_cons_zero, List.set_cons_succ]
    iterate 2 (refine wpHold_step ?_ rfl (fun w' hS => ?_) ?_; (rotate_left; (obtain ⟨⟨s1, s2, s3, s4⟩, s5, s6⟩ := hS; clear s5 s6; go_simp; with_reducible rfl); rotate_left))
    simp only [Act.put, List.setIfInBounds_toArray, List.set_cons_zero, List.set_cons_succ]
    cases df with
    | false =>
      iterate 8 (refine holdG_no (by kernel_rfl) ?_)
      simp only [Act.put, List.setIfInBounds_toArray, List.set_cons_zero, List.set_cons_succ]
      show wpTailG _ _ _ _ _ _ _ _ _
      refine tailG_no (by kernel_rfl) HSS.out ?_
      simp only [Act.put, List.setIfInBounds_toArray, List.set_cons_zero, List.set_cons_succ]
      refine tailG_yes (by kernel_rfl) fun KK hKK => ?_
      go_simp
      refine hKK _ _ (fun _ => HSS.out) ?_
      clear hKK KK
      refine tailG_yes (by kernel_rfl) fun KK hKK => ?_
      go_simp
      refine hKK _ _ (fun _ => HSS.out) ?_
      clear hKK KK
      refine tailG_nil (NoPanic.normal ?_)
      go_wp2
      go_ret
      exact ⟨by rw [HV.out]; rfl, HBD.out⟩
    | true =>
      iterate 4 (refine holdG_yes ?_ (by kernel_rfl) (fun w' hS => ?_) ?_; (rotate_left; (obtain ⟨⟨s1, s2, s3, s4⟩, s5, s6⟩ := hS; clear s5 s6; go_simp; with_reducible rfl); rotate_left))
      simp only [Act.put, List.setIfInBounds_toArray, List.set_cons_zero, List.set_cons_succ]
      iterate 4 (refine holdG_yes ?_ (by kernel_rfl) (fun w' hS => ?_) ?_; (rotate_left; (obtain ⟨⟨s1, s2, s3, s4⟩, s5, s6⟩ := hS; clear s5 s6; go_simp; with_reducible rfl); rotate_left))
      simp only [Act.put, List.setIfInBounds_toArray, List.set_cons_zero, List.set_cons_succ]
      show wpTailG _ _ _ _ _ _ _ _ _
      refine tailG_yes (by kernel_rfl) fun KK hKK => ?_
      go_simp
      refine (HSL.out w.drew HBD.out).mono ?_
      rintro e w2 ⟨rfl, hb2⟩
      have hb3 : Below w.heap.size w w2 := HBD.out.trans hb2
      have HS2 := hid (show (w2.cell? ⟨T1, 8705, none⟩ = some (.int .u8 (r1 : Int)) ∧ w2.cell? ⟨T2, 8705, none⟩ = some (.int .u8 (r2 : Int)) ∧ w2.cell? ⟨T1, 8704, none⟩ = some (.slice (some ⟨g1, 0, none⟩) n1 c1) ∧ w2.cell? ⟨T2, 8704, none⟩ = some (.slice (some ⟨g2, 0, none⟩) n2 c2)) ∧ w2.rangeAt T1 0 u1 ∧ w2.rangeAt T2 0 u2 from
        ⟨⟨(hb3.cell (p := ⟨T1, 8705, none⟩) hw1).trans q1, (hb3.cell (p := ⟨T2, 8705, none⟩) hw2).trans q2, (hb3.cell (p := ⟨T1, 8704, none⟩) hw1).trans p1, (hb3.cell (p := ⟨T2, 8704, none⟩) hw2).trans p2⟩,
          fun j v hv => (hb3.cell (p := ⟨T1, 0 + j, none⟩) hw1).trans (HSS.out.2.1 j v hv), fun j v hv => (hb3.cell (p := ⟨T2, 0 + j, none⟩) hw2).trans (HSS.out.2.2 j v hv)⟩)
      have HB3 := hid hb3
      refine hKK _ _ (fun _ => HS2.out) ?_
      clear hKK KK hb2 hb3
      refine tailG_yes (by kernel_rfl) fun KK hKK => ?_
      go_simp
      refine hKK _ _ (fun _ => HS2.out) ?_
      clear hKK KK
      refine tailG_yes (by kernel_rfl) fun KK hKK => ?_
      go_simp
      refine hKK _ _ (fun _ => HS2.out) ?_
      clear hKK KK
      refine tailG_nil (NoPanic.normal ?_)
      go_wp2
      go_ret
      exact ⟨by rw [HV.out]; rfl, HB3.out⟩
end Go.Proofs.Ytljlhlcoaajggaa
