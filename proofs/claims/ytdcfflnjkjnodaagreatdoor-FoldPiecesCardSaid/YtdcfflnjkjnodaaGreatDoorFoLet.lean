/- readLetters: both tables lie in memory that is new; and the evaluator takes the readings of tables as they are told. -/
import Derived.Test.YtdcfflnjkjnodaaGreatDoorFoPair
import Derived.Test.YtdcfflnjkjnodaaGreatDoorFoSpec
namespace Go.Proofs.YtdcfflnjkjnodaaGreatDoor
open Ev Go.RowKit
namespace Fo
noncomputable def ovT : OvT := fun f _ A => bif Nat.beq f 20 then (bif knows tabs A then some (.slice (some ⟨A.next, 0, none⟩) 23 23, A.push (.cells prV 68 false none 4)) else none)
  else bif Nat.beq f 40 then (bif knows tabs A then some (.map (some A.next), A.push (.map spE 17)) else none) else none
theorem MR_self {μ : Mu} : ∀ {es : List MapEntry}, mFlat es = true → (∀ e ∈ es, flat e.key = true) → MR μ es es
  | [], _, _ => by simp [MR]
  | e :: es, h, hk => by
    simp only [mFlat, Bool.and_eq_true] at h
    simp only [MR]
    exact ⟨e, es, rfl, hk e (List.mem_cons_self ..), rfl, rfl, flat_VR h.1, MR_self h.2 fun x hx => hk x (List.mem_cons_of_mem _ hx)⟩
theorem spE_keys : ∀ e ∈ spE, flat e.key = true := List.all_eq_true.1 (show (spE.all fun e => flat e.key) = true by kernel_rfl)
noncomputable def ovN : OvT := fun f args A => match args with
  | [] => ovT f args A
  | _ => none
theorem ovT_ok : OvOK Tryz.prog ovN := by
  intro f args A v A' h μ w args' W hargs
  unfold ovN at h
  split at h
  · have ha : args' = #[] := Array.toList_inj.1 (by simpa [LR] using hargs)
    subst ha
    unfold ovT at h
    cases h1 : Nat.beq f 20 with
    | true =>
      rw [h1, cond_true] at h
      have e1 := beqN h1
      subst e1
      cases hk : knows tabs A with
      | false => rw [hk] at h; cases h
      | true =>
        rw [hk] at h
        cases h
        refine (pairs_any w (knows_tbs tabs_ok hk W)).mono fun e w' ⟨hB, v, g, he, ⟨hv, hg⟩, hn⟩ => ?_
        subst he hv
        obtain ⟨W', E'⟩ := W.keeps hB
        obtain ⟨W2, E2⟩ := W'.found (g := g) (d := 0) (sz := 92) (k := 4) (o := .cells prV 68 false none 4) E' hn hg (fun i oi li hi hli => by have := W.lt hi hli; omega)
          ⟨_, _, rfl, by kernel_rfl, Nat.le_of_ble_eq_true (by kernel_rfl), fun _ => ⟨rfl, by kernel_rfl⟩, rfl, by
            have hl : prV.length = 92 := by kernel_rfl
            simp only [List.drop_zero]
            rw [List.take_of_length_le (Nat.le_refl _)]
            exact flatL_LR prV_flat, rfl⟩
        refine ⟨_, ?_, W2, E2⟩
        show VR _ _ _
        simp only [VR]
        exact ⟨⟨g, 0, none⟩, 23, rfl, .inl ⟨by decide, rfl, rfl, _, Mu.add_get (W'.dom A.next (Nat.le_refl _)), rfl⟩⟩
    | false =>
      rw [h1, cond_false] at h
      cases h2 : Nat.beq f 40 with
      | true =>
        rw [h2, cond_true] at h
        have e1 := beqN h2
        subst e1
        cases hk : knows tabs A with
        | false => rw [hk] at h; cases h
        | true =>
          rw [hk] at h
          cases h
          refine (spec_any w (knows_tbs tabs_ok hk W)).mono fun e w' ⟨hB, v, g, he, ⟨hv, hg⟩, hn⟩ => ?_
          subst he hv
          obtain ⟨W', E'⟩ := W.keeps hB
          obtain ⟨W2, E2⟩ := W'.found (g := g) (d := 0) (sz := 0) (k := 0) (o := .map spE 17) E' hn hg (fun i oi li hi hli => by have := W.lt hi hli; omega)
            ⟨_, rfl, MR_self spE_flat spE_keys⟩
          refine ⟨_, ?_, W2, E2⟩
          show VR _ _ _
          simp only [VR]
          exact ⟨_, rfl, Mu.add_get (W'.dom A.next (Nat.le_refl _))⟩
      | false => rw [h2] at h; cases h
  · cases h
noncomputable def evL : CallT := evG Tryz.prog same7 1000000 (evDraw Tryz.prog same7) ovN 60
theorem evL_ok : CallOK Tryz.prog evL := evG_ok same7_ok (fun _ hc => evDraw_ok mixed same7_ok hc) ovT_ok 60
noncomputable def chkL (u : Value) (A : AW) : Bool := match u with
  | .agg ⟨[a, b]⟩ => chkP a A && chkS b A
  | _ => false
theorem let_run : runC evL tabs 24 [] chkL = true := by kernel_rfl
theorem letters_any (w : World) (hw : Tbs tabs w) : Calls Tryz.prog 24 #[] w fun e w' => Below w.heap.size w w' ∧ ∃ g K, e = .returned (.agg #[.slice (some ⟨g, 0, none⟩) 23 23, .map (some K)]) ∧ w'.heap[g]? = some (.cells ⟨prV⟩ 68 (0, 0)) ∧ w'.heap[K]? = some (.map ⟨spE⟩ 17) ∧ w.heap.size ≤ g ∧ w.heap.size ≤ K ∧ g ≠ K := by
  refine (closed_memC evL_ok tabs_ok rfl let_run w hw).mono fun e w' ⟨hB, v, u, μ, A, he, hc, hv, W, hn⟩ => ⟨hB, ?_⟩
  unfold chkL at hc
  split at hc
  · rename_i a b
    rw [Bool.and_eq_true] at hc
    simp only [VR] at hv
    obtain ⟨ys, rfl, hl⟩ := hv
    simp only [LR] at hl
    obtain ⟨y1, t1, q1, va, y2, t2, q2, vb, q3⟩ := hl
    subst q3 q2
    have q4 : ys = #[y1, y2] := Array.toList_inj.1 q1
    subst q4
    obtain ⟨ha, hb⟩ := hc
    unfold chkP at ha
    unfold chkS at hb
    split at ha
    · rename_i i n c
      split at hb
      · rename_i j
        simp only [Bool.and_eq_true] at ha hb
        obtain ⟨⟨⟨h1, h2⟩, h3⟩, h4⟩ := ha
        obtain ⟨k3, k4⟩ := hb
        split at h4
        · rename_i obj hobj
          split at k4
          · rename_i es c2 hobj2
            have ho := objEq_eq h4
            subst ho
            have e1 := beqN h1
            have e2 := beqN h2
            subst e1 e2
            simp only [Bool.and_eq_true] at k4
            have e3 := mEq_eq k4.1
            have e4 := beqN k4.2
            subst e3 e4
            simp only [VR] at va vb
            obtain ⟨a', c', rfl, hs⟩ := va
            obtain ⟨l2, rfl, hl2⟩ := vb
            obtain ⟨o2, m1, es', rfl, m3⟩ := W.has j _ _ hobj2 hl2
            have m4 := MR_flat spE_flat m3
            have m5 : es' = ⟨spE⟩ := Array.toList_inj.1 m4
            subst m5
            rcases hs with ⟨_, rfl, _, l, hl, rfl⟩ | ⟨h5, _⟩
            · simp only at hl
              obtain ⟨o', g1, c', fr, rfl, g3, g4, g5, g6, g7, g8⟩ := W.has i _ _ hobj hl
              obtain ⟨g9, g10⟩ := g5 rfl
              have g11 := flatL_eq prV_flat g7
              rw [g9, List.drop_zero, List.take_of_length_le (by rw [Array.length_toList, g3, ← g10]; exact Nat.le_refl _)] at g11
              have g12 : c' = ⟨prV⟩ := Array.toList_inj.1 g11
              simp only [FZ] at g8
              subst g12 g8
              refine ⟨l.b, l2.b, by rw [he]; simp [g9], g1, m1, hn i _ l hobj hl (tab_id h3), hn j _ l2 hobj2 hl2 (tab_id k3), fun e => ?_⟩
              rw [e, m1] at g1
              cases g1
            · exact absurd h5 (by decide)
          · cases k4
        · cases h4
      · cases hb
    · cases ha
  · cases hc
end Fo
end Go.Proofs.YtdcfflnjkjnodaaGreatDoor
