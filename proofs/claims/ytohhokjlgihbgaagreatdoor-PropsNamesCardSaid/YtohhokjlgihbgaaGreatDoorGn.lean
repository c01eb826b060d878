/- The contract of slices.Replace at ranges, one laid in the place of one ahead of others. -/
import Derived.Test.YtohhokjlgihbgaaGreatDoorGm
import Derived.OrdersHeld
import Derived.StillTail
import Derived.Tactics
import Derived.Deep.RegionHeld3
namespace Go.Proofs.YtohhokjlgihbgaaGreatDoor
open Go.RowKit Go.Lib

theorem clear_none (w : World) (ty : TypeId) (a : Option Addr) (c : Nat) : (Builtin.clear_ #[64] ty #[.slice a 0 c]).run Tryz.prog w = .ok (.tuple #[]) w := by
  cases a <;> simp [Builtin.clear_, run_underlying Tryz.underlying64]
set_option maxHeartbeats 2000000 in
set_option maxRecDepth 100000 in
theorem repl_one (B vb q n cap i j : Nat) (A : List Tr) (g : Tr) (w : World) (h : w.ownsRow B 86 3 (.slice (some ⟨q, 0, none⟩) n cap) n (rks A)) (hA : n = A.length) (hl : n ≤ 100000000) (hij : i + 1 = j) (hjn : j < n)
    (hv : w.heap[vb]? = some (.cells (rkc (rkT g)).toArray 86 (0, 0))) :
    Calls Tryz.prog 101 #[.slice (some ⟨q, 0, none⟩) n cap, .int .i64 (i : Int), .int .i64 (j : Int), .slice (some ⟨vb, 0, none⟩) 1 1] w fun e w' => ∃ v', e = .returned v' ∧ w'.ownsRow B 86 3 v' (i + 1 + (n - j)) (rks (A.take i ++ g :: A.drop j)) ∧ Blw B (some q) w w' := by
  obtain ⟨hnc, hcm, cur, hcur, hcs⟩ := own_cap h
  have hc63 : cap ≤ 9223372036854775807 := by unfold maxLen at hcm; omega
  have HO := hid h
  have HV := hid hv
  have HA := hid hA
  obtain ⟨t, ht⟩ : ∃ t, t = i + 1 + (n - j) := ⟨_, rfl⟩
  have HTT := hid ht
  have n1 : ((i : Int) == (j : Int)) = false := beq_eq_false_iff_ne.2 (by omega)
  have n2 : ((j : Int) == (n : Int)) = false := beq_eq_false_iff_ne.2 (by omega)
  have z0 : (0 : Int) ≤ (i : Int) := by omega
  have z1 : (i : Int) ≤ (j : Int) := by omega
  have z2 : (j : Int) ≤ (cap : Int) := by omega
  have z3 : (j : Int) ≤ (n : Int) := by omega
  have z4 : (i : Int) ≤ (n : Int) := by omega
  have z5 : (i : Int) ≤ (cap : Int) := by omega
  have m1 : i ≤ j := by omega
  have m2 : j ≤ cap := by omega
  have m3 : j ≤ n := by omega
  have m4 : i ≤ cap := by omega
  have hb1 : ¬ (cap = i) := by omega
  have hb2 : ¬ (cap = j) := by omega
  rw [← ht]
  clear h hv hcur hcs hcm hA
  go_enter Tryz.func101, Tryz.ntmps101
  have e1 : IntKind.i64.wrap ((i : Int) + 1) = ((i + 1 : Nat) : Int) := by rw [IntKind.wrap_i64]; omega
  have e2 : (n : Int) - (j : Int) = ((n - j : Nat) : Int) := by omega
  have e3 : ((i + 1 : Nat) : Int) + ((n - j : Nat) : Int) = (t : Int) := by omega
  have e3' : (i : Int) + 1 + ((n - j : Nat) : Int) = (t : Int) := by omega
  have e4 : IntKind.i64.wrap (t : Int) = (t : Int) := by rw [IntKind.wrap_i64]; omega
  have e5 : i + 1 + (n - j) = t := ht.symm
  have HIJ := hid hij
  clear ht hij
  go_wp2
  go_quiet (fail)
  have hij := HIJ.out
  have h0 : (w.drewN nq).ownsRow B 86 3 (.slice (some ⟨q, 0, none⟩) n cap) n (rks A) := HO.out
  have v0 : (w.drewN nq).heap[vb]? = some (.cells (rkc (rkT g)).toArray 86 (0, 0)) := HV.out
  have b0 : Blw B (some q) w (w.drewN nq) := Blw.drewN B (some q) w nq
  obtain ⟨W0, hW0⟩ : ∃ W0, W0 = w.drewN nq := ⟨_, rfl⟩
  rw [← hW0] at h0 v0 b0 ⊢
  clear hW0
  have hA := HA.out
  have hti : 1 ≤ t - i := by omega
  have hcp1 : ∀ ty dc, (Builtin.copy_ #[64, 64] ty #[.slice (some ⟨q, i * 3, none⟩) (t - i) dc, .slice (some ⟨vb, 0, none⟩) 1 1]).run Tryz.prog W0 = .ok (goInt (Nat.min 1 (t - i))) (W0.setCells q (i * 3) (rkc (rkT g))) := fun ty dc =>
    run_copy3 W0 _ _ ty 86 q (i * 3) (t - i) dc ⟨vb, 0, none⟩ 1 1 (rkc (rkT g)) Tryz.underlying64 size36 (by simp only [Nat.min_def]; rw [if_pos (by omega)]; rfl)
      (fun k u hk => by
        rw [Addr.add_lit]
        show W0.cell? ⟨vb, 0 + k, none⟩ = _
        rw [cell_of_row W0 vb _ _ 86 (0, 0) v0, Nat.zero_add]
        simpa using hk)
      (fun k hk => by
        have hk' : k < 3 := hk
        rw [h0.cellAt _ (by omega), List.getElem?_eq_getElem (by rw [rks_len]; omega)]
        rfl)
      (fun k hk => h0.frozenAt _) (rkc_one _)
  obtain ⟨o1, b1⟩ := own_sets (rkc (rkT g)) (i * 3) _ W0 h0
  rw [rep_one A g i (by omega)] at o1
  obtain ⟨W1, hW1⟩ : ∃ W1, W1 = W0.setCells q (i * 3) (rkc (rkT g)) := ⟨_, rfl⟩
  rw [← hW1] at hcp1 o1 b1
  have hA1 : (A.take i ++ g :: A.drop (i + 1)).drop j = A.drop j := by
    rw [List.drop_append, List.drop_of_length_le (by rw [List.length_take]; omega), List.nil_append, List.length_take, Nat.min_eq_left (by omega), show j - i = (j - i - 1) + 1 by omega, List.drop_succ_cons, List.drop_drop, show i + 1 + (j - i - 1) = j by omega]
  have hA1l : (A.take i ++ g :: A.drop (i + 1)).length = n := by rw [List.length_append, List.length_take, List.length_cons, List.length_drop]; omega
  have hcp2 : ∀ ty dc sc, (Builtin.copy_ #[64, 64] ty #[.slice (some ⟨q, (i + 1) * 3, none⟩) (t - (i + 1)) dc, .slice (some ⟨q, j * 3, none⟩) (n - j) sc]).run Tryz.prog W1.drew = .ok (goInt (Nat.min (n - j) (t - (i + 1)))) (W1.drew.setCells q ((i + 1) * 3) (rks (A.drop j))) := fun ty dc sc =>
    run_copy3 W1.drew _ _ ty 86 q ((i + 1) * 3) (t - (i + 1)) dc ⟨q, j * 3, none⟩ (n - j) sc (rks (A.drop j)) Tryz.underlying64 size36 (by rw [rks_len, List.length_drop, ← hA]; simp only [Nat.min_def]; split <;> omega)
      (fun k u hk => by
        have hkl := (List.getElem?_eq_some_iff.1 hk).1
        rw [rks_len, List.length_drop, ← hA] at hkl
        rw [Addr.add_lit]
        show W1.cell? ⟨q, j * 3 + k, none⟩ = _
        rw [o1.cellAt _ (by omega), ← List.getElem?_drop, rks_drop _ j (by omega), hA1]
        exact hk)
      (fun k hk => by
        rw [rks_len, List.length_drop, ← hA] at hk
        show (W1.cell? ⟨q, (i + 1) * 3 + k, none⟩).isSome = true
        rw [o1.cellAt _ (by omega), List.getElem?_eq_getElem (by rw [rks_len]; omega)]
        rfl)
      (fun k hk => o1.frozenAt _) (rks_one _)
  obtain ⟨o2, b2⟩ := own_sets (rks (A.drop j)) ((i + 1) * 3) _ W1.drew o1.drew
  obtain ⟨W2, hW2⟩ : ∃ W2, W2 = W1.drew.setCells q ((i + 1) * 3) (rks (A.drop j)) := ⟨_, rfl⟩
  rw [← hW2] at hcp2 o2 b2
  have o4 := o2
  rw [show n = t by have h5 := HTT.out; omega] at o4
  have o5 := own_less o4 (Nat.le_refl t)
  rw [show t * 3 = (i + 1 + (A.length - j)) * 3 by have h5 := HTT.out; omega, rep_tail A g i j (by omega) (by omega)] at o5
  have HO4 := hid o5
  have hclr' := fun ty a c => clear_none W2 ty a c
  have htn : n - t = 0 := by have h5 := HTT.out; omega
  have HB4 := hid (b0.trans (b1.trans ((Blw.drew B (some q) W1).trans b2)))
  have t1 : (t : Int) ≤ (cap : Int) := by omega
  have t2 : t ≤ cap := by omega
  have t3 : ¬ (cap : Int) < (t : Int) := by omega
  have t4 : (t : Int) ≤ (n : Int) := by omega
  have t5 : t ≤ n := by omega
  have t6 : (i : Int) ≤ (t : Int) := by omega
  have t7 : i ≤ t := by omega
  have t8 : ((i + 1 : Nat) : Int) ≤ (j : Int) := by omega
  have t8' : (i : Int) + 1 ≤ (j : Int) := by omega
  have t9 : ((i + 1 : Nat) : Int) ≤ (t : Int) := by omega
  have t9' : (i : Int) + 1 ≤ (t : Int) := by omega
  have t10 : i + 1 ≤ t := by omega
  have d1 : ((i + 1 : Nat) : Int).toNat = i + 1 := by omega
  have z6 : (0 : Int) ≤ (i : Int) + 1 := by omega
  have z7 : (0 : Int) ≤ (t : Int) := by omega
  have hb3 : ¬ (cap = i + 1) := by omega
  have hm1 : Nat.min 1 (t - i) = 1 := by simp only [Nat.min_def]; rw [if_pos (by omega)]
  clear o1 o2 o4 o5 b0 b1 b2 h0 v0 hA1 hA1l hW1 hW2 hA hti hij
  go_wp2_with (first | (at_builtin; refine wpList_copy_runI _ rfl _ _ 64 64 rfl _ _ rfl rfl (hcp1 _ _) ?_) | fail)
  have mixed : Tryz.prog.follows .mixedOrders = true := by kernel_rfl
  go_region_law_o (refine step_copy_runI rfl _ _ 64 64 rfl _ _ (by simp [Act.eval, Act.put]) (by simp [Act.eval, Act.put]) (hcp2 _ _ _) ?_)
  by_cases hb4 : cap = t
  · go_wp2
    go_ret
    exact ⟨_, rfl, HO4.out, HB4.out⟩
  · go_wp2
    go_ret
    exact ⟨_, rfl, HO4.out, HB4.out⟩
end Go.Proofs.YtohhokjlgihbgaaGreatDoor
/- The contract of slices.Replace at ranges, one laid in the place of the last ones; and as a whole. -/
namespace Go.Proofs.YtohhokjlgihbgaaGreatDoor
open Go.RowKit Go.Lib

theorem lset_out : ∀ (vs xs : List Value) (o : Nat), xs.length ≤ o → lset xs o vs = xs
  | [], _, _, _ => rfl
  | v :: r, xs, o, h => by
    show lset (xs.set o v) (o + 1) r = xs
    rw [List.set_eq_of_length_le h]
    exact lset_out r xs (o + 1) (by omega)
set_option maxHeartbeats 2000000 in
set_option maxRecDepth 100000 in
theorem repl_end (B vb q n cap i : Nat) (A : List Tr) (g : Tr) (w : World) (h : w.ownsRow B 86 3 (.slice (some ⟨q, 0, none⟩) n cap) n (rks A)) (hB : B ≤ w.heap.size) (hA : n = A.length) (hl : n ≤ 100000000) (hin : i < n)
    (hv : w.heap[vb]? = some (.cells (rkc (rkT g)).toArray 86 (0, 0))) :
    Calls Tryz.prog 101 #[.slice (some ⟨q, 0, none⟩) n cap, .int .i64 (i : Int), .int .i64 (n : Int), .slice (some ⟨vb, 0, none⟩) 1 1] w fun e w' => ∃ v', e = .returned v' ∧ w'.ownsRow B 86 3 v' (i + 1) (rks (A.take i ++ [g])) ∧ Blw B (some q) w w' := by
  obtain ⟨i0, hi86, hz0, hz1, hz2⟩ := info_parts Tryz.info86
  obtain ⟨hnc, hcm, cur, hcur, hcs⟩ := own_cap h
  have hc63 : cap ≤ 9223372036854775807 := by unfold maxLen at hcm; omega
  have h0 := own_less h (show i ≤ n by omega)
  rw [rks_take] at h0
  have HO := hid h0
  have hq := (h.lt q rfl).1
  have HNW := hid (show ∀ k u, (rkc (rkT g))[k]? = some u → w.cell? ((⟨vb, 0, none⟩ : Addr).add k) = some u from fun k u hk => by
    rw [Addr.add_lit, cell_of_row w vb _ _ 86 (0, 0) hv, Nat.zero_add]
    simpa using hk)
  have n1 : ((i : Int) == (n : Int)) = false := beq_eq_false_iff_ne.2 (by omega)
  have z0 : (0 : Int) ≤ (i : Int) := by omega
  have z1 : (i : Int) ≤ (n : Int) := by omega
  have z2 : (n : Int) ≤ (cap : Int) := by omega
  have z5 : (i : Int) ≤ (cap : Int) := by omega
  have m1 : i ≤ n := by omega
  have m4 : i ≤ cap := by omega
  have hb1 : ¬ (cap = i) := by omega
  have HW := hid (show ∀ w2 : World, w2.ownsRow B 86 3 (.slice (some ⟨q, 0, none⟩) (i + 1) cap) (i + 1) (rks (A.take i) ++ rkc (rkT g)) → w.grownBy w2 (some q) → w2.ownsRow B 86 3 (.slice (some ⟨q, 0, none⟩) (i + 1) cap) (i + 1) (rks (A.take i ++ [g])) ∧ Blw B (some q) w w2 from fun w2 o2 gr2 => by
    rw [rks_snoc]
    exact ⟨o2, Blw.grown gr2 hB (fun k hk => by injection hk with hk; rw [← hk]; exact hq)⟩)
  by_cases hlast : i + 1 = n
  · have l1 : ¬ ((i : Int) + 1 < (n : Int)) := by omega
    have l2 : ¬ (((i + 1 : Nat) : Int) < (n : Int)) := by omega
    have HL := hid hlast
    clear h h0 hv hcur hcs hcm hA hlast
    go_enter Tryz.func101, Tryz.ntmps101
    go_wp2_with (at_builtin; refine wpList_append_fits _ rfl _ _ 64 rfl B 86 i0 3 Tryz.underlying64 hi86 hz1 q i cap (rks (A.take i)) rfl HO.out ⟨vb, 0, none⟩ 1 1 (rkc (rkT g)) rfl rfl HNW.out (rkc_one _) (by omega) ?_; intro w2 o2 gr2)
    obtain ⟨p1, p2⟩ := HW.out w2 o2 gr2
    have HP1 := hid p1
    have HP2 := hid p2
    clear p1 p2 o2 gr2
    go_ret
    exact ⟨_, rfl, HP1.out, HP2.out⟩
  · have l1 : (i : Int) + 1 < (n : Int) := by omega
    have l2 : ((i + 1 : Nat) : Int) < (n : Int) := by omega
    have l3 : (i : Int) + 1 ≤ (n : Int) := by omega
    have l4 : ((i + 1 : Nat) : Int) ≤ (n : Int) := by omega
    have l5 : (0 : Int) ≤ (i : Int) + 1 := by omega
    have l6 : i + 1 ≤ n := by omega
    have hb2 : ¬ (cap = i + 1) := by omega
    have d1 : ((i + 1 : Nat) : Int).toNat = i + 1 := by omega
    have HCL := hid (show ∀ w2 : World, w2.ownsRow B 86 3 (.slice (some ⟨q, 0, none⟩) (i + 1) cap) (i + 1) (rks (A.take i ++ [g])) → ∃ w3, (∀ ty, (Builtin.clear_ #[64] ty #[.slice (some ⟨q, (i + 1) * 3, none⟩) (n - (i + 1)) (cap - (i + 1))]).run Tryz.prog w2 = .ok (.tuple #[]) w3) ∧ w3.ownsRow B 86 3 (.slice (some ⟨q, 0, none⟩) (i + 1) cap) (i + 1) (rks (A.take i ++ [g])) ∧ Blw B (some q) w2 w3 from fun w2 o2 => by
      obtain ⟨_, _, cur2, hcur2, hcs2⟩ := own_cap o2
      obtain ⟨o3, b3⟩ := own_sets (Builtin.zeroCells (Value.agg #[.int .i32 0, .int .i32 0, .int .i64 0]).cells (n - (i + 1))).toList ((i + 1) * 3) _ w2 o2
      rw [lset_out _ _ _ (by rw [o2.1]; exact Nat.le_refl _)] at o3
      refine ⟨_, fun ty => run_clear86 w2 ty q ((i + 1) * 3) (n - (i + 1)) (cap - (i + 1)) (by omega) (fun k hk => ?_) (fun k hk => o2.frozenAt _), o3, b3⟩
      rw [cell_of_row w2 q _ cur2 86 (0, 0) hcur2, Array.getElem?_eq_getElem (by rw [hcs2]; omega)]
      rfl)
    clear h h0 hv hcur hcs hcm hA hlast
    go_enter Tryz.func101, Tryz.ntmps101
    go_wp2_with (at_builtin; refine wpList_append_fits _ rfl _ _ 64 rfl B 86 i0 3 Tryz.underlying64 hi86 hz1 q i cap (rks (A.take i)) rfl HO.out ⟨vb, 0, none⟩ 1 1 (rkc (rkT g)) rfl rfl HNW.out (rkc_one _) (by omega) ?_; intro w2 o2 gr2; obtain ⟨p1, p2⟩ := HW.out w2 o2 gr2; obtain ⟨w3, hclr, p3, p4⟩ := HCL.out w2 p1; have HP3 := hid p3; have HP4 := hid (p2.trans p4); clear p1 p2 p3 p4 o2 gr2)
    go_ret
    exact ⟨_, rfl, HP3.out, HP4.out⟩
theorem own_cap' {w : World} {B e s n c : Nat} {ao : Option Addr} {xs : List Value} (h : w.ownsRow B e s (.slice ao n c) n xs) : n ≤ c := by
  rcases h.2 with ⟨h0, h1⟩ | ⟨q, cap, cur, hv, _, _, hc, _⟩
  · omega
  · simp only [Value.slice.injEq] at hv
    omega
set_option maxHeartbeats 1000000 in
set_option maxRecDepth 100000 in
theorem repl_ins (B vb i : Nat) (A : List Tr) (g : Tr) (vo : Option Addr) (vc : Nat) (w : World) (h : w.ownsRow B 86 3 (.slice vo A.length vc) A.length (rks A)) (hB : B ≤ w.heap.size) (hl : A.length ≤ 100000000) (hi : i ≤ A.length) (hq : (Value.slice vo A.length vc).ownBlock ≠ some vb)
    (hv : w.heap[vb]? = some (.cells (rkc (rkT g)).toArray 86 (0, 0))) :
    Calls Tryz.prog 101 #[.slice vo A.length vc, .int .i64 (i : Int), .int .i64 (i : Int), .slice (some ⟨vb, 0, none⟩) 1 1] w fun e w' => ∃ v', e = .returned v' ∧ w'.ownsRow B 86 3 v' (A.length + 1) (rks (A.take i ++ g :: A.drop i)) ∧ Blw B (Value.slice vo A.length vc).ownBlock w w' := by
  have HI := hid (insert_any B vb i A g (.slice vo A.length vc) w h hB hl hi hq hv)
  have hcap := own_cap' h
  obtain ⟨n, hn⟩ : ∃ n, n = A.length := ⟨_, rfl⟩
  rw [← hn] at HI hi hcap hl ⊢
  have z0 : (0 : Int) ≤ (i : Int) := by omega
  have z2 : (i : Int) ≤ (vc : Int) := by omega
  have m2 : i ≤ vc := by omega
  clear h hn hq hv
  rcases vo with _ | a
  · go_enter Tryz.func101, Tryz.ntmps101
    go_wp2_with fail
    refine HI.out.mono ?_
    rintro e w1 ⟨v1, rfl, o1, b1⟩
    have HO := hid o1
    have HB := hid b1
    clear o1 b1 HI
    go_wp2
    go_ret
    exact ⟨_, rfl, HO.out, HB.out⟩
  · by_cases hb : vc = i
    · subst hb
      have hin : n = vc := by omega
      subst hin
      clear hcap hi z2 m2
      go_enter Tryz.func101, Tryz.ntmps101
      go_wp2_with fail
      refine HI.out.mono ?_
      rintro e w1 ⟨v1, rfl, o1, b1⟩
      have HO := hid o1
      have HB := hid b1
      clear o1 b1 HI
      go_wp2
      go_ret
      exact ⟨_, rfl, HO.out, HB.out⟩
    · go_enter Tryz.func101, Tryz.ntmps101
      go_wp2_with fail
      refine HI.out.mono ?_
      rintro e w1 ⟨v1, rfl, o1, b1⟩
      have HO := hid o1
      have HB := hid b1
      clear o1 b1 HI
      go_wp2
      go_ret
      exact ⟨_, rfl, HO.out, HB.out⟩
theorem replace_any (B vb i j : Nat) (A : List Tr) (g : Tr) (v : Value) (w : World) (h : w.ownsRow B 86 3 v A.length (rks A)) (hB : B ≤ w.heap.size) (hl : A.length ≤ 100000000) (hij : i ≤ j) (hj : j ≤ A.length) (hq : v.ownBlock ≠ some vb)
    (hv : w.heap[vb]? = some (.cells (rkc (rkT g)).toArray 86 (0, 0))) :
    Calls Tryz.prog 101 #[v, .int .i64 (i : Int), .int .i64 (j : Int), .slice (some ⟨vb, 0, none⟩) 1 1] w fun e w' => ∃ v', e = .returned v' ∧ w'.ownsRow B 86 3 v' (i + 1 + (A.length - j)) (rks (A.take i ++ g :: A.drop j)) ∧ Blw B v.ownBlock w w' := by
  obtain ⟨vo, vc, rfl⟩ := own_form h
  by_cases h1 : i = j
  · subst h1
    have h5 := repl_ins B vb i A g vo vc w h hB hl hj hq hv
    rw [show i + 1 + (A.length - i) = A.length + 1 by omega]
    exact h5
  · obtain ⟨q, cap', hve, hqB, hqw⟩ := h.form (by omega)
    cases hve
    by_cases h2 : j = A.length
    · subst h2
      have h5 := repl_end B vb q A.length vc i A g w h hB rfl hl (by omega) hv
      rw [show i + 1 + (A.length - A.length) = i + 1 by omega, List.drop_of_length_le (Nat.le_refl _)]
      exact h5
    · by_cases h3 : i + 1 = j
      · exact repl_one B vb q A.length vc i j A g w h rfl hl h3 (by omega) hv
      · exact repl_mid B vb q A.length vc i j A g w h rfl hl (by omega) (by omega) hv
end Go.Proofs.YtohhokjlgihbgaaGreatDoor
/- Regions that draw their order, whose beginning only reads what the middle leaves alone, and whose end may write what the beginning read. -/
namespace Go.Proofs.YtohhokjlgihbgaaGreatDoor

section
variable {P : Program} {ops : Array Oper} {Q : Exit → Act → World → Prop} {md : Region.Mode} {S : World → Prop} {fin : Nat → Bool}

/-- Whatever order is picked from here on, and S holds behind every operation but the final ones. -/
def anyT (P : Program) (md : Region.Mode) (ops : Array Oper) (Q : Exit → Act → World → Prop) (S : World → Prop) (fin : Nat → Bool) : Nat → Array Bool → Act → World → Prop
  | 0, listed, a, w => Region.ready md ops listed = [] ∧ Q .normal a w
  | f + 1, listed, a, w => (Region.ready md ops listed = [] → Q .normal a w) ∧
      ∀ i ∈ Region.ready md ops listed, wpOp P ops Q i (fun a' w' => (fin i = false → S w') ∧ anyT P md ops Q S fin f (listed.setIfInBounds i true) a' w') a w
theorem anyT_any : ∀ (f : Nat) (listed : Array Bool) (a : Act) (w : World), anyT P md ops Q S fin f listed a w → wpAny P md ops Q f listed a w
  | 0, _, _, _, h => h
  | f + 1, _, _, _, h => ⟨h.1, fun i hi => wpOp_mono (fun a' w' h' => anyT_any f _ a' w' h'.2) (h.2 i hi)⟩

theorem anyT_first {i : Nat} {oi : Oper} {v : Value} (hi : ops[i]? = some oi) (hsel : ∀ (j : Nat) (o : Oper) cs b, ops[j]? = some o → o.op ≠ .select cs b)
    (hQ : ∀ c a w, Q (.panic c) (a.put oi.dst v) w → Q (.panic c) a w) (hfi : fin i = false) (hfin : ∀ j, fin j = true → Region.waitsFor md ops j i = true) :
    ∀ (f : Nat) (listed : Array Bool) (a : Act) (w : World),
      (∀ j oj, ops[j]? = some oj → j ≠ i → listed.getD j true = false → (∀ e ∈ oj.after, Region.binds md e = true → e.on ≠ i) → oi.apart ops oj = true) →
      i ∈ Region.ready md ops listed → YieldsIf P ops S oi v a → S w →
      anyT P md ops Q S fin f (listed.setIfInBounds i true) (a.put oi.dst v) w → anyT P md ops Q S fin (f + 1) listed a w := by
  intro f
  induction f with
  | zero =>
    intro listed a w _ hr hy hS H
    refine ⟨fun h => (by rw [h] at hr; cases hr), fun j hj => ?_⟩
    by_cases hji : j = i
    · subst hji; exact hy.wpOp hi hS ⟨fun _ => hS, H⟩
    · have h9 := ready_mono hj hji
      rw [H.1] at h9
      cases h9
  | succ f ih =>
    intro listed a w hfree hr hy hS H
    refine ⟨fun h => (by rw [h] at hr; cases hr), fun j hj => ?_⟩
    by_cases hji : j = i
    · subst hji; exact hy.wpOp hi hS ⟨fun _ => hS, H⟩
    · have h1 := H.2 j (ready_mono hj hji)
      obtain ⟨hjun, oj, hoj, hall⟩ := mem_ready.1 hj
      have hnot : ∀ e ∈ oj.after, Region.binds md e = true → e.on ≠ i := fun e he hb heq => by
        have h5 := hall e he hb
        have h0 := (mem_ready.1 hr).1
        rw [heq] at h5
        rcases Nat.lt_or_ge i listed.size with h' | h'
        · simp [h'] at h0 h5; rw [h0] at h5; cases h5
        · simp [Array.getElem?_eq_none h'] at h5
      have hfj : fin j = false := by
        cases hf : fin j with
        | false => rfl
        | true =>
          obtain ⟨ok, hok, e, he, hb, heq⟩ := Region.waitsFor_spec (hfin j hf)
          rw [hoj] at hok
          cases hok
          exact absurd heq (hnot e he hb)
      have h2 := wpOp_putIf hoj (hfree j oj hoj hji hjun hnot) (fun cs b => hsel i oi cs b hi) (fun cs b => hsel j oj cs b hoj) hQ hy h1
      have hfree' : ∀ k ok, ops[k]? = some ok → k ≠ i → (listed.setIfInBounds j true).getD k true = false →
          (∀ e ∈ ok.after, Region.binds md e = true → e.on ≠ i) → oi.apart ops ok = true := fun k ok hk hki hun hno => by
        refine hfree k ok hk hki ?_ hno
        by_cases hjk : j = k
        · subst hjk; exact hjun
        · rw [getD_set_ne true hjk] at hun; exact hun
      refine wpOp_mono (fun a' w' h3 => ⟨h3.2.1, ih (listed.setIfInBounds j true) a' w' hfree' (ready_mono hr (Ne.symm hji)) h3.1 (h3.2.1 hfj) ?_⟩) h2
      rw [Array.setIfInBounds_comm _ _ hji]
      exact h3.2.2

/-- The beginning, in the order of the text. -/
def wpHold (P : Program) (ops : Array Oper) (S : World → Prop) (L : Act → Prop) : List Oper → Act → Prop
  | [], a => L a
  | o :: r, a => ∃ v, YieldsIf P ops S o v a ∧ wpHold P ops S L r (a.put o.dst v)
/-- The end, in the order of the text. -/
def wpTail (P : Program) (ops : Array Oper) (Q : Exit → Act → World → Prop) (S : World → Prop) (fin : Nat → Bool) : Nat → List Oper → Act → World → Prop
  | _, [], a, w => Q .normal a w
  | k, o :: r, a, w => o.wp P a w (fun a' w' => (fin k = false → S w') ∧ wpTail P ops Q S fin (k + 1) r a' w') Q
theorem wpHold_step {L : Act → Prop} {o : Oper} {r : List Oper} {a : Act} (v : Value) (hg : o.guard = none) (h1 : ∀ w, S w → (execOp a.eval o).run P w = .ok (.value v) w) (h2 : wpHold P ops S L r (a.put o.dst v)) : wpHold P ops S L (o :: r) a :=
  ⟨v, .inl ⟨by simp [Region.wanted, hg], h1⟩, h2⟩
theorem wpTail_step {o : Oper} {r : List Oper} {a : Act} {w : World} {k : Nat} (h : ∀ K : Act → World → Prop, (∀ a w, (fin k = false → S w) → wpTail P ops Q S fin (k + 1) r a w → K a w) → o.wp P a w K Q) : wpTail P ops Q S fin k (o :: r) a w :=
  h _ fun _ _ h1 h2 => ⟨h1, h2⟩

theorem anyT_tail : ∀ (l : List Oper) (k : Nat) (listed : Array Bool) (a : Act) (w : World), (∀ j, l[j]? = ops[k + j]?) → (∀ o ∈ l, o.guard = none) →
    Region.seqB md ops l.length k listed = true → wpTail P ops Q S fin k l a w → anyT P md ops Q S fin l.length listed a w
  | [], _, _, _, _, _, _, hB, h => ⟨by simpa [Region.seqB] using hB, h⟩
  | o :: l, k, listed, a, w, hl, hg, hB, h => by
    have h0 : ops[k]? = some o := by simpa using (hl 0).symm
    simp only [List.length_cons, Region.seqB, Bool.and_eq_true, decide_eq_true_eq] at hB
    refine ⟨fun h1 => (by rw [hB.1] at h1; cases h1), fun i hi => ?_⟩
    rw [hB.1] at hi
    have hik : i = k := by simpa using hi
    subst hik
    have hw : wpOp P ops Q i (fun a' w' => (fin i = false → S w') ∧ wpTail P ops Q S fin (i + 1) l a' w') a w := by
      unfold wpOp
      simp only [h0]
      rw [if_pos (by simp [Region.wanted, hg o (by simp)])]
      exact .inl h
    exact wpOp_mono (fun a' w' h' => ⟨h'.1, anyT_tail l (i + 1) _ a' w' (fun j => by have h5 := hl (j + 1); simpa [Nat.add_assoc, Nat.add_comm 1 j] using h5) (fun o ho => hg o (by simp [ho])) hB.2 h'.2⟩) hw

def Region.finB (md : Region.Mode) (ops : Array Oper) (fin : Nat → Bool) (i : Nat) : Bool := !fin i && (List.range ops.size).all fun j => !fin j || Region.waitsFor md ops j i
def Region.holdB (md : Region.Mode) (ops : Array Oper) (fin : Nat → Bool) (g : Nat) : Nat → Nat → Array Bool → Bool
  | 0, k, listed => Region.seqB md ops g k listed
  | f + 1, k, listed => (Region.ready md ops listed).contains k && Region.free md ops listed k && Region.finB md ops fin k && Region.holdB md ops fin g f (k + 1) (listed.setIfInBounds k true)
theorem finB_spec {i : Nat} (hs : ∀ j, fin j = true → j < ops.size) (h : Region.finB md ops fin i = true) : fin i = false ∧ ∀ j, fin j = true → Region.waitsFor md ops j i = true := by
  simp only [Region.finB, Bool.and_eq_true, Bool.not_eq_true', List.all_eq_true, List.mem_range, Bool.or_eq_true] at h
  refine ⟨h.1, fun j hj => ?_⟩
  rcases h.2 j (hs j hj) with h5 | h5
  · rw [hj] at h5; cases h5
  · exact h5

theorem anyT_hold {w : World} {g : Nat} {L : Act → Prop} (hsel : Region.noSelect ops = true) (hs : ∀ j, fin j = true → j < ops.size) (hQ : ∀ c (a : Act) d v w, Q (.panic c) (a.put d v) w → Q (.panic c) a w) (hS : S w)
    (hL : ∀ (n : Nat) listed a, Region.seqB md ops g n listed = true → L a → n + g = ops.size → anyT P md ops Q S fin g listed a w) :
    ∀ (l : List Oper) (k : Nat) (listed : Array Bool) (a : Act), (∀ j, j < l.length → l[j]? = ops[k + j]?) → k + l.length + g = ops.size →
    Region.holdB md ops fin g l.length k listed = true → wpHold P ops S L l a → anyT P md ops Q S fin (l.length + g) listed a w
  | [], k, listed, a, _, hk, hB, h => by
    have e : ([] : List Oper).length + g = g := by simp
    rw [e]
    exact hL k listed a (by simpa [Region.holdB] using hB) h (by simpa using hk)
  | o :: l, k, listed, a, hl, hk, hB, h => by
    have h0 : ops[k]? = some o := by simpa using (hl 0 (by simp)).symm
    simp only [List.length_cons, Region.holdB, Bool.and_eq_true] at hB
    obtain ⟨⟨⟨hr, hf⟩, hfb⟩, hB'⟩ := hB
    obtain ⟨hf1, hf2⟩ := finB_spec hs hfb
    obtain ⟨v, hy, hK⟩ := h
    have e : (o :: l).length + g = (l.length + g) + 1 := by simp; omega
    rw [e]
    exact anyT_first h0 (Region.noSelect_spec hsel) (fun c a w => hQ c a _ _ w) hf1 hf2 (l.length + g) listed a w (Region.free_spec h0 hf) (by simpa using hr) hy hS
      (anyT_hold hsel hs hQ hS hL l (k + 1) _ _ (fun j hj => by have h5 := hl (j + 1) (by simp; omega); simpa [Nat.add_assoc, Nat.add_comm 1 j] using h5) (by simp at hk; omega) hB' hK)

/-- The law. -/
theorem wp_region_hold {id : Nat} {a : Act} {w : World} {l : List Oper} (n : Nat) (S : World → Prop) (fin : Nat → Bool) (hm : P.follows .mixedOrders = true) (hsel : Region.noSelect l.toArray = true) (hn : n ≤ l.length) (hs : ∀ j, fin j = true → j < l.length) (hg : (l.drop n).all (fun o => o.guard.isNone) = true)
    (hB : Region.holdB .any l.toArray fin (l.drop n).length n 0 (Array.replicate l.length false) = true) (hQ : ∀ c (a : Act) d v w, Q (.panic c) (a.put d v) w → Q (.panic c) a w) (hS : S w.drew)
    (h : wpHold P l.toArray S (fun a' => wpTail P l.toArray Q S fin n (l.drop n) a' w.drew) (l.take n) a) : (Code.region id l.toArray true).wp P Q a w := by
  have htl : (l.take n).length = n := by simp; omega
  have hdl : (l.drop n).length = l.length - n := by simp
  refine wp_region_any hm (anyT_any (S := S) (fin := fin) _ _ _ _ ?_)
  have H := anyT_hold (P := P) (ops := l.toArray) (Q := Q) (md := .any) (S := S) (fin := fin) (w := w.drew) (g := (l.drop n).length) hsel (by simpa using hs) hQ hS
    (fun n' listed a' hq hL hng => by
      have hnn : n' = n := by rw [hdl] at hng; simp at hng; omega
      subst hnn
      refine anyT_tail (l.drop n') n' listed a' w.drew (fun j => by simp [List.getElem?_drop]) (fun o ho => ?_) hq hL
      have := List.all_eq_true.1 hg o ho
      cases hgo : o.guard with
      | none => rfl
      | some x => rw [hgo] at this; cases this)
    (l.take n) 0 (Array.replicate l.length false) a (fun j hj => by
      have hj' : j < n := by rw [htl] at hj; exact hj
      simp [hj']) (by rw [htl, hdl]; simp; omega) (by rw [htl]; exact hB) h
  rw [htl, hdl, show n + (l.length - n) = l.length by omega] at H
  simpa using H
end
end Go.Proofs.YtohhokjlgihbgaaGreatDoor
/- Regions that draw their order, whose beginning only reads, and whose end may be guarded. -/
namespace Go.Proofs.YtohhokjlgihbgaaGreatDoor

section
variable {P : Program} {ops : Array Oper} {Q : Exit → Act → World → Prop} {md : Region.Mode} {S : World → Prop} {fin : Nat → Bool}

/-- The end, in the order of the text, what is not wanted passed over. -/
def wpTailG (P : Program) (ops : Array Oper) (Q : Exit → Act → World → Prop) (S : World → Prop) (fin : Nat → Bool) : Nat → List Oper → Act → World → Prop
  | _, [], a, w => Q .normal a w
  | k, o :: r, a, w => if Region.wanted o (yielded ops a.tmps) = true then o.wp P a w (fun a' w' => (fin k = false → S w') ∧ wpTailG P ops Q S fin (k + 1) r a' w') Q else (fin k = false → S w) ∧ wpTailG P ops Q S fin (k + 1) r (a.put o.dst undef) w
theorem tailG_nil {k : Nat} {a : Act} {w : World} (h : Q .normal a w) : wpTailG P ops Q S fin k [] a w := h
theorem tailG_yes {o : Oper} {r : List Oper} {a : Act} {w : World} {k : Nat} (hw : Region.wanted o (yielded ops a.tmps) = true) (h : ∀ K : Act → World → Prop, (∀ a w, (fin k = false → S w) → wpTailG P ops Q S fin (k + 1) r a w → K a w) → o.wp P a w K Q) : wpTailG P ops Q S fin k (o :: r) a w := by
  unfold wpTailG
  rw [if_pos hw]
  exact h _ fun _ _ h1 h2 => ⟨h1, h2⟩
theorem tailG_no {o : Oper} {r : List Oper} {a : Act} {w : World} {k : Nat} (hw : Region.wanted o (yielded ops a.tmps) = false) (hS : S w) (h : wpTailG P ops Q S fin (k + 1) r (a.put o.dst undef) w) : wpTailG P ops Q S fin k (o :: r) a w := by
  unfold wpTailG
  rw [if_neg (by rw [hw]; decide)]
  exact ⟨fun _ => hS, h⟩
theorem holdG_yes {L : Act → Prop} {o : Oper} {r : List Oper} {a : Act} (v : Value) (hw : Region.wanted o (yielded ops a.tmps) = true) (h1 : ∀ w, S w → (execOp a.eval o).run P w = .ok (.value v) w) (h2 : wpHold P ops S L r (a.put o.dst v)) : wpHold P ops S L (o :: r) a :=
  ⟨v, .inl ⟨hw, h1⟩, h2⟩
theorem holdG_no {L : Act → Prop} {o : Oper} {r : List Oper} {a : Act} (hw : Region.wanted o (yielded ops a.tmps) = false) (h2 : wpHold P ops S L r (a.put o.dst undef)) : wpHold P ops S L (o :: r) a :=
  ⟨undef, .inr ⟨hw, rfl⟩, h2⟩

theorem anyT_tailG : ∀ (l : List Oper) (k : Nat) (listed : Array Bool) (a : Act) (w : World), (∀ j, l[j]? = ops[k + j]?) →
    Region.seqB md ops l.length k listed = true → wpTailG P ops Q S fin k l a w → anyT P md ops Q S fin l.length listed a w
  | [], _, _, _, _, _, hB, h => ⟨by simpa [Region.seqB] using hB, h⟩
  | o :: l, k, listed, a, w, hl, hB, h => by
    have h0 : ops[k]? = some o := by simpa using (hl 0).symm
    simp only [List.length_cons, Region.seqB, Bool.and_eq_true, decide_eq_true_eq] at hB
    refine ⟨fun h1 => (by rw [hB.1] at h1; cases h1), fun i hi => ?_⟩
    rw [hB.1] at hi
    have hik : i = k := by simpa using hi
    subst hik
    have hw : wpOp P ops Q i (fun a' w' => (fin i = false → S w') ∧ wpTailG P ops Q S fin (i + 1) l a' w') a w := by
      unfold wpOp
      simp only [h0]
      unfold wpTailG at h
      split
      · rename_i hc
        rw [if_pos hc] at h
        exact .inl h
      · rename_i hc
        rw [if_neg hc] at h
        exact h
    exact wpOp_mono (fun a' w' h' => ⟨h'.1, anyT_tailG l (i + 1) _ a' w' (fun j => by have h5 := hl (j + 1); simpa [Nat.add_assoc, Nat.add_comm 1 j] using h5) hB.2 h'.2⟩) hw

/-- The law. -/
theorem wp_region_holdG {id : Nat} {a : Act} {w : World} {l : List Oper} (n : Nat) (S : World → Prop) (fin : Nat → Bool) (hm : P.follows .mixedOrders = true) (hsel : Region.noSelect l.toArray = true) (hn : n ≤ l.length) (hs : ∀ j, fin j = true → j < l.length)
    (hB : Region.holdB .any l.toArray fin (l.drop n).length n 0 (Array.replicate l.length false) = true) (hQ : ∀ c (a : Act) d v w, Q (.panic c) (a.put d v) w → Q (.panic c) a w) (hS : S w.drew)
    (h : wpHold P l.toArray S (fun a' => wpTailG P l.toArray Q S fin n (l.drop n) a' w.drew) (l.take n) a) : (Code.region id l.toArray true).wp P Q a w := by
  have htl : (l.take n).length = n := by simp; omega
  have hdl : (l.drop n).length = l.length - n := by simp
  refine wp_region_any hm (anyT_any (S := S) (fin := fin) _ _ _ _ ?_)
  have H := anyT_hold (P := P) (ops := l.toArray) (Q := Q) (md := .any) (S := S) (fin := fin) (w := w.drew) (g := (l.drop n).length) hsel (by simpa using hs) hQ hS
    (fun n' listed a' hq hL hng => by
      have hnn : n' = n := by rw [hdl] at hng; simp at hng; omega
      subst hnn
      exact anyT_tailG (l.drop n') n' listed a' w.drew (fun j => by simp [List.getElem?_drop]) hq hL)
    (l.take n) 0 (Array.replicate l.length false) a (fun j hj => by
      have hj' : j < n := by rw [htl] at hj; exact hj
      simp [hj']) (by rw [htl, hdl]; simp; omega) (by rw [htl]; exact hB) h
  rw [htl, hdl, show n + (l.length - n) = l.length by omega] at H
  simpa using H
end
end Go.Proofs.YtohhokjlgihbgaaGreatDoor
/- Regions that draw their order, gone through in an order of one's own: each operation is free (it yields the same in every world that the others leave), or nothing else can come up. -/
namespace Go.Proofs.YtohhokjlgihbgaaGreatDoor

section
variable {P : Program} {ops : Array Oper} {Q : Exit → Act → World → Prop} {md : Region.Mode} {S : World → Prop} {fin : Nat → Bool}

def Region.mixB (md : Region.Mode) (ops : Array Oper) (fin : Nat → Bool) : List (Nat × Bool) → Array Bool → Bool
  | [], listed => Region.ready md ops listed == []
  | (k, true) :: r, listed => (Region.ready md ops listed).contains k && Region.free md ops listed k && Region.finB md ops fin k && Region.mixB md ops fin r (listed.setIfInBounds k true)
  | (k, false) :: r, listed => (Region.ready md ops listed == [k]) && (!fin k || r.all fun x => !x.2) && Region.mixB md ops fin r (listed.setIfInBounds k true)
def wpMix (P : Program) (ops : Array Oper) (Q : Exit → Act → World → Prop) (S : World → Prop) (fin : Nat → Bool) : List (Nat × Bool) → Act → World → Prop
  | [], a, w => Q .normal a w
  | (k, true) :: r, a, w => ∃ o v, ops[k]? = some o ∧ YieldsIf P ops S o v a ∧ wpMix P ops Q S fin r (a.put o.dst v) w
  | (k, false) :: r, a, w => ∃ o, ops[k]? = some o ∧ if Region.wanted o (yielded ops a.tmps) = true then o.wp P a w (fun a' w' => (fin k = false → S w') ∧ wpMix P ops Q S fin r a' w') Q else (fin k = false → S w) ∧ wpMix P ops Q S fin r (a.put o.dst undef) w
theorem anyT_mix (hsel : Region.noSelect ops = true) (hs : ∀ j, fin j = true → j < ops.size) (hQ : ∀ c (a : Act) d v w, Q (.panic c) (a.put d v) w → Q (.panic c) a w) :
    ∀ (l : List (Nat × Bool)) (listed : Array Bool) (a : Act) (w : World), Region.mixB md ops fin l listed = true → (l.any (fun x => x.2) = true → S w) → wpMix P ops Q S fin l a w → anyT P md ops Q S fin l.length listed a w
  | [], listed, a, w, hB, _, h => ⟨by simpa [Region.mixB] using hB, h⟩
  | (k, true) :: r, listed, a, w, hB, hS, h => by
    simp only [Region.mixB, Bool.and_eq_true] at hB
    obtain ⟨⟨⟨hr, hf⟩, hfb⟩, hB'⟩ := hB
    obtain ⟨hf1, hf2⟩ := finB_spec hs hfb
    obtain ⟨o, v, h0, hy, hK⟩ := h
    have hSw : S w := hS (by simp)
    exact anyT_first h0 (Region.noSelect_spec hsel) (fun c a w => hQ c a _ _ w) hf1 hf2 r.length listed a w (Region.free_spec h0 hf) (by simpa using hr) hy hSw
      (anyT_mix hsel hs hQ r _ _ w hB' (fun _ => hSw) hK)
  | (k, false) :: r, listed, a, w, hB, hS, h => by
    simp only [Region.mixB, Bool.and_eq_true, beq_iff_eq] at hB
    obtain ⟨⟨hr, hfr⟩, hB'⟩ := hB
    obtain ⟨o, h0, h⟩ := h
    refine ⟨fun h1 => (by rw [hr] at h1; cases h1), fun i hi => ?_⟩
    rw [hr] at hi
    have hik : i = k := by simpa using hi
    subst hik
    have hw : wpOp P ops Q i (fun a' w' => (fin i = false → S w') ∧ wpMix P ops Q S fin r a' w') a w := by
      unfold wpOp
      simp only [h0]
      split
      · rename_i hc
        rw [if_pos hc] at h
        exact .inl h
      · rename_i hc
        rw [if_neg hc] at h
        exact h
    refine wpOp_mono (fun a' w' h' => ⟨h'.1, anyT_mix hsel hs hQ r _ a' w' hB' (fun hn => ?_) h'.2⟩) hw
    cases hfi : fin i with
    | false => exact h'.1 hfi
    | true =>
      rw [hfi] at hfr
      obtain ⟨x, hx, hx2⟩ := List.any_eq_true.1 hn
      have h5 := List.all_eq_true.1 (show (r.all fun x => !x.2) = true by simpa using hfr) x hx
      rw [hx2] at h5
      cases h5
/-- The law. -/
theorem wp_region_mix {id : Nat} {a : Act} {w : World} {l : List Oper} (ord : List (Nat × Bool)) (S : World → Prop) (fin : Nat → Bool) (hm : P.follows .mixedOrders = true) (hsel : Region.noSelect l.toArray = true) (hs : ∀ j, fin j = true → j < l.length)
    (hlen : ord.length = l.length) (hB : Region.mixB .any l.toArray fin ord (Array.replicate l.length false) = true) (hS : S w.drew)
    (h : wpMix P l.toArray (NoPanic Q) S fin ord a w.drew) : (Code.region id l.toArray true).wp P Q a w := by
  refine wp_region_noPanic (wp_region_any hm (anyT_any (S := S) (fin := fin) _ _ _ _ ?_))
  have H := anyT_mix (P := P) (ops := l.toArray) (Q := NoPanic Q) (md := .any) (S := S) (fin := fin) hsel (by simpa using hs) (fun _ _ _ _ _ h => h) ord (Array.replicate l.length false) a w.drew hB (fun _ => hS) h
  rw [hlen] at H
  simpa using H
theorem mix_free {o : Oper} {k : Nat} {r : List (Nat × Bool)} {a : Act} {w : World} (v : Value) (h0 : ops[k]? = some o) (hw : Region.wanted o (yielded ops a.tmps) = true) (h1 : ∀ w, S w → (execOp a.eval o).run P w = .ok (.value v) w) (h2 : wpMix P ops Q S fin r (a.put o.dst v) w) : wpMix P ops Q S fin ((k, true) :: r) a w :=
  ⟨o, v, h0, .inl ⟨hw, h1⟩, h2⟩
theorem mix_pass {o : Oper} {k : Nat} {r : List (Nat × Bool)} {a : Act} {w : World} (h0 : ops[k]? = some o) (hw : Region.wanted o (yielded ops a.tmps) = false) (h2 : wpMix P ops Q S fin r (a.put o.dst undef) w) : wpMix P ops Q S fin ((k, true) :: r) a w :=
  ⟨o, undef, h0, .inr ⟨hw, rfl⟩, h2⟩
theorem mix_go {o : Oper} {k : Nat} {r : List (Nat × Bool)} {a : Act} {w : World} (h0 : ops[k]? = some o) (hw : Region.wanted o (yielded ops a.tmps) = true) (h : ∀ K : Act → World → Prop, (∀ a w, (fin k = false → S w) → wpMix P ops Q S fin r a w → K a w) → o.wp P a w K Q) : wpMix P ops Q S fin ((k, false) :: r) a w := by
  refine ⟨o, h0, ?_⟩
  rw [if_pos hw]
  exact h _ fun _ _ h1 h2 => ⟨h1, h2⟩
theorem mix_end {a : Act} {w : World} (h : Q .normal a w) : wpMix P ops Q S fin [] a w := h
end
end Go.Proofs.YtohhokjlgihbgaaGreatDoor
