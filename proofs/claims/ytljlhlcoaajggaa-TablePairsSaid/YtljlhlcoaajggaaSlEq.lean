/- The contract of slices.Equal at blocks. -/
import Derived.Test.YtljlhlcoaajggaaArrEq
import Derived.Deep.RegionHeld3
namespace Go.Proofs.Ytljlhlcoaajggaa
open Go.RowKit

theorem row_range {B g cap k n : Nat} {U : List (List Nat)} {b : List Nat} {w : World} (hr : w.ownsRow B 82 128 (.slice (some ⟨g, 0, none⟩) n cap) n (U.flatMap u8n)) (ho : ok128 U) (hn : n = U.length) (hk : U[k]? = some b) : w.rangeAt g (k * 128) (u8n b) := fun j v hv => by
  have hkl := (List.getElem?_eq_some_iff.1 hk).1
  have hbl := ho b (List.mem_of_getElem? hk)
  have hjl := (List.getElem?_eq_some_iff.1 hv).1
  rw [u8n_len, hbl] at hjl
  rw [hr.cellAt (k * 128 + j) (by omega), flat_u8]
  obtain ⟨d, h3, h4⟩ := flat_get U (k * 128 + j) ho (by omega)
  rw [show (k * 128 + j) / 128 = k by omega, hk] at h3
  cases h3
  rw [show (k * 128 + j) % 128 = j by omega] at h4
  unfold u8n at hv ⊢
  rw [List.getElem?_map, ← h4, ← List.getElem?_map]
  exact hv

theorem eqg82 : Try.prog.eqGuardType Try.prog.depth 82 = false := by kernel_rfl
theorem quiet_mid {ops : Array Oper} {Q : Act → Prop} {a : Act} {o : Oper} {rest : List Oper} {w : World} (hg : o.guard = none) (ty : TypeId) (x : Operand) (ho : o.op = .load ty x) (b f : Nat) (cs : List Value) (d : TypeDesc) (hx : a.eval x = .pointer (some ⟨b, f, none⟩))
    (hc : w.rangeAt b f cs) (hu : Try.prog.underlying ty = some d) (hd : d.isRow = true) (hi : (Try.prog.info? ty).map (·.size) = some cs.length)
    (h : wpQuiet Try.prog ops (fun w' => ∃ n, w' = w.drewN n) Q rest (a.put o.dst (.agg cs.toArray))) : wpQuiet Try.prog ops (fun w' => ∃ n, w' = w.drewN n) Q (o :: rest) a :=
  quiet_run (.agg cs.toArray) hg (fun n => by
    unfold execOp
    simp only [ho, hx, Sem.run_bind, run_loadAt_mid (w.drewN n) b f ty cs d (range_drewN hc n) hu hd hi, Result.andThen_ok, Sem.run_pure]) h
set_option maxHeartbeats 3000000 in
set_option maxRecDepth 100000 in
theorem sleq_any (B1 B2 g1 g2 c1 c2 : Nat) (U V : List (List Nat)) (w : World) (h1 : w.ownsRow B1 82 128 (.slice (some ⟨g1, 0, none⟩) U.length c1) U.length (U.flatMap u8n)) (h2 : w.ownsRow B2 82 128 (.slice (some ⟨g2, 0, none⟩) V.length c2) V.length (V.flatMap u8n)) (ho1 : ok128 U) (ho2 : ok128 V) (hl : U.length ≤ 100000) :
    Calls Try.prog 55 #[.slice (some ⟨g1, 0, none⟩) U.length c1, .slice (some ⟨g2, 0, none⟩) V.length c2] w fun e w' => e = .returned (.bool (decide (U = V))) ∧ Below w.heap.size w w' := by
  have HO1 := hid h1
  have HO2 := hid h2
  have HK1 := hid ho1
  have HK2 := hid ho2
  have hu82 := Try.underlying82
  obtain ⟨n, hn⟩ : ∃ n, n = U.length := ⟨_, rfl⟩
  obtain ⟨m, hm⟩ : ∃ m, m = V.length := ⟨_, rfl⟩
  rw [← hn] at hl HO1 ⊢
  rw [← hm] at HO2 ⊢
  have HN := hid hn
  have HM := hid hm
  clear h1 h2 ho1 ho2
  by_cases hnm : n = m
  · subst hnm
    clear hn hm
    go_enter Try.func55, Try.ntmps55
    go_wp2
    go_loopw [13] (fun x wr => ∃ (k : Nat), x = .int .i64 (k : Int) ∧ k ≤ n ∧ Hid (U.take k = V.take k) ∧ Hid (Below w.heap.size w wr)) (fun x _ => n - (intOf x).toNat)
    case atStart => exact ⟨0, rfl, by omega, rfl, Below.refl _ _⟩
    case round =>
      obtain ⟨k, rfl, hk, HKE, HB⟩ := hrel
      by_cases hlt : k < n
      · have hkU : k < U.length := by have h5 := HN.out; omega
        have hkV : k < V.length := by have h5 := HM.out; omega
        have r1 : wr.rangeAt g1 (k * 128) (u8n U[k]) := row_range (own_keep HO1.out HB.out) HK1.out HN.out (List.getElem?_eq_getElem hkU)
        have r2 : wr.rangeAt g2 (k * 128) (u8n V[k]) := row_range (own_keep HO2.out HB.out) HK2.out HM.out (List.getElem?_eq_getElem hkV)
        have lu := HK1.out U[k] (List.getElem_mem hkU)
        have lv := HK2.out V[k] (List.getElem_mem hkV)
        have s1 : (Try.prog.info? 82).map (·.size) = some (u8n U[k]).length := by rw [u8n_len, lu]; exact size82n
        have s2 : (Try.prog.info? 82).map (·.size) = some (u8n V[k]).length := by rw [u8n_len, lv]; exact size82n
        have heq := eq82 U[k] V[k] lu lv
        have HTK := hid (show U.take (k + 1) = V.take (k + 1) ↔ U[k] = V[k] by
          rw [List.take_succ_eq_append_getElem hkU, List.take_succ_eq_append_getElem hkV, HKE.out, List.append_cancel_left_eq]
          simp)
        have HNE := hid (show U = V → U[k] = V[k] from fun h => by subst h; rfl)
        obtain ⟨a, ha⟩ : ∃ a, a = U[k] := ⟨_, rfl⟩
        obtain ⟨b, hb⟩ : ∃ b, b = V[k] := ⟨_, rfl⟩
        rw [← ha] at r1 s1 heq HTK HNE
        rw [← hb] at r2 s2 heq HTK HNE
        obtain ⟨d, hd⟩ : ∃ d, d = decide (a = b) := ⟨_, rfl⟩
        rw [← hd] at heq
        have k3 : (k : Int) < (n : Int) := by omega
        have k0 : (0 : Int) ≤ (k : Int) := by omega
        have HD := hid hd
        clear ha hb lu lv hd
        obtain ⟨ua, hua⟩ : ∃ ua, ua = u8n a := ⟨_, rfl⟩
        obtain ⟨ub, hub⟩ : ∃ ub, ub = u8n b := ⟨_, rfl⟩
        rw [← hua] at r1 s1 heq
        rw [← hub] at r2 s2 heq
        clear hua hub
        go_wp2_with fail
        refine wp_region_quiet_lit (by kernel_rfl) (by kernel_rfl) ?_
        iterate 3 quiet_step (fail)
        refine quiet_mid rfl 82 _ rfl g1 (k * 128) ua _ rfl r1 hu82 rfl s1 ?_
        iterate 3 quiet_step (fail)
        refine quiet_mid rfl 82 _ rfl g2 (k * 128) ub _ rfl r2 hu82 rfl s2 ?_
        refine quiet_run (.bool (!d)) rfl (fun n => ?_) ?_
        · simp only [execOp, Act.eval, Act.put]
          simp [run_eqGuard_agg _ _ 82 _ _ _ _ eqg82, run_neq_struct, heq]
        refine wpQuiet_nil ?_
        intro _ hw'
        obtain ⟨nq, hw''⟩ := hw'
        subst hw''
        have HBQ := hid (show Below w.heap.size w (wr.drewN nq) from HB.out.trans ⟨rfl, rfl, rfl, Nat.le_refl _, fun _ _ => rfl⟩)
        obtain ⟨W, hW⟩ : ∃ W, W = wr.drewN nq := ⟨_, rfl⟩
        rw [← hW] at HBQ ⊢
        clear hW r1 r2 heq s1 s2
        cases d with
        | true =>
          have HK2' := hid (show U.take (k + 1) = V.take (k + 1) from HTK.out.2 (of_decide_eq_true HD.out.symm))
          go_wp2
          go_roundw
          case rel => exact ⟨k + 1, by go_num, by omega, HK2', HBQ⟩
          case measure => simp [intOf]; omega
        | false =>
          have HUV := hid (show decide (U = V) = false from decide_eq_false (fun h => of_decide_eq_false HD.out.symm (HNE.out h)))
          go_wp2
          go_ret
          exact ⟨by rw [HUV.out]; rfl, HBQ.out⟩
      · have k3 : ¬ (k : Int) < (n : Int) := by omega
        have HUV := hid (show decide (U = V) = true from decide_eq_true (by
          have h5 := HKE.out
          rw [List.take_of_length_le (by have h6 := HN.out; omega), List.take_of_length_le (by have h6 := HM.out; omega)] at h5
          exact h5))
        go_wp2
        go_ret
        exact ⟨by rw [HUV.out]; rfl, HB.out⟩
  · have hnm' : ((n : Int) == (m : Int)) = false := by simp; omega
    have HUV := hid (show decide (U = V) = false from decide_eq_false (fun h => hnm (by rw [hn, hm, h])))
    clear hn hm
    go_enter Try.func55, Try.ntmps55
    go_wp2
    go_ret
    exact ⟨by rw [HUV.out]; rfl, Below.refl _ _⟩
end Go.Proofs.Ytljlhlcoaajggaa
