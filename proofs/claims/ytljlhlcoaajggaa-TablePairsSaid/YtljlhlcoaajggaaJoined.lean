/- The contract of joined (package table). -/
import Derived.Test.YtljlhlcoaajggaaMade4
namespace Go.Proofs.Ytljlhlcoaajggaa
open Go.RowKit

theorem Try.info36 : (Try.prog.info? 36).map (fun i => (i.zero, i.size, i.bytes)) = some (some (.agg #[.int .i32 0, .int .i32 0, .int .i64 0]), 3, 16) := by kernel_rfl
def rks (l : List Tr) : List Value := l.flatMap fun g => rkc (rkT g)
theorem rks_snoc (l : List Tr) (g : Tr) : rks (l ++ [g]) = rks l ++ rkc (rkT g) := by simp [rks]
theorem rks_len (l : List Tr) : (rks l).length = l.length * 3 := by
  induction l with
  | nil => rfl
  | cons g l ih =>
    show (rkc (rkT g) ++ rks l).length = _
    rw [List.length_append, ih]
    simp [rkc]; omega
theorem rkc_one (g : Rk) : ∀ v ∈ rkc g, v.oneCell' = true := fun v hv => by
  unfold rkc at hv
  simp only [List.mem_cons, List.not_mem_nil, or_false] at hv
  rcases hv with rfl | rfl | rfl <;> rfl
theorem news_k (w : World) (g : Rk) (T : TypeId) : ∀ j u, (rkc g)[j]? = some u → (w.alloc (.cells #[.int .i32 g.1, .int .i32 g.2.1, .int .i64 g.2.2] T)).cell? ((⟨w.heap.size, 0, none⟩ : Addr).add j) = some u := fun j u hj => by
  rw [show (⟨w.heap.size, 0, none⟩ : Addr).add j = ⟨w.heap.size, j, none⟩ by unfold Addr.add; split <;> simp_all]
  rw [cell_of_row _ w.heap.size j #[.int .i32 g.1, .int .i32 g.2.1, .int .i64 g.2.2] T (0, 0) (show (w.heap.push _)[w.heap.size]? = _ by simp)]
  rw [← hj]
  simp [rkc]
/-- Behind nothing. -/
theorem joined_nil (B : Nat) (g : Tr) (w : World) (hB : B ≤ w.heap.size) :
    Calls Try.prog 72 #[.slice none 0 0, rkv (rkT g)] w fun e w' => ∃ v', e = .returned v' ∧ w'.ownsRow B 36 3 v' 1 (rks [g]) ∧ Below B w w' := by
  obtain ⟨i0, hi, hz0, hz1, hz2⟩ := info_parts Try.info36
  obtain ⟨lo, hi', cl⟩ := g
  unfold rkv rkT
  have HO := hid (World.ownsRow_nil w B 36 3)
  go_enter Try.func72, Try.ntmps72
  go_wp2
  go_quiet (fail)
  have hG : ((w.alloc (.cells #[.int .i32 (lo : Int), .int .i32 (hi' : Int), .int .i64 (cl : Int)] 36)).drewN nq).heap[w.heap.size]? = some (.cells #[.int .i32 (lo : Int), .int .i32 (hi' : Int), .int .i64 (cl : Int)] 36 (0, 0)) := heap_alloc_new w _
  have hb0 : Below B w ((w.alloc (.cells #[.int .i32 (lo : Int), .int .i32 (hi' : Int), .int .i64 (cl : Int)] 36)).drewN nq) := ((Below.refl B w).alloc hB _).trans ⟨rfl, rfl, rfl, Nat.le_refl _, fun _ _ => rfl⟩
  have hsW : B ≤ ((w.alloc (.cells #[.int .i32 (lo : Int), .int .i32 (hi' : Int), .int .i64 (cl : Int)] 36)).drewN nq).heap.size := Nat.le_trans hB hb0.size
  generalize ((w.alloc (.cells #[.int .i32 (lo : Int), .int .i32 (hi' : Int), .int .i64 (cl : Int)] 36)).drewN nq) = W at *
  obtain ⟨G, hGG⟩ : ∃ G, G = w.heap.size := ⟨_, rfl⟩
  rw [← hGG] at hG ⊢
  have x0 : W.cell? ⟨G, 0, none⟩ = some (.int .i32 (lo : Int)) := by rw [cell_of_row W G 0 _ 36 (0, 0) hG]; rfl
  have x1 : W.cell? ⟨G, 1, none⟩ = some (.int .i32 (hi' : Int)) := by rw [cell_of_row W G 1 _ 36 (0, 0) hG]; rfl
  have x2 : W.cell? ⟨G, 2, none⟩ = some (.int .i64 (cl : Int)) := by rw [cell_of_row W G 2 _ 36 (0, 0) hG]; rfl
  have HO2 := hid (World.ownsRow_nil W B 36 3)
  have HB0 := hid hb0
  clear hG hGG hb0 HO
  go_wp2_with (at_builtin; refine wpList_append_lies _ rfl _ _ 25 rfl B 36 i0 (.agg #[.int .i32 0, .int .i32 0, .int .i64 0]) 3 16 Try.underlying25 hi hz0 hz1 hz2 rfl (by decide) _ 0 [] rfl (HO2.out.alloc _) ⟨W.heap.size, 0, none⟩ 1 1 (rkc ((lo : Int), (hi' : Int), (cl : Int))) rfl rfl (news_k W ((lo : Int), (hi' : Int), (cl : Int)) 36) (rkc_one _) (by decide) (by decide) (by decide) (by simp; omega) (W.heap.size + 1) (by simp) ?_; intro g cap w1 o1 gr1 hlie hg1)
  have HB1 := hid ((HB0.out.alloc hsW (.cells #[.int .i32 (lo : Int), .int .i32 (hi' : Int), .int .i64 (cl : Int)] 36)).grown gr1 (by simp; omega) (fun k hk => by cases hk))
  go_ret
  exact ⟨_, rfl, by rw [show rks [(lo, hi', cl)] = [] ++ rkc ((lo : Int), (hi' : Int), (cl : Int)) by simp [rks, rkT]]; exact o1, HB1.out⟩

theorem rks_at (Q : List Tr) (z : Tr) (k : Nat) (v : Value) (h : (rkc (rkT z))[k]? = some v) : (rks (Q ++ [z]))[Q.length * 3 + k]? = some v := by
  rw [rks_snoc, List.getElem?_append_right (by rw [rks_len]; omega), rks_len, show Q.length * 3 + k - Q.length * 3 = k by omega, h]
theorem rks_set (Q : List Tr) (z : Tr) (h : Nat) : (rks (Q ++ [z])).set (Q.length * 3 + 1) (.int .i32 (h : Int)) = rks (Q ++ [(z.1, h, z.2.2)]) := by
  rw [rks_snoc, rks_snoc, List.set_append_right _ _ (by rw [rks_len]; omega), rks_len, show Q.length * 3 + 1 - Q.length * 3 = 1 by omega]
  rfl

set_option maxRecDepth 100000 in
set_option maxHeartbeats 1000000 in
theorem joined_any (B q cap : Nat) (Q : List Tr) (z g : Tr) (w : World) (h : w.ownsRow B 36 3 (.slice (some ⟨q, 0, none⟩) (Q.length + 1) cap) (Q.length + 1) (rks (Q ++ [z]))) (hB : B ≤ w.heap.size) (hl : Q.length ≤ 100000000) :
    Calls Try.prog 72 #[.slice (some ⟨q, 0, none⟩) (Q.length + 1) cap, rkv (rkT g)] w fun e w' => ∃ v', e = .returned v' ∧ w'.ownsRow B 36 3 v' (jn (Q ++ [z]) g).length (rks (jn (Q ++ [z]) g)) ∧ Below B w w' := by
  obtain ⟨i0, hi, hz0, hz1, hz2⟩ := info_parts Try.info36
  obtain ⟨lo, hi', cl⟩ := g
  have hq := (h.lt q rfl)
  have HO := hid h
  have cz : w.cell? ⟨q, Q.length * 3 + 2, none⟩ = some (.int .i64 (z.2.2 : Int)) := by rw [h.cellAt _ (by omega)]; exact rks_at Q z 2 _ rfl
  obtain ⟨m, hm⟩ : ∃ m, m = Q.length := ⟨_, rfl⟩
  obtain ⟨n, hn⟩ : ∃ n, n = Q.length + 1 := ⟨_, rfl⟩
  have e1 : (n : Int) - 1 = (m : Int) := by omega
  have e2 : IntKind.i64.wrap (m : Int) = (m : Int) := by rw [IntKind.wrap_i64]; omega
  have b0 : (0 : Int) ≤ (m : Int) := by omega
  have b1 : (m : Int) < (n : Int) := by omega
  unfold rkv rkT
  rw [← hm] at cz
  rw [← hn]
  have HMQ := hid hm
  have HNQ := hid hn
  clear h hm hn
  by_cases hc : z.2.2 = cl
  · have hc' : ((z.2.2 : Int) == (cl : Int)) = true := by simp; omega
    go_enter Try.func72, Try.ntmps72
    go_wp2
    go_quiet (fail)
    have hG : ((w.alloc (.cells #[.int .i32 (lo : Int), .int .i32 (hi' : Int), .int .i64 (cl : Int)] 36)).drewN nq).heap[w.heap.size]? = some (.cells #[.int .i32 (lo : Int), .int .i32 (hi' : Int), .int .i64 (cl : Int)] 36 (0, 0)) := heap_alloc_new w _
    have hb0 : Below B w ((w.alloc (.cells #[.int .i32 (lo : Int), .int .i32 (hi' : Int), .int .i64 (cl : Int)] 36)).drewN nq) := ((Below.refl B w).alloc hB _).trans ⟨rfl, rfl, rfl, Nat.le_refl _, fun _ _ => rfl⟩
    have hsW : B ≤ ((w.alloc (.cells #[.int .i32 (lo : Int), .int .i32 (hi' : Int), .int .i64 (cl : Int)] 36)).drewN nq).heap.size := Nat.le_trans hB hb0.size
    have HO2 := hid (show ((w.alloc (.cells #[.int .i32 (lo : Int), .int .i32 (hi' : Int), .int .i64 (cl : Int)] 36)).drewN nq).ownsRow B 36 3 (.slice (some ⟨q, 0, none⟩) (Q.length + 1) cap) (Q.length + 1) (rks (Q ++ [z])) from HO.out.alloc _)
    generalize ((w.alloc (.cells #[.int .i32 (lo : Int), .int .i32 (hi' : Int), .int .i64 (cl : Int)] 36)).drewN nq) = W at *
    obtain ⟨G, hGG⟩ : ∃ G, G = w.heap.size := ⟨_, rfl⟩
    rw [← hGG] at hG ⊢
    have hqG : q ≠ G := by have h5 := hq.2; omega
    have x0 : W.cell? ⟨G, 0, none⟩ = some (.int .i32 (lo : Int)) := by rw [cell_of_row W G 0 _ 36 (0, 0) hG]; rfl
    have x1 : W.cell? ⟨G, 1, none⟩ = some (.int .i32 (hi' : Int)) := by rw [cell_of_row W G 1 _ 36 (0, 0) hG]; rfl
    have x2 : W.cell? ⟨G, 2, none⟩ = some (.int .i64 (cl : Int)) := by rw [cell_of_row W G 2 _ 36 (0, 0) hG]; rfl
    have HB0 := hid hb0
    clear hG hGG hb0 HO cz hB
    have y1 : W.cell? ⟨q, m * 3 + 1, none⟩ = some (.int .i32 (z.2.1 : Int)) := by rw [HMQ.out, HO2.out.cellAt _ (by omega)]; exact rks_at Q z 1 _ rfl
    have f1 : W.frozen? ⟨q, m * 3 + 1, none⟩ = false := HO2.out.frozenAt _
    have HJ := hid (show jn (Q ++ [z]) (lo, hi', cl) = Q ++ [(z.1, hi', z.2.2)] by rw [jn_snoc, if_pos hc, hc])
    have HR := hid (show (W.setCell ⟨q, m * 3 + 1, none⟩ (.int .i32 (hi' : Int))).ownsRow B 36 3 (.slice (some ⟨q, 0, none⟩) n cap) (jn (Q ++ [z]) (lo, hi', cl)).length (rks (jn (Q ++ [z]) (lo, hi', cl))) by
      have h5 := (HO2.out.stored (m * 3 + 1) (.int .i32 (hi' : Int))).1
      rw [HJ.out, ← rks_set, show (Q ++ [(z.1, hi', z.2.2)]).length = Q.length + 1 by simp, HNQ.out, ← HMQ.out]
      rw [← HMQ.out] at h5
      exact h5)
    have HB1 := hid (HB0.out.setCell (p := ⟨q, m * 3 + 1, none⟩) hq.1 (.int .i32 (hi' : Int)))
    go_wp2
    go_ret
    exact ⟨_, rfl, HR.out, HB1.out⟩
  · have hc' : ((z.2.2 : Int) == (cl : Int)) = false := by simp; omega
    go_enter Try.func72, Try.ntmps72
    go_wp2
    go_quiet (fail)
    have hG : ((w.alloc (.cells #[.int .i32 (lo : Int), .int .i32 (hi' : Int), .int .i64 (cl : Int)] 36)).drewN nq).heap[w.heap.size]? = some (.cells #[.int .i32 (lo : Int), .int .i32 (hi' : Int), .int .i64 (cl : Int)] 36 (0, 0)) := heap_alloc_new w _
    have hb0 : Below B w ((w.alloc (.cells #[.int .i32 (lo : Int), .int .i32 (hi' : Int), .int .i64 (cl : Int)] 36)).drewN nq) := ((Below.refl B w).alloc hB _).trans ⟨rfl, rfl, rfl, Nat.le_refl _, fun _ _ => rfl⟩
    have hsW : B ≤ ((w.alloc (.cells #[.int .i32 (lo : Int), .int .i32 (hi' : Int), .int .i64 (cl : Int)] 36)).drewN nq).heap.size := Nat.le_trans hB hb0.size
    have HO2 := hid (show ((w.alloc (.cells #[.int .i32 (lo : Int), .int .i32 (hi' : Int), .int .i64 (cl : Int)] 36)).drewN nq).ownsRow B 36 3 (.slice (some ⟨q, 0, none⟩) (Q.length + 1) cap) (Q.length + 1) (rks (Q ++ [z])) from HO.out.alloc _)
    generalize ((w.alloc (.cells #[.int .i32 (lo : Int), .int .i32 (hi' : Int), .int .i64 (cl : Int)] 36)).drewN nq) = W at *
    obtain ⟨G, hGG⟩ : ∃ G, G = w.heap.size := ⟨_, rfl⟩
    rw [← hGG] at hG ⊢
    have hqG : q ≠ G := by have h5 := hq.2; omega
    have x0 : W.cell? ⟨G, 0, none⟩ = some (.int .i32 (lo : Int)) := by rw [cell_of_row W G 0 _ 36 (0, 0) hG]; rfl
    have x1 : W.cell? ⟨G, 1, none⟩ = some (.int .i32 (hi' : Int)) := by rw [cell_of_row W G 1 _ 36 (0, 0) hG]; rfl
    have x2 : W.cell? ⟨G, 2, none⟩ = some (.int .i64 (cl : Int)) := by rw [cell_of_row W G 2 _ 36 (0, 0) hG]; rfl
    have HB0 := hid hb0
    clear hG hGG hb0 HO cz hB
    rw [← HNQ.out] at HO2
    have hn9 : n ≤ 100000001 := by have h5 := HNQ.out; omega
    go_wp2_with (at_builtin; refine wpList_append_lies _ rfl _ _ 25 rfl B 36 i0 (.agg #[.int .i32 0, .int .i32 0, .int .i64 0]) 3 16 Try.underlying25 hi hz0 hz1 hz2 rfl (by decide) _ n (rks (Q ++ [z])) rfl (HO2.out.alloc _) ⟨W.heap.size, 0, none⟩ 1 1 (rkc ((lo : Int), (hi' : Int), (cl : Int))) rfl rfl (news_k W ((lo : Int), (hi' : Int), (cl : Int)) 36) (rkc_one _) (by decide) (by unfold maxLen; omega) (by omega) (by simp; omega) (W.heap.size + 1) (by simp) ?_; intro g cap' w1 o1 gr1 hlie hg1)
    have HB1 := hid ((HB0.out.alloc hsW (.cells #[.int .i32 (lo : Int), .int .i32 (hi' : Int), .int .i64 (cl : Int)] 36)).grown gr1 (by simp; omega) (fun k hk => (HO2.out.lt k hk).1))
    have HJ := hid (show jn (Q ++ [z]) (lo, hi', cl) = Q ++ [z, (lo, hi', cl)] by rw [jn_snoc, if_neg hc])
    have HR := hid (show w1.ownsRow B 36 3 (.slice (some ⟨g, 0, none⟩) (n + 1) cap') (jn (Q ++ [z]) (lo, hi', cl)).length (rks (jn (Q ++ [z]) (lo, hi', cl))) by
      rw [HJ.out, show Q ++ [z, (lo, hi', cl)] = (Q ++ [z]) ++ [(lo, hi', cl)] by simp, rks_snoc, show ((Q ++ [z]) ++ [(lo, hi', cl)]).length = n + 1 by have h5 := HNQ.out; simp; omega]
      exact o1)
    go_ret
    exact ⟨_, rfl, HR.out, HB1.out⟩
end Go.Proofs.Ytljlhlcoaajggaa
