/- The contract of slices.Insert at ranges, one laid in. -/
import Derived.Test.YtljlhlcoaajggaaInsRow
namespace Go.Proofs.Ytljlhlcoaajggaa
open Go.RowKit Go.Lib

set_option maxHeartbeats 1000000 in
set_option maxRecDepth 100000 in
theorem insert_end (B vb : Nat) (A : List Tr) (g : Tr) (v : Value) (w : World) (h : w.ownsRow B 36 3 v A.length (rks A)) (hB : B ≤ w.heap.size) (hl : A.length ≤ 100000000)
    (hv : w.heap[vb]? = some (.cells (rkc (rkT g)).toArray 36 (0, 0))) :
    Calls Try.prog 38 #[v, .int .i64 (A.length : Int), .slice (some ⟨vb, 0, none⟩) 1 1] w fun e w' => ∃ v', e = .returned v' ∧ w'.ownsRow B 36 3 v' (A.length + 1) (rks (A ++ [g])) ∧ Below B w w' := by
  obtain ⟨i0, hi, hz0, hz1, hz2⟩ := info_parts Try.info36
  have HO := hid h
  have hn : ∀ j u, (rkc (rkT g))[j]? = some u → w.cell? ((⟨vb, 0, none⟩ : Addr).add j) = some u := fun j u hj => by
    rw [show (⟨vb, 0, none⟩ : Addr).add j = ⟨vb, j, none⟩ by unfold Addr.add; split <;> simp_all, cell_of_row w vb j _ 36 (0, 0) hv]
    simpa using hj
  have HN := hid hn
  have HR := hid (rks_snoc A g)
  have HLT := hid h.lt
  have hcap : ∃ ao cap, v = .slice ao A.length cap ∧ A.length ≤ cap ∧ (ao = none → A.length = 0 ∧ cap = 0) := by
    rcases h.2 with ⟨rfl, h0⟩ | ⟨q, cap, cur, rfl, _, _, h5, _⟩
    · exact ⟨none, 0, by rw [h0], by omega, fun _ => ⟨h0, rfl⟩⟩
    · exact ⟨_, cap, rfl, h5, fun h => by cases h⟩
  obtain ⟨ao, cap, rfl, hcp, hao⟩ := hcap
  obtain ⟨n, hnn⟩ : ∃ n, n = A.length := ⟨_, rfl⟩
  rw [← hnn] at HO hcp hao hl ⊢
  have hcp' : (n : Int) ≤ (cap : Int) := by omega
  have e0 : ((n : Int) == (n : Int)) = true := by simp
  clear hn h hv hnn
  cases ao with
  | none =>
    obtain ⟨h1, h2⟩ := hao rfl
    subst h1 h2
    clear hao hcp
    go_enter Try.func38, Try.ntmps38
    go_wp2_with (at_builtin; refine wpList_append_lies _ rfl _ _ 25 rfl B 36 i0 (.agg #[.int .i32 0, .int .i32 0, .int .i64 0]) 3 16 Try.underlying25 hi hz0 hz1 hz2 rfl (by decide) _ 0 (rks A) rfl HO.out ⟨vb, 0, none⟩ 1 1 (rkc (rkT g)) rfl rfl HN.out (rkc_one _) (by decide) (by decide) (by decide) hB _ rfl ?_; intro q cap' w1 o1 gr1 hlie hg1)
    go_ret
    exact ⟨_, rfl, by rw [HR.out]; exact o1, (Below.refl B w).grown gr1 hB (fun k hk => (HLT.out k hk).1)⟩
  | some a =>
    clear hao
    go_enter Try.func38, Try.ntmps38
    go_wp2_with (at_builtin; refine wpList_append_lies _ rfl _ _ 25 rfl B 36 i0 (.agg #[.int .i32 0, .int .i32 0, .int .i64 0]) 3 16 Try.underlying25 hi hz0 hz1 hz2 rfl (by decide) _ n (rks A) rfl HO.out ⟨vb, 0, none⟩ 1 1 (rkc (rkT g)) rfl rfl HN.out (rkc_one _) (by decide) (by unfold maxLen; omega) (by omega) hB _ rfl ?_; intro q cap' w1 o1 gr1 hlie hg1)
    all_goals (go_ret; exact ⟨_, rfl, by rw [HR.out]; exact o1, (Below.refl B w).grown gr1 hB (fun k hk => (HLT.out k hk).1)⟩)
end Go.Proofs.Ytljlhlcoaajggaa
