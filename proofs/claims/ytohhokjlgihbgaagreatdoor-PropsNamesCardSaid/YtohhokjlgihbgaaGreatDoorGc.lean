/- The contract of whole (package props): all numbers in as few ranges as can be. -/
import Derived.Test.YtohhokjlgihbgaaGreatDoorGb
import Derived.Test.YtohhokjlgihbgaaGreatDoorGa
namespace Go.Proofs.YtohhokjlgihbgaaGreatDoor
open Go.RowKit

theorem rks_at (Q : List Tr) (z : Tr) (k : Nat) (v : Value) (h : (rkc (rkT z))[k]? = some v) : (rks (Q ++ [z]))[Q.length * 3 + k]? = some v := by
  rw [rks_snoc, List.getElem?_append_right (by rw [rks_len]; omega), rks_len, show Q.length * 3 + k - Q.length * 3 = k by omega, h]
theorem rks_set (Q : List Tr) (z : Tr) (h : Nat) : (rks (Q ++ [z])).set (Q.length * 3 + 1) (.int .i32 (h : Int)) = rks (Q ++ [(z.1, h, z.2.2)]) := by
  rw [rks_snoc, rks_snoc, List.set_append_right _ _ (by rw [rks_len]; omega), rks_len, show Q.length * 3 + 1 - Q.length * 3 = 1 by omega]
  rfl
/-- A range joined to the last one, if that has its class. -/
def jn (l : List Tr) (g : Tr) : List Tr :=
  match l.getLast? with
  | some z => if z.2.2 = g.2.2 then l.dropLast ++ [(z.1, g.2.1, g.2.2)] else l ++ [g]
  | none => [g]
theorem jn_nil (g : Tr) : jn [] g = [g] := rfl
theorem jn_snoc (Q : List Tr) (z g : Tr) : jn (Q ++ [z]) g = if z.2.2 = g.2.2 then Q ++ [(z.1, g.2.1, g.2.2)] else Q ++ [z] ++ [g] := by
  have h : (Q ++ [z]).getLast? = some z := by simp
  unfold jn
  rw [h]
  dsimp only
  split
  · simp
  · rfl
theorem jn_len (o : List Tr) (g : Tr) : (jn o g).length ≤ o.length + 1 := by
  rcases List.eq_nil_or_concat o with rfl | ⟨Q, z, rfl⟩
  · simp [jn]
  · rw [List.concat_eq_append, jn_snoc]
    split <;> simp
/-- With what stands ahead of it. -/
def gp (o : List Tr) (nx : Nat) (g : Tr) : List Tr := if nx < g.1 then o ++ [(nx, g.1 - 1, 0)] else o
def whF (o : List Tr) (nx : Nat) : List Tr → List Tr
  | [] => if nx ≤ 1114111 then o ++ [(nx, 1114111, 0)] else o
  | g :: R => whF (jn (gp o nx g) g) (g.2.1 + 1) R
def whl (L : List Tr) : List Tr := whF [] 0 L
theorem gp_len (o : List Tr) (nx : Nat) (g : Tr) : (gp o nx g).length ≤ o.length + 1 := by unfold gp; split <;> simp
theorem whF_len : ∀ (L o : List Tr) (nx : Nat), (whF o nx L).length ≤ o.length + 2 * L.length + 1
  | [], o, nx => by unfold whF; split <;> simp
  | g :: R, o, nx => by
    have h1 := whF_len R (jn (gp o nx g) g) (g.2.1 + 1)
    have h2 := jn_len (gp o nx g) g
    have h3 := gp_len o nx g
    show (whF (jn (gp o nx g) g) (g.2.1 + 1) R).length ≤ _
    simp; omega

set_option maxHeartbeats 6000000 in
set_option maxRecDepth 100000 in
theorem whole_any (ao : Option Addr) (ac : Nat) (L : List Tr) (w : World) (ha : RdK w ao (L.map rkT)) (hl : L.length ≤ 2000000) (hL : ∀ g ∈ L, g.1 ≤ 1114111 ∧ g.2.1 ≤ 1114111) :
    Calls Tryz.prog 37 #[.slice ao L.length ac] w fun e w' => ∃ v', e = .returned v' ∧ w'.ownsRow w.heap.size 86 3 v' (whl L).length (rks (whl L)) ∧ Below w.heap.size w w' := by
  obtain ⟨i0, hi86, hz0, hz1, hz2⟩ := info_parts Tryz.info86
  obtain ⟨n, hn⟩ : ∃ n, n = L.length := ⟨_, rfl⟩
  have HN := hid hn
  obtain ⟨N, hNE⟩ : ∃ N, N = w.heap.size := ⟨_, rfl⟩
  have HNE := hid hNE
  have HAB := hid (show ∀ W, Below N w W → RdK W ao (L.map rkT) from fun W hW => ha.below (by rw [← hNE]; exact hW))
  have HB0 := hid (show Below N w w by rw [hNE]; exact Below.refl _ _)
  have HL := hid hL
  rw [← hNE]
  rw [← hn] at hl ⊢
  clear ha hn hNE hL
  go_enter Tryz.func37, Tryz.ntmps37
  go_wp2
  go_loopw [10, 3, 4] (fun x y z wr => ∃ (k m nx : Nat) (o : List Tr) (vo : Option Addr) (vc : Nat), x = .int .i64 (k : Int) ∧ y = .slice vo m vc ∧ z = .int .i32 (nx : Int) ∧ k ≤ n ∧ nx ≤ 1114112 ∧ m ≤ 2 * k ∧ Hid (m = o.length) ∧ Hid (whF o nx (L.drop k) = whl L) ∧ Hid (wr.ownsRow N 86 3 (.slice vo m vc) m (rks o)) ∧ Hid (Below N w wr)) (fun x _ _ _ => n - (intOf x).toNat)
  case atStart => exact ⟨0, 0, 0, [], none, 0, rfl, rfl, rfl, by omega, by omega, by omega, rfl, rfl, World.ownsRow_nil w N 86 3, HB0⟩
  case round =>
    obtain ⟨k, m, nx, o, vo, vc, rfl, rfl, rfl, hk, hnx, hmk, HM, HWH, HO, HB⟩ := hrel
    have hwN : N ≤ wr.heap.size := by have h5 := HNE.out; have h6 := HB.out.size; omega
    by_cases hlt : k < n
    · have hkL : k < L.length := by have h5 := HN.out; omega
      obtain ⟨a, rfl, ha, a0, a1, a2⟩ := HAB.out wr HB.out k (rkT L[k]) (by rw [List.getElem?_map, List.getElem?_eq_getElem hkL]; rfl)
      obtain ⟨l1, l2⟩ := HL.out L[k] (List.getElem_mem hkL)
      have HST := hid (show whF (jn (gp o nx L[k]) L[k]) (L[k].2.1 + 1) (L.drop (k + 1)) = whl L by rw [← HWH.out, List.drop_eq_getElem_cons hkL]; rfl)
      unfold rkT at a0 a1 a2
      obtain ⟨g, hg⟩ : ∃ g, g = L[k] := ⟨_, rfl⟩
      rw [← hg] at a0 a1 a2 l1 l2 HST
      obtain ⟨lo, hh, cl⟩ := g
      dsimp only at a0 a1 a2 l1 l2 HST
      have i3 : (k : Int) < (n : Int) := by omega
      have i0' : (0 : Int) ≤ (k : Int) := by omega
      have HBA := hid (HB.out.alloc hwN (.cells #[.int .i32 (lo : Int), .int .i32 (hh : Int), .int .i64 (cl : Int)] 86))
      have HOA := hid (HO.out.alloc (.cells #[.int .i32 (lo : Int), .int .i32 (hh : Int), .int .i64 (cl : Int)] 86))
      have HGA := hid (heap_alloc_new wr (.cells [.int .i32 (lo : Int), .int .i32 (hh : Int), .int .i64 (cl : Int)].toArray 86))
      have HOW := hid (show ∀ b, (Value.slice vo m vc).ownBlock = some b → N ≤ b ∧ b < wr.heap.size from fun b hb => HO.out.lt b hb)
      clear hg hkL
      by_cases hgap : nx < lo
      · have hgap' : (nx : Int) < (lo : Int) := by omega
        obtain ⟨l0, hl0⟩ : ∃ l0, l0 = lo - 1 := ⟨_, rfl⟩
        have e0 : (lo : Int) - 1 = (l0 : Int) := by omega
        have e00 : IntKind.i32.wrap (l0 : Int) = (l0 : Int) := by rw [IntKind.wrap_i32]; omega
        have HGP := hid (show gp o nx (lo, hh, cl) = o ++ [(nx, l0, 0)] by unfold gp; rw [if_pos hgap, hl0])
        rw [HGP.out] at HST
        have HNW := hid (show ∀ j u, (rkc ((nx : Int), (l0 : Int), (0 : Int)))[j]? = some u → ((wr.alloc (.cells #[.int .i32 (lo : Int), .int .i32 (hh : Int), .int .i64 (cl : Int)] 86)).alloc (.cells #[.int .i32 (nx : Int), .int .i32 (l0 : Int), .int .i64 0] 86)).cell? ((⟨wr.heap.size + 1, 0, none⟩ : Addr).add j) = some u by
          have h5 := news_k (wr.alloc (.cells #[.int .i32 (lo : Int), .int .i32 (hh : Int), .int .i64 (cl : Int)] 86)) ((nx : Int), (l0 : Int), (0 : Int)) 86
          rw [World.size_alloc] at h5
          exact h5)
        clear hl0
        have em : ((m : Int) + 1) - 1 = (m : Int) := by omega
        have b0 : (0 : Int) ≤ (m : Int) := by omega
        have b1 : (m : Int) < (m : Int) + 1 := by omega
        go_wp2_with (at_builtin; refine wpList_append_lies _ rfl _ _ 64 rfl N 86 i0 (.agg #[.int .i32 0, .int .i32 0, .int .i64 0]) 3 16 Tryz.underlying64 hi86 hz0 hz1 hz2 rfl (by decide) _ m (rks o) rfl (HOA.out.alloc _) ⟨wr.heap.size + 1, 0, none⟩ 1 1 (rkc ((nx : Int), (l0 : Int), (0 : Int))) rfl rfl HNW.out (rkc_one _) (by decide) (by unfold maxLen; omega) (by omega) (by simp; omega) (wr.heap.size + 1 + 1) (by simp) ?_; intro q2 c2 w2 o2 gr2 hl2 hlt2; have HB2 := hid ((HBA.out.alloc (by simp; omega) (.cells #[.int .i32 (nx : Int), .int .i32 (l0 : Int), .int .i64 0] 86)).grown gr2 (by simp; omega) (fun k hk => (HOW.out k hk).1)); have HG2 := hid (show w2.heap[wr.heap.size]? = some (.cells [.int .i32 (lo : Int), .int .i32 (hh : Int), .int .i64 (cl : Int)].toArray 86 (0, 0)) from (gr2.block wr.heap.size (by simp; omega) (fun e => by have h5 := (HOW.out wr.heap.size e.symm).2; omega)).trans ((heap_alloc_old _ _ wr.heap.size (by simp)).trans HGA.out)); have HO2 := hid (show w2.ownsRow N 86 3 (.slice (some ⟨q2, 0, none⟩) (m + 1) c2) (m + 1) (rks (o ++ [(nx, l0, 0)])) by rw [rks_snoc]; exact o2); have x0 := cell_row w2 wr.heap.size 0 _ 86 _ HG2.out rfl; have x1 := cell_row w2 wr.heap.size 1 _ 86 _ HG2.out rfl; have x2 := cell_row w2 wr.heap.size 2 _ 86 _ HG2.out rfl; have hqN : N ≤ q2 := (HO2.out.lt q2 rfl).1; have cz : w2.cell? ⟨q2, m * 3 + 2, none⟩ = some (.int .i64 0) := (by rw [HM.out, HO2.out.cellAt _ (by have h5 := HM.out; omega)]; exact rks_at o (nx, l0, 0) 2 _ rfl); clear o2 gr2 hl2 hlt2)
        have HMQ := hid HM.out
        by_cases hc : cl = 0
        · have hc' : ((0 : Int) == (cl : Int)) = true := by subst hc; rfl
          have HSF := hid (show whF (o ++ [((nx, l0, 0) : Tr).1 |> fun z => (z, hh, 0)]) (hh + 1) (L.drop (k + 1)) = whl L by rw [← HST.out, jn_snoc, if_pos (show ((nx, l0, 0) : Tr).2.2 = (lo, hh, cl).2.2 from hc.symm)]; subst hc; rfl)
          go_quiet (fail)
          have HBq := hid ((HB2.out).trans (show Below N w2 (w2.drewN nq) from ⟨rfl, rfl, rfl, Nat.le_refl _, fun _ _ => rfl⟩))
          have HOq := hid (show (w2.drewN nq).ownsRow N 86 3 (.slice (some ⟨q2, 0, none⟩) (m + 1) c2) (m + 1) (rks (o ++ [(nx, l0, 0)])) from HO2.out)
          have HGq := hid (show (w2.drewN nq).heap[wr.heap.size]? = some (.cells [.int .i32 (lo : Int), .int .i32 (hh : Int), .int .i64 (cl : Int)].toArray 86 (0, 0)) from HG2.out)
          obtain ⟨W, hW⟩ : ∃ W, W = w2.drewN nq := ⟨_, rfl⟩
          rw [← hW] at HBq HOq HGq ⊢
          have hWN : N ≤ W.heap.size := by have h5 := HNE.out; have h6 := HBq.out.size; omega
          clear hW
          have x0 := cell_row W wr.heap.size 0 _ 86 _ HGq.out rfl
          have x1 := cell_row W wr.heap.size 1 _ 86 _ HGq.out rfl
          have x2 := cell_row W wr.heap.size 2 _ 86 _ HGq.out rfl
          clear cz
          have y1 : W.cell? ⟨q2, m * 3 + 1, none⟩ = some (.int .i32 (((nx, l0, 0)).2.1 : Int)) := by rw [HMQ.out, HOq.out.cellAt _ (by have h5 := HMQ.out; omega)]; exact rks_at (o) ((nx, l0, 0)) 1 _ rfl
          have f1 : W.frozen? ⟨q2, m * 3 + 1, none⟩ = false := HOq.out.frozenAt _
          have HR5 := hid (show (W.setCell ⟨q2, m * 3 + 1, none⟩ (.int .i32 (hh : Int))).ownsRow N 86 3 (.slice (some ⟨q2, 0, none⟩) (m + 1) c2) (m + 1) (rks ((o) ++ [(((nx, l0, 0)).1, hh, ((nx, l0, 0)).2.2)])) by
            have h5 := (HOq.out.stored (m * 3 + 1) (.int .i32 (hh : Int))).1
            rw [← rks_set, ← HMQ.out]
            exact h5)
          have HB5 := hid (HBq.out.setCell (p := ⟨q2, m * 3 + 1, none⟩) hqN (.int .i32 (hh : Int)))
          go_wp2
          go_roundw
          case rel => exact ⟨k + 1, m + 1, hh + 1, (o) ++ [(((nx, l0, 0)).1, hh, ((nx, l0, 0)).2.2)], some ⟨q2, 0, none⟩, c2, by go_num, rfl, by go_num, by omega, by omega, by omega, (by have h5 := HMQ.out; show m + 1 = _; simp; omega), HSF, HR5, HB5⟩
          case measure => simp [intOf]; omega
        · have hc' : ((0 : Int) == (cl : Int)) = false := beq_eq_false_iff_ne.2 (by omega)
          have HSF := hid (show whF ((o ++ [(nx, l0, 0)]) ++ [(lo, hh, cl)]) (hh + 1) (L.drop (k + 1)) = whl L by rw [← HST.out, jn_snoc, if_neg (show ¬ ((nx, l0, 0) : Tr).2.2 = (lo, hh, cl).2.2 from fun e => hc e.symm)])
          go_quiet (fail)
          have HBq := hid ((HB2.out).trans (show Below N w2 (w2.drewN nq) from ⟨rfl, rfl, rfl, Nat.le_refl _, fun _ _ => rfl⟩))
          have HOq := hid (show (w2.drewN nq).ownsRow N 86 3 (.slice (some ⟨q2, 0, none⟩) (m + 1) c2) (m + 1) (rks (o ++ [(nx, l0, 0)])) from HO2.out)
          have HGq := hid (show (w2.drewN nq).heap[wr.heap.size]? = some (.cells [.int .i32 (lo : Int), .int .i32 (hh : Int), .int .i64 (cl : Int)].toArray 86 (0, 0)) from HG2.out)
          obtain ⟨W, hW⟩ : ∃ W, W = w2.drewN nq := ⟨_, rfl⟩
          rw [← hW] at HBq HOq HGq ⊢
          have hWN : N ≤ W.heap.size := by have h5 := HNE.out; have h6 := HBq.out.size; omega
          clear hW
          have x0 := cell_row W wr.heap.size 0 _ 86 _ HGq.out rfl
          have x1 := cell_row W wr.heap.size 1 _ 86 _ HGq.out rfl
          have x2 := cell_row W wr.heap.size 2 _ 86 _ HGq.out rfl
          go_wp2_with (at_builtin; refine wpList_append_lies _ rfl _ _ 64 rfl N 86 i0 (.agg #[.int .i32 0, .int .i32 0, .int .i64 0]) 3 16 Tryz.underlying64 hi86 hz0 hz1 hz2 rfl (by decide) _ (m + 1) (rks (o ++ [(nx, l0, 0)])) rfl (HOq.out.alloc _) ⟨W.heap.size, 0, none⟩ 1 1 (rkc ((lo : Int), (hh : Int), (cl : Int))) rfl rfl (news_k W ((lo : Int), (hh : Int), (cl : Int)) 86) (rkc_one _) (by decide) (by unfold maxLen; omega) (by omega) (by simp; omega) (W.heap.size + 1) (by simp) ?_; intro q5 c5 w5 o5 gr5 hl5 hlt5)
          have HB5 := hid ((HBq.out.alloc hWN (.cells #[.int .i32 (lo : Int), .int .i32 (hh : Int), .int .i64 (cl : Int)] 86)).grown gr5 (by simp; omega) (fun k hk => (HOq.out.lt k hk).1))
          have HO5 := hid (show w5.ownsRow N 86 3 (.slice (some ⟨q5, 0, none⟩) ((m + 1) + 1) c5) ((m + 1) + 1) (rks ((o ++ [(nx, l0, 0)]) ++ [(lo, hh, cl)])) by rw [rks_snoc]; exact o5)
          clear o5 gr5 hl5 hlt5
          go_roundw
          case rel => exact ⟨k + 1, (m + 1) + 1, hh + 1, (o ++ [(nx, l0, 0)]) ++ [(lo, hh, cl)], some ⟨q5, 0, none⟩, c5, by go_num, rfl, by go_num, by omega, by omega, by omega, (by have h5 := HM.out; show m + 1 + 1 = _; simp; omega), HSF, HO5, HB5⟩
          case measure => simp [intOf]; omega
      · have hgap' : ¬ (nx : Int) < (lo : Int) := by omega
        have HGP := hid (show gp o nx (lo, hh, cl) = o by unfold gp; rw [if_neg hgap])
        rw [HGP.out] at HST
        rcases List.eq_nil_or_concat o with h0 | ⟨Q, z, h0⟩
        · have hm0 : m = 0 := by have h5 := HM.out; rw [h0] at h5; exact h5
          subst hm0
          rw [h0] at HST HOA
          rw [jn_nil] at HST
          have HSF := hid HST.out
          go_wp2
          go_quiet (fail)
          have HBq := hid ((HBA.out).trans (show Below N (wr.alloc (.cells #[.int .i32 (lo : Int), .int .i32 (hh : Int), .int .i64 (cl : Int)] 86)) ((wr.alloc (.cells #[.int .i32 (lo : Int), .int .i32 (hh : Int), .int .i64 (cl : Int)] 86)).drewN nq) from ⟨rfl, rfl, rfl, Nat.le_refl _, fun _ _ => rfl⟩))
          have HOq := hid (show ((wr.alloc (.cells #[.int .i32 (lo : Int), .int .i32 (hh : Int), .int .i64 (cl : Int)] 86)).drewN nq).ownsRow N 86 3 (.slice vo 0 vc) 0 (rks ([])) from HOA.out)
          have HGq := hid (show ((wr.alloc (.cells #[.int .i32 (lo : Int), .int .i32 (hh : Int), .int .i64 (cl : Int)] 86)).drewN nq).heap[wr.heap.size]? = some (.cells [.int .i32 (lo : Int), .int .i32 (hh : Int), .int .i64 (cl : Int)].toArray 86 (0, 0)) from HGA.out)
          obtain ⟨W, hW⟩ : ∃ W, W = (wr.alloc (.cells #[.int .i32 (lo : Int), .int .i32 (hh : Int), .int .i64 (cl : Int)] 86)).drewN nq := ⟨_, rfl⟩
          rw [← hW] at HBq HOq HGq ⊢
          have hWN : N ≤ W.heap.size := by have h5 := HNE.out; have h6 := HBq.out.size; omega
          clear hW
          have x0 := cell_row W wr.heap.size 0 _ 86 _ HGq.out rfl
          have x1 := cell_row W wr.heap.size 1 _ 86 _ HGq.out rfl
          have x2 := cell_row W wr.heap.size 2 _ 86 _ HGq.out rfl
          go_wp2_with (at_builtin; refine wpList_append_lies _ rfl _ _ 64 rfl N 86 i0 (.agg #[.int .i32 0, .int .i32 0, .int .i64 0]) 3 16 Tryz.underlying64 hi86 hz0 hz1 hz2 rfl (by decide) _ 0 (rks ([])) rfl (HOq.out.alloc _) ⟨W.heap.size, 0, none⟩ 1 1 (rkc ((lo : Int), (hh : Int), (cl : Int))) rfl rfl (news_k W ((lo : Int), (hh : Int), (cl : Int)) 86) (rkc_one _) (by decide) (by unfold maxLen; omega) (by omega) (by simp; omega) (W.heap.size + 1) (by simp) ?_; intro q5 c5 w5 o5 gr5 hl5 hlt5)
          have HB5 := hid ((HBq.out.alloc hWN (.cells #[.int .i32 (lo : Int), .int .i32 (hh : Int), .int .i64 (cl : Int)] 86)).grown gr5 (by simp; omega) (fun k hk => (HOq.out.lt k hk).1))
          have HO5 := hid (show w5.ownsRow N 86 3 (.slice (some ⟨q5, 0, none⟩) (0 + 1) c5) (0 + 1) (rks ([] ++ [(lo, hh, cl)])) by rw [rks_snoc]; exact o5)
          clear o5 gr5 hl5 hlt5
          go_roundw
          case rel => exact ⟨k + 1, 0 + 1, hh + 1, [] ++ [(lo, hh, cl)], some ⟨q5, 0, none⟩, c5, by go_num, rfl, by go_num, by omega, by omega, by omega, (by show 0 + 1 = _; rfl), HSF, HO5, HB5⟩
          case measure => simp [intOf]; omega
        · rw [List.concat_eq_append] at h0
          obtain ⟨mq, hmq⟩ : ∃ mq, mq = Q.length := ⟨_, rfl⟩
          have HMQ := hid hmq
          have hm1 : m = mq + 1 := by have h5 := HM.out; rw [h0] at h5; simp at h5; omega
          subst hm1
          rw [h0] at HST HOA HO
          obtain ⟨q, cap', hve, hqN, hqw⟩ := HO.out.form (by omega)
          cases hve
          have cz : wr.cell? ⟨q, mq * 3 + 2, none⟩ = some (.int .i64 (z.2.2 : Int)) := by rw [hmq, HO.out.cellAt _ (by omega)]; exact rks_at Q z 2 _ rfl
          have em : (((mq + 1 : Nat) : Int)) - 1 = (mq : Int) := by omega
          have em2 : ((mq : Int) + 1) - 1 = (mq : Int) := by omega
          have b0 : (0 : Int) ≤ (mq : Int) := by omega
          have b1 : (mq : Int) < (mq : Int) + 1 := by omega
          have hqs : q < wr.heap.size := hqw
          clear h0 hmq HM
          by_cases hc : z.2.2 = cl
          · have hc' : ((z.2.2 : Int) == (cl : Int)) = true := beq_iff_eq.2 (by omega)
            have HSF := hid (show whF (Q ++ [(z.1, hh, z.2.2)]) (hh + 1) (L.drop (k + 1)) = whl L by rw [← HST.out, jn_snoc, if_pos (show z.2.2 = (lo, hh, cl).2.2 from hc), hc])
            clear hc
            go_wp2
            go_quiet (fail)
            have HBq := hid ((HBA.out).trans (show Below N (wr.alloc (.cells #[.int .i32 (lo : Int), .int .i32 (hh : Int), .int .i64 (cl : Int)] 86)) ((wr.alloc (.cells #[.int .i32 (lo : Int), .int .i32 (hh : Int), .int .i64 (cl : Int)] 86)).drewN nq) from ⟨rfl, rfl, rfl, Nat.le_refl _, fun _ _ => rfl⟩))
            have HOq := hid (show ((wr.alloc (.cells #[.int .i32 (lo : Int), .int .i32 (hh : Int), .int .i64 (cl : Int)] 86)).drewN nq).ownsRow N 86 3 (.slice (some ⟨q, 0, none⟩) (mq + 1) vc) (mq + 1) (rks (Q ++ [z])) from HOA.out)
            have HGq := hid (show ((wr.alloc (.cells #[.int .i32 (lo : Int), .int .i32 (hh : Int), .int .i64 (cl : Int)] 86)).drewN nq).heap[wr.heap.size]? = some (.cells [.int .i32 (lo : Int), .int .i32 (hh : Int), .int .i64 (cl : Int)].toArray 86 (0, 0)) from HGA.out)
            obtain ⟨W, hW⟩ : ∃ W, W = (wr.alloc (.cells #[.int .i32 (lo : Int), .int .i32 (hh : Int), .int .i64 (cl : Int)] 86)).drewN nq := ⟨_, rfl⟩
            rw [← hW] at HBq HOq HGq ⊢
            have hWN : N ≤ W.heap.size := by have h5 := HNE.out; have h6 := HBq.out.size; omega
            clear hW
            have x0 := cell_row W wr.heap.size 0 _ 86 _ HGq.out rfl
            have x1 := cell_row W wr.heap.size 1 _ 86 _ HGq.out rfl
            have x2 := cell_row W wr.heap.size 2 _ 86 _ HGq.out rfl
            clear cz
            have y1 : W.cell? ⟨q, mq * 3 + 1, none⟩ = some (.int .i32 ((z).2.1 : Int)) := by rw [HMQ.out, HOq.out.cellAt _ (by have h5 := HMQ.out; omega)]; exact rks_at (Q) (z) 1 _ rfl
            have f1 : W.frozen? ⟨q, mq * 3 + 1, none⟩ = false := HOq.out.frozenAt _
            have HR5 := hid (show (W.setCell ⟨q, mq * 3 + 1, none⟩ (.int .i32 (hh : Int))).ownsRow N 86 3 (.slice (some ⟨q, 0, none⟩) (mq + 1) vc) (mq + 1) (rks ((Q) ++ [((z).1, hh, (z).2.2)])) by
              have h5 := (HOq.out.stored (mq * 3 + 1) (.int .i32 (hh : Int))).1
              rw [← rks_set, ← HMQ.out]
              exact h5)
            have HB5 := hid (HBq.out.setCell (p := ⟨q, mq * 3 + 1, none⟩) hqN (.int .i32 (hh : Int)))
            go_wp2
            go_roundw
            case rel => exact ⟨k + 1, mq + 1, hh + 1, (Q) ++ [((z).1, hh, (z).2.2)], some ⟨q, 0, none⟩, vc, by go_num, rfl, by go_num, by omega, by omega, by omega, (by have h5 := HMQ.out; show mq + 1 = _; simp; omega), HSF, HR5, HB5⟩
            case measure => simp [intOf]; omega
          · have hc' : ((z.2.2 : Int) == (cl : Int)) = false := beq_eq_false_iff_ne.2 (by omega)
            have HSF := hid (show whF ((Q ++ [z]) ++ [(lo, hh, cl)]) (hh + 1) (L.drop (k + 1)) = whl L by rw [← HST.out, jn_snoc, if_neg (show ¬ z.2.2 = (lo, hh, cl).2.2 from hc)])
            go_wp2
            go_quiet (fail)
            have HBq := hid ((HBA.out).trans (show Below N (wr.alloc (.cells #[.int .i32 (lo : Int), .int .i32 (hh : Int), .int .i64 (cl : Int)] 86)) ((wr.alloc (.cells #[.int .i32 (lo : Int), .int .i32 (hh : Int), .int .i64 (cl : Int)] 86)).drewN nq) from ⟨rfl, rfl, rfl, Nat.le_refl _, fun _ _ => rfl⟩))
            have HOq := hid (show ((wr.alloc (.cells #[.int .i32 (lo : Int), .int .i32 (hh : Int), .int .i64 (cl : Int)] 86)).drewN nq).ownsRow N 86 3 (.slice (some ⟨q, 0, none⟩) (mq + 1) vc) (mq + 1) (rks (Q ++ [z])) from HOA.out)
            have HGq := hid (show ((wr.alloc (.cells #[.int .i32 (lo : Int), .int .i32 (hh : Int), .int .i64 (cl : Int)] 86)).drewN nq).heap[wr.heap.size]? = some (.cells [.int .i32 (lo : Int), .int .i32 (hh : Int), .int .i64 (cl : Int)].toArray 86 (0, 0)) from HGA.out)
            obtain ⟨W, hW⟩ : ∃ W, W = (wr.alloc (.cells #[.int .i32 (lo : Int), .int .i32 (hh : Int), .int .i64 (cl : Int)] 86)).drewN nq := ⟨_, rfl⟩
            rw [← hW] at HBq HOq HGq ⊢
            have hWN : N ≤ W.heap.size := by have h5 := HNE.out; have h6 := HBq.out.size; omega
            clear hW
            have x0 := cell_row W wr.heap.size 0 _ 86 _ HGq.out rfl
            have x1 := cell_row W wr.heap.size 1 _ 86 _ HGq.out rfl
            have x2 := cell_row W wr.heap.size 2 _ 86 _ HGq.out rfl
            go_wp2_with (at_builtin; refine wpList_append_lies _ rfl _ _ 64 rfl N 86 i0 (.agg #[.int .i32 0, .int .i32 0, .int .i64 0]) 3 16 Tryz.underlying64 hi86 hz0 hz1 hz2 rfl (by decide) _ (mq + 1) (rks (Q ++ [z])) rfl (HOq.out.alloc _) ⟨W.heap.size, 0, none⟩ 1 1 (rkc ((lo : Int), (hh : Int), (cl : Int))) rfl rfl (news_k W ((lo : Int), (hh : Int), (cl : Int)) 86) (rkc_one _) (by decide) (by unfold maxLen; omega) (by omega) (by simp; omega) (W.heap.size + 1) (by simp) ?_; intro q5 c5 w5 o5 gr5 hl5 hlt5)
            have HB5 := hid ((HBq.out.alloc hWN (.cells #[.int .i32 (lo : Int), .int .i32 (hh : Int), .int .i64 (cl : Int)] 86)).grown gr5 (by simp; omega) (fun k hk => (HOq.out.lt k hk).1))
            have HO5 := hid (show w5.ownsRow N 86 3 (.slice (some ⟨q5, 0, none⟩) ((mq + 1) + 1) c5) ((mq + 1) + 1) (rks ((Q ++ [z]) ++ [(lo, hh, cl)])) by rw [rks_snoc]; exact o5)
            clear o5 gr5 hl5 hlt5
            go_roundw
            case rel => exact ⟨k + 1, (mq + 1) + 1, hh + 1, (Q ++ [z]) ++ [(lo, hh, cl)], some ⟨q5, 0, none⟩, c5, by go_num, rfl, by go_num, by omega, by omega, by omega, (by have h5 := HMQ.out; show mq + 1 + 1 = _; simp; omega), HSF, HO5, HB5⟩
            case measure => simp [intOf]; omega
    · have i3 : ¬ (k : Int) < (n : Int) := by omega
      have hdk : L.drop k = [] := List.drop_of_length_le (by have h5 := HN.out; omega)
      rw [hdk] at HWH
      by_cases hfin : nx ≤ 1114111
      · have hf' : (nx : Int) ≤ 1114111 := by omega
        have HV := hid (show whl L = o ++ [(nx, 1114111, 0)] by rw [← HWH.out]; show (if nx ≤ 1114111 then _ else _) = _; rw [if_pos hfin])
        go_wp2_with (at_builtin; refine wpList_append_lies _ rfl _ _ 64 rfl N 86 i0 (.agg #[.int .i32 0, .int .i32 0, .int .i64 0]) 3 16 Tryz.underlying64 hi86 hz0 hz1 hz2 rfl (by decide) _ m (rks o) rfl (HO.out.alloc _) ⟨wr.heap.size, 0, none⟩ 1 1 (rkc ((nx : Int), (1114111 : Int), (0 : Int))) rfl rfl (news_k wr ((nx : Int), (1114111 : Int), (0 : Int)) 86) (rkc_one _) (by decide) (by unfold maxLen; omega) (by omega) (by simp; omega) (wr.heap.size + 1) (by simp) ?_; intro q5 c5 w5 o5 gr5 hl5 hlt5)
        have HB5 := hid ((HB.out.alloc hwN (.cells #[.int .i32 (nx : Int), .int .i32 1114111, .int .i64 0] 86)).grown gr5 (by simp; omega) (fun k hk => (HO.out.lt k hk).1))
        have HO5 := hid (show w5.ownsRow N 86 3 (.slice (some ⟨q5, 0, none⟩) (m + 1) c5) (whl L).length (rks (whl L)) by rw [HV.out, rks_snoc, show (o ++ [(nx, 1114111, 0)] : List Tr).length = m + 1 by have h5 := HM.out; simp; omega]; exact o5)
        clear o5 gr5 hl5 hlt5
        go_ret
        exact ⟨_, rfl, HO5.out, HB5.out⟩
      · have hf' : ¬ (nx : Int) ≤ 1114111 := by omega
        have HV := hid (show whl L = o by rw [← HWH.out]; show (if nx ≤ 1114111 then _ else _) = _; rw [if_neg hfin])
        go_wp2
        go_ret
        exact ⟨_, rfl, by rw [HV.out, ← HM.out]; exact HO.out, HB.out⟩
end Go.Proofs.YtohhokjlgihbgaaGreatDoor
/- What whole makes of rising ranges: ranges that rise, the last one ending with the greatest rune. -/
namespace Go.Proofs.YtohhokjlgihbgaaGreatDoor

/-- Ranges that rise from b on. -/
def Rs : Nat → List Tr → Prop
  | _, [] => True
  | b, g :: R => b ≤ g.1 ∧ g.1 ≤ g.2.1 ∧ g.2.1 ≤ 1114111 ∧ Rs (g.2.1 + 1) R
/-- What is made covers all numbers below nx. -/
def StW (o : List Tr) (nx : Nat) : Prop := (o.Pairwise fun x y => x.2.1 < y.2.1) ∧ (∀ g ∈ o, g.2.1 < nx) ∧ (0 < nx → ∃ g ∈ o, g.2.1 + 1 = nx)
theorem st_snoc (o : List Tr) (nx : Nat) (g : Tr) (h : StW o nx) (h1 : nx ≤ g.2.1) : StW (o ++ [g]) (g.2.1 + 1) := by
  obtain ⟨p1, p2, _⟩ := h
  refine ⟨?_, ?_, fun _ => ⟨g, by simp, rfl⟩⟩
  · rw [List.pairwise_append]
    refine ⟨p1, by simp, fun a ha b hb => ?_⟩
    simp at hb
    subst hb
    have h5 := p2 a ha
    omega
  · intro x hx
    rcases List.mem_append.1 hx with hx | hx
    · have h5 := p2 x hx; omega
    · simp at hx; subst hx; omega
theorem st_gp (o : List Tr) (nx : Nat) (g : Tr) (h : StW o nx) (h1 : nx ≤ g.1) : StW (gp o nx g) g.1 := by
  unfold gp
  split
  · rename_i hlt
    have h5 := st_snoc o nx (nx, g.1 - 1, 0) h (by show nx ≤ g.1 - 1; omega)
    have e : ((nx, g.1 - 1, 0) : Tr).2.1 + 1 = g.1 := by show g.1 - 1 + 1 = g.1; omega
    rw [e] at h5
    exact h5
  · have e : g.1 = nx := by omega
    rw [e]; exact h
theorem st_jn (o : List Tr) (nx : Nat) (g : Tr) (h : StW o nx) (h1 : nx ≤ g.2.1) : StW (jn o g) (g.2.1 + 1) := by
  rcases List.eq_nil_or_concat o with rfl | ⟨Q, z, rfl⟩
  · rw [jn_nil]
    exact st_snoc [] nx g h h1
  · rw [List.concat_eq_append] at h ⊢
    rw [jn_snoc]
    split
    · obtain ⟨p1, p2, _⟩ := h
      rw [List.pairwise_append] at p1
      have hz := p2 z (by simp)
      refine ⟨?_, ?_, fun _ => ⟨(z.1, g.2.1, g.2.2), by simp, rfl⟩⟩
      · rw [List.pairwise_append]
        refine ⟨p1.1, by simp, fun a ha b hb => ?_⟩
        simp at hb
        subst hb
        have h5 := p1.2.2 a ha z (by simp)
        show a.2.1 < g.2.1
        omega
      · intro x hx
        rcases List.mem_append.1 hx with hx | hx
        · have h5 := p1.2.2 x hx z (by simp); omega
        · simp at hx; subst hx; show g.2.1 < g.2.1 + 1; omega
    · exact st_snoc (Q ++ [z]) nx g h h1
theorem st_whF : ∀ (L o : List Tr) (nx : Nat), StW o nx → Rs nx L → nx ≤ 1114112 → StW (whF o nx L) 1114112
  | [], o, nx, h, _, hn => by
    unfold whF
    split
    · exact st_snoc o nx (nx, 1114111, 0) h (by assumption)
    · have e : nx = 1114112 := by omega
      rw [← e]; exact h
  | g :: R, o, nx, h, hR, hn => by
    obtain ⟨r1, r2, r3, r4⟩ := hR
    show StW (whF (jn (gp o nx g) g) (g.2.1 + 1) R) 1114112
    exact st_whF R _ _ (st_jn _ g.1 g (st_gp o nx g h r1) r2) r4 (by omega)
theorem whl_st (L : List Tr) (h : Rs 0 L) : ((whl L).Pairwise fun x y => x.2.1 < y.2.1) ∧ ∃ g ∈ whl L, g.2.1 = 1114111 := by
  have h5 := st_whF L [] 0 ⟨List.Pairwise.nil, fun g hg => (by cases hg), fun h => (by omega)⟩ h (by omega)
  obtain ⟨p1, p2, p3⟩ := h5
  obtain ⟨g, hg, e⟩ := p3 (by omega)
  exact ⟨p1, g, hg, by omega⟩
end Go.Proofs.YtohhokjlgihbgaaGreatDoor
/- A range more in a sorted list; merging, step by step. -/
namespace Go.Proofs.YtohhokjlgihbgaaGreatDoor

theorem srt_ge : ∀ {l : List Rg} {b : Int} {j : Nat} {g : Rg}, srt b l → l[j]? = some g → b ≤ g.1
  | [], _, _, _, _, h => by cases h
  | x :: l, b, 0, g, hs, h => by cases h; exact hs.1
  | x :: l, b, j + 1, g, hs, h => by
    have h1 := srt_ge hs.2.2.2 (show l[j]? = some g from h)
    have := hs.1
    omega
theorem srt_hole : ∀ (l : List Rg) (p : Nat) (b : Int) (x : Rg), srt b l → p ≤ l.length → b ≤ x.1 → x.1 ≤ x.2 → x.2 ≤ top → (∀ (j : Nat) (g : Rg), p ≤ j → l[j]? = some g → x.1 < g.1) → (∀ (j : Nat) (g : Rg), j + 1 = p → l[j]? = some g → g.1 ≤ x.1) → srt b (hole l p x)
  | l, 0, b, x, hs, _, h1, h2, h3, h4, _ => by
    show srt b (x :: l)
    refine ⟨h1, h2, h3, ?_⟩
    cases l with
    | nil => trivial
    | cons g t => exact ⟨by have := h4 0 g (Nat.le_refl _) rfl; omega, hs.2⟩
  | [], p + 1, _, _, _, hp, _, _, _, _, _ => by simp at hp
  | g :: t, p + 1, b, x, hs, hp, h1, h2, h3, h4, h5 => by
    show srt b (g :: hole t p x)
    obtain ⟨s1, s2, s3, s4⟩ := hs
    have hgx : g.1 ≤ x.1 := by
      cases p with
      | zero => exact h5 0 g rfl rfl
      | succ q =>
        have hq : q < t.length := by simp at hp; omega
        have e := List.getElem?_eq_getElem hq
        have h6 := h5 (q + 1) t[q] rfl e
        have h7 := srt_ge s4 e
        omega
    exact ⟨s1, s2, s3, srt_hole t p g.1 x s4 (by simp at hp; omega) hgx h2 h3 (fun j y hj hy => h4 (j + 1) y (by omega) hy) (fun j y hj hy => h5 (j + 1) y (by omega) hy)⟩
theorem isin_hole (l : List Rg) (p : Nat) (x : Rg) (r : Int) : isin r (hole l p x) ↔ (x.1 ≤ r ∧ r ≤ x.2) ∨ isin r l := by
  have hm : ∀ g, g ∈ hole l p x ↔ g = x ∨ g ∈ l := fun g => by
    unfold hole
    have h := List.take_append_drop p l
    constructor
    · intro hg
      rcases List.mem_append.1 hg with h1 | h1
      · exact Or.inr (List.mem_of_mem_take h1)
      · rcases List.mem_cons.1 h1 with h2 | h2
        · exact Or.inl h2
        · exact Or.inr (List.mem_of_mem_drop h2)
    · rintro (h1 | h1)
      · exact List.mem_append.2 (Or.inr (List.mem_cons.2 (Or.inl h1)))
      · rw [← h] at h1
        rcases List.mem_append.1 h1 with h2 | h2
        · exact List.mem_append.2 (Or.inl h2)
        · exact List.mem_append.2 (Or.inr (List.mem_cons.2 (Or.inr h2)))
  rw [isin_iff, isin_iff]
  constructor
  · rintro ⟨g, hg, h1⟩
    rcases (hm g).1 hg with rfl | hg
    · exact Or.inl h1
    · exact Or.inr ⟨g, hg, h1⟩
  · rintro (h1 | ⟨g, hg, h1⟩)
    · exact ⟨x, (hm x).2 (Or.inl rfl), h1⟩
    · exact ⟨g, (hm g).2 (Or.inr hg), h1⟩

/-- One by one: the ranges of a list, cut, put in order. -/
def ins (x : Rg) : List Rg → List Rg
  | [] => [x]
  | y :: t => if y.1 ≤ x.1 then y :: ins x t else x :: y :: t
def isort (l : List Rg) : List Rg := l.foldl (fun s x => ins x s) []
theorem srt_ins : ∀ (l : List Rg) (b : Int) (x : Rg), srt b l → b ≤ x.1 → x.1 ≤ x.2 → x.2 ≤ top → srt b (ins x l)
  | [], _, _, _, h1, h2, h3 => ⟨h1, h2, h3, trivial⟩
  | y :: t, b, x, hs, h1, h2, h3 => by
    obtain ⟨s1, s2, s3, s4⟩ := hs
    unfold ins
    split
    · rename_i h; exact ⟨s1, s2, s3, srt_ins t y.1 x s4 h h2 h3⟩
    · rename_i h; exact ⟨h1, h2, h3, by omega, s2, s3, s4⟩
theorem isin_ins : ∀ (l : List Rg) (x : Rg) (r : Int), isin r (ins x l) ↔ (x.1 ≤ r ∧ r ≤ x.2) ∨ isin r l
  | [], _, _ => by simp [ins, isin]
  | y :: t, x, r => by
    unfold ins
    split
    · show ((y.1 ≤ r ∧ r ≤ y.2) ∨ isin r (ins x t)) ↔ _
      rw [isin_ins t x r]
      show _ ↔ _ ∨ (y.1 ≤ r ∧ r ≤ y.2) ∨ isin r t
      constructor
      · rintro (h | h | h)
        · exact Or.inr (Or.inl h)
        · exact Or.inl h
        · exact Or.inr (Or.inr h)
      · rintro (h | h | h)
        · exact Or.inr (Or.inl h)
        · exact Or.inl h
        · exact Or.inr (Or.inr h)
    · exact Iff.rfl
theorem isort_from : ∀ (l s : List Rg), (∀ g, g ∈ l → 0 ≤ g.1 ∧ g.1 ≤ g.2 ∧ g.2 ≤ top) → srt 0 s → srt 0 (l.foldl (fun s x => ins x s) s) ∧ ∀ r, isin r (l.foldl (fun s x => ins x s) s) ↔ isin r l ∨ isin r s
  | [], s, _, hs => ⟨hs, fun r => by simp [isin]⟩
  | x :: l, s, hv, hs => by
    have hx := hv x (List.mem_cons_self)
    have h := isort_from l (ins x s) (fun g hg => hv g (List.mem_cons_of_mem _ hg)) (srt_ins s 0 x hs hx.1 hx.2.1 hx.2.2)
    refine ⟨h.1, fun r => ?_⟩
    rw [List.foldl_cons, h.2 r, isin_ins]
    show _ ↔ ((x.1 ≤ r ∧ r ≤ x.2) ∨ isin r l) ∨ isin r s
    constructor
    · rintro (h | h | h)
      · exact Or.inl (Or.inr h)
      · exact Or.inl (Or.inl h)
      · exact Or.inr h
    · rintro ((h | h) | h)
      · exact Or.inr (Or.inl h)
      · exact Or.inl h
      · exact Or.inr (Or.inr h)
theorem cut_valid (l : List Rg) : ∀ g, g ∈ cut l → 0 ≤ g.1 ∧ g.1 ≤ g.2 ∧ g.2 ≤ top := fun g hg => by
  unfold cut at hg
  rw [List.mem_filter, List.mem_map] at hg
  obtain ⟨⟨x, _, rfl⟩, h⟩ := hg
  have h2 : (cut1 x).1 ≤ (cut1 x).2 := by simpa using h
  refine ⟨?_, h2, ?_⟩ <;> unfold cut1 <;> dsimp only <;> omega
/-- The normal form of the set that a list means. -/
def nrm (l : List Rg) : List Rg := mrg (isort (cut l))
theorem isort_cut (l : List Rg) : srt 0 (isort (cut l)) ∧ ∀ r, isin r (isort (cut l)) ↔ means r l := by
  have h := isort_from (cut l) [] (cut_valid l) trivial
  exact ⟨h.1, fun r => by
    show isin r ((cut l).foldl (fun s x => ins x s) []) ↔ _
    rw [h.2 r, cut_in]
    simp [isin]⟩
theorem nrm_nf (l : List Rg) : nf (nrm l) := mrg_nf (isort_cut l).1
theorem nrm_in (l : List Rg) (r : Int) : isin r (nrm l) ↔ means r l := by
  unfold nrm
  rw [mrg_in (isort_cut l).1, (isort_cut l).2]
/-- Whatever sorted list means the same: merged it is the normal form. -/
theorem mrg_nrm {s l : List Rg} (h : srt 0 s) (hi : ∀ r, isin r s ↔ means r l) : mrg s = nrm l :=
  nf_one (mrg_nf h) (nrm_nf l) (fun r => by rw [mrg_in h, nrm_in, hi])
/-- A list is the normal form of what it means just if it is in normal form. -/
theorem nrm_same (l : List Rg) : l = nrm l ↔ nf l := by
  constructor
  · intro h; rw [h]; exact nrm_nf l
  · intro h
    refine nf_one h (nrm_nf l) (fun r => ?_)
    rw [nrm_in]
    exact ⟨fun hr => ⟨isin_ge h hr, isin_le h hr, hr⟩, fun hr => hr.2.2⟩

/-- Merging so far: what lies in the answer, and what is to come. -/
def Mid (s out : List Rg) (k : Nat) : Prop := (k = 0 ∧ out = []) ∨ ∃ (P : List Rg) (lo hi : Int), out = P ++ [(lo, hi)] ∧ P ++ mrgF lo hi (s.drop k) = mrg s
theorem Mid.start (s : List Rg) : Mid s [] 0 := Or.inl ⟨rfl, rfl⟩
theorem Mid.first {s : List Rg} (h : 0 < s.length) : Mid s [s[0]] 1 := by
  refine Or.inr ⟨[], s[0].1, s[0].2, rfl, ?_⟩
  cases s with
  | nil => simp at h
  | cons g t => rfl
theorem Mid.more {s P : List Rg} {lo hi : Int} {k : Nat} (hk : k < s.length) (h : P ++ mrgF lo hi (s.drop k) = mrg s) (hc : hi + 1 < s[k].1) : Mid s (P ++ [(lo, hi)] ++ [s[k]]) (k + 1) := by
  refine Or.inr ⟨P ++ [(lo, hi)], s[k].1, s[k].2, rfl, ?_⟩
  rw [← h, List.drop_eq_getElem_cons hk]
  conv => rhs; unfold mrgF
  rw [if_pos hc]
  simp
theorem Mid.join {s P : List Rg} {lo hi : Int} {k : Nat} (hk : k < s.length) (h : P ++ mrgF lo hi (s.drop k) = mrg s) (hc : ¬ hi + 1 < s[k].1) : Mid s (P ++ [(lo, max hi s[k].2)]) (k + 1) := by
  refine Or.inr ⟨P, lo, max hi s[k].2, rfl, ?_⟩
  rw [← h, List.drop_eq_getElem_cons hk]
  conv => rhs; unfold mrgF
  rw [if_neg hc]
theorem Mid.done {s out : List Rg} {k : Nat} (h : Mid s out k) (hk : ¬ k < s.length) : out = mrg s := by
  rcases h with ⟨rfl, rfl⟩ | ⟨P, lo, hi, rfl, h⟩
  · have : s = [] := List.length_eq_zero_iff.1 (by omega)
    subst this; rfl
  · rw [List.drop_of_length_le (by omega)] at h
    exact h
end Go.Proofs.YtohhokjlgihbgaaGreatDoor
