/- The contract of the document's Ranged. -/
import Derived.Test.YtohhokjlgihbgaaGreatDoorDRNew
import Derived.Test.YtohhokjlgihbgaaGreatDoorDEvMath
namespace Go.Proofs.YtohhokjlgihbgaaGreatDoor
open Go.RowKit

theorem rks_set3 : ∀ (L : List Tr) (i : Nat) (z : Tr), (((rks L).set (i * 3) (.int .i32 (z.1 : Int))).set (i * 3 + 1) (.int .i32 (z.2.1 : Int))).set (i * 3 + 2) (.int .i64 (z.2.2 : Int)) = rks (L.set i z)
  | [], i, z => by simp [rks]
  | h :: R, 0, z => rfl
  | h :: R, i + 1, z => by
    have ih := rks_set3 R i z
    have e : rks (h :: R) = .int .i32 (h.1 : Int) :: .int .i32 (h.2.1 : Int) :: .int .i64 (h.2.2 : Int) :: rks R := rfl
    have e2 : rks ((h :: R).set (i + 1) z) = .int .i32 (h.1 : Int) :: .int .i32 (h.2.1 : Int) :: .int .i64 (h.2.2 : Int) :: rks (R.set i z) := rfl
    rw [e, e2, show (i + 1) * 3 = i * 3 + 3 by omega, ← ih]
    rfl
/-- A range stored into its place. -/
theorem row_set3 {w : World} {B g n cap : Nat} {L : List Tr} (h : w.ownsRow B 86 3 (.slice (some ⟨g, 0, none⟩) n cap) n (rks L)) (i : Nat) (z : Tr) :
    (((w.setCell ⟨g, i * 3, none⟩ (.int .i32 (z.1 : Int))).setCell ⟨g, i * 3 + 1, none⟩ (.int .i32 (z.2.1 : Int))).setCell ⟨g, i * 3 + 2, none⟩ (.int .i64 (z.2.2 : Int))).ownsRow B 86 3 (.slice (some ⟨g, 0, none⟩) n cap) n (rks (L.set i z)) := by
  rw [← rks_set3]
  exact (((h.stored (i * 3) _).1.stored (i * 3 + 1) _).1.stored (i * 3 + 2) _).1
theorem row_cells3 {w : World} {B g n cap : Nat} {L : List Tr} (h : w.ownsRow B 86 3 (.slice (some ⟨g, 0, none⟩) n cap) n (rks L)) (i : Nat) (hi : i < n) (z : Tr) (hz : L[i]? = some z) :
    w.cell? ⟨g, i * 3, none⟩ = some (.int .i32 (z.1 : Int)) ∧ w.cell? ⟨g, i * 3 + 1, none⟩ = some (.int .i32 (z.2.1 : Int)) ∧ w.cell? ⟨g, i * 3 + 2, none⟩ = some (.int .i64 (z.2.2 : Int)) := by
  have h5 : ∀ (L : List Tr) (i : Nat) (c : Nat) (v : Value), L[i]? = some z → (rkc (rkT z))[c]? = some v → (rks L)[i * 3 + c]? = some v := by
    intro L
    induction L with
    | nil => intro i c v h1 _; cases h1
    | cons x R ih =>
      intro i c v h1 h2
      have e : rks (x :: R) = rkc (rkT x) ++ rks R := rfl
      have hl : (rkc (rkT x)).length = 3 := rfl
      cases i with
      | zero =>
        cases h1
        have hc : c < 3 := (List.getElem?_eq_some_iff.1 h2).1
        rw [e, Nat.zero_mul, Nat.zero_add, List.getElem?_append_left (by omega)]
        exact h2
      | succ i =>
        rw [e, List.getElem?_append_right (by omega), hl, show (i + 1) * 3 + c - 3 = i * 3 + c by omega]
        exact ih i c v h1 h2
  refine ⟨?_, ?_, ?_⟩
  · rw [h.cellAt (i * 3) (by omega)]; exact h5 L i 0 _ hz rfl
  · rw [h.cellAt (i * 3 + 1) (by omega)]; exact h5 L i 1 _ hz rfl
  · rw [h.cellAt (i * 3 + 2) (by omega)]; exact h5 L i 2 _ hz rfl
theorem news_kH (w : World) (g : Rk) (T : TypeId) (H : Nat) (hH : w.heap.size = H) : ∀ j u, (rkc g)[j]? = some u → (w.alloc (.cells #[.int .i32 g.1, .int .i32 g.2.1, .int .i64 g.2.2] T)).cell? ((⟨H, 0, none⟩ : Addr).add j) = some u := by
  subst hH
  exact news_k w g T
theorem cell_same (W w : World) (q j : Nat) (e : W.heap[q]? = w.heap[q]?) : W.cell? ⟨q, j, none⟩ = w.cell? ⟨q, j, none⟩ := by
  unfold World.cell?
  simp only [e]
theorem set3_far (w : World) (q a b c : Nat) (u v x : Value) (y : Nat) (h : y ≠ q) : (((w.setCell ⟨q, a, none⟩ u).setCell ⟨q, b, none⟩ v).setCell ⟨q, c, none⟩ x).heap[y]? = w.heap[y]? :=
  (Below.heap_setCell _ ⟨q, c, none⟩ x y h).trans ((Below.heap_setCell _ ⟨q, b, none⟩ v y h).trans (Below.heap_setCell w ⟨q, a, none⟩ u y h))
theorem cov_below {w w' : World} {B : Nat} (h : Below B w w') (p : Addr) (hp : B ≤ p.block) (v : Value) : Below B w (w'.setCell p v) := h.setCell (p := p) hp v
set_option maxRecDepth 100000 in
set_option maxHeartbeats 8000000 in
theorem rranged_any (B Q n : Nat) (U : List (List UInt8)) (A : List Tr) (nv sv : Value) (vs : List Value) (w : World) (h : DocAt B Q U (dst n A) nv sv vs w) (hC : Cov 0 A 1114112) (hc : ∀ g ∈ A, g.2.2 < n) (hn1 : 1 ≤ n) (hn : n ≤ 1000) (hl : A.length ≤ 1000000) :
    Calls Tryz.prog 42 #[.pointer (some ⟨Q, 0, none⟩)] w fun e w' => ∃ v', e = .returned v' ∧ w'.ownsRow w.heap.size 86 3 v' (rgd A).length (rks (rgd A)) ∧ Below w.heap.size w w' := by
  obtain ⟨i0, hi86, hz0, hz1, hz2⟩ := info_parts Tryz.info86
  have HSR := hid (cov_srt A 0 _ hC)
  have HEN := hid (rgS_end A n hc)
  have HLN := hid (rgS_len A)
  obtain ⟨so, sc, rfl, hrd⟩ := h.rd
  have HRD := hid hrd
  have c1 := h.c1
  have hQ := lt_of_heap h.hQ
  rw [dst_len] at c1
  obtain ⟨M, hM⟩ : ∃ M, M = w.heap.size := ⟨_, rfl⟩
  have HM := hid hM
  rw [← hM]
  clear h hrd hC hc hM
  go_enter Tryz.func42, Tryz.ntmps42
  go_wp2
  go_loopw [3, 4, 5, 6, 7] (fun l x _ _ _ wr => ∃ c : Nat, 1 ≤ c ∧ c ≤ n ∧ x = .int .i64 (c : Int) ∧ Hid (wr.ownsRow M 86 3 l (rgS A c 0).length (rks (rgS A c 0))) ∧ Hid (Below M w wr)) (fun _ x _ _ _ _ => n - (intOf x).toNat)
  case atStart => exact ⟨1, by omega, by omega, rfl, by rw [rgS_start]; exact World.ownsRow_nil _ _ _ _, by rw [HM.out]; exact Below.refl _ _⟩
  case round =>
    obtain ⟨c, hc1, hcn, rfl, HO, HBr⟩ := hrel
    have d1 := (HBr.out.cell (p := ⟨Q, 1, none⟩) (by have h5 := HM.out; show Q < M; omega)).trans c1
    by_cases hlt : c < n
    · have i3 : (c : Int) < (n : Int) := by omega
      have ic0 : (0 : Int) ≤ (c : Int) := by omega
      obtain ⟨a, rfl, ha, ao, ac, a0, hra, _⟩ := HRD.out c (stc (c : Int) A) (dst_at n A c hlt)
      have HCL := hid (cel_stc A c)
      have hcl : (stc (c : Int) A).length = (cel A c).length := by rw [HCL.out, List.length_map]
      rw [hcl] at a0
      have HRA := hid hra
      have HNX := hid (rgS_next A c (cel A c).length (by omega) (Nat.le_refl _))
      obtain ⟨m, hm⟩ : ∃ m, m = (cel A c).length := ⟨_, rfl⟩
      have HMB := hid (show m ≤ 1000000 by rw [hm]; have h5 : (cel A c).length ≤ A.length := List.length_filter_le _ _; omega)
      have HMC := hid hm
      rw [← hm] at a0 HNX
      clear hra hcl hm
      go_wp2
      go_loopw [3, 5, 6, 7] (fun l x _ _ wr => ∃ (i : Nat) (lo : Option Addr) (lc : Nat), i ≤ m ∧ x = .int .i64 (i : Int) ∧ l = .slice lo (rgS A c i).length lc ∧ Hid (wr.ownsRow M 86 3 (.slice lo (rgS A c i).length lc) (rgS A c i).length (rks (rgS A c i))) ∧ Hid (Below M w wr)) (fun _ x _ _ _ => m - (intOf x).toNat)
      case atStart =>
        obtain ⟨lo, lc, e⟩ := own_form HO.out
        subst e
        exact ⟨0, lo, lc, by omega, rfl, rfl, HO, HBr⟩
      case round =>
        clear HO HBr d1
        obtain ⟨i, lo, lc, him, rfl, rfl, HO, HBr⟩ := hrel
        have hwr : M ≤ wr.heap.size := by have h5 := HBr.out.size; have h6 := HM.out; omega
        have d1 := (HBr.out.cell (p := ⟨Q, 1, none⟩) (by have h5 := HM.out; show Q < M; omega)).trans c1
        have a1 := (HBr.out.cell (p := a.add c) (by have h5 := HM.out; rw [add_blk]; show a.block < M; omega)).trans a0
        by_cases hil : i < m
        · have hiC : i < (cel A c).length := by have h5 := HMC.out; omega
          have j3 : (i : Int) < (m : Int) := by omega
          have j0 : (0 : Int) ≤ (i : Int) := by omega
          have HST := hid (rgS_step A HSR.out c i hiC)
          have hgm := List.mem_filter.1 (show (cel A c)[i] ∈ A.filter (fun g => decide (g.2.2 = c)) from List.getElem_mem hiC)
          have hgc : (cel A c)[i].2.2 = c := by simpa using hgm.2
          have HSS := hid (rgS_sub A HSR.out c i)
          have hsl := HLN.out c i
          have hel : (stc (c : Int) A)[i]? = some (((cel A c)[i].1 : Int), ((cel A c)[i].2.1 : Int)) := by rw [HCL.out, List.getElem?_map, List.getElem?_eq_getElem hiC]; rfl
          obtain ⟨g, hg⟩ : ∃ g, g = (cel A c)[i] := ⟨_, rfl⟩
          rw [← hg] at HST hgc hel
          obtain ⟨z0, z1, z2⟩ := g
          dsimp only at hgc hel
          subst hgc
          obtain ⟨S, hS⟩ : ∃ S, S = rgS A z2 i := ⟨_, rfl⟩
          have HSE := hid hS
          rw [← hS] at HO HST HSS hsl ⊢
          obtain ⟨b, hbe, hbb, b0, b1⟩ := (HRA.out.below (show Below w.heap.size w wr by rw [← HM.out]; exact HBr.out)) i _ hel
          subst hbe
          dsimp only at b0 b1
          clear hg hgm hel hS hiC
          obtain ⟨sl, hsle⟩ : ∃ sl, sl = S.length := ⟨_, rfl⟩
          have HSL := hid hsle
          rw [← hsle] at HO hsl ⊢
          clear hsle
          have HWA := hid (show Below M w (wr.alloc (.cells #[.int .i32 (z0 : Int), .int .i32 (z1 : Int)] 84)) from HBr.out.alloc hwr _)
          go_wp2_with (at_builtin; refine wpList_append_lies _ rfl _ _ 64 rfl M 86 i0 (.agg #[.int .i32 0, .int .i32 0, .int .i64 0]) 3 16 Tryz.underlying64 hi86 hz0 hz1 hz2 rfl (by decide) _ sl (rks S) rfl ((HO.out.alloc _).alloc _) ⟨wr.heap.size + 1, 0, none⟩ 1 1 (rkc ((z0 : Int), (z1 : Int), (z2 : Int))) rfl rfl (news_kH _ ((z0 : Int), (z1 : Int), (z2 : Int)) 86 (wr.heap.size + 1) (by simp)) (rkc_one _) (by decide) (by unfold maxLen; omega) (by omega) (by simp; omega) (wr.heap.size + 2) (by simp) ?_; intro q2 c2 w4 o4 gr4 hl4 hlt4)
          --MARK
          have hmb : m ≤ 1000000 := HMB.out
          obtain ⟨X, hX⟩ : ∃ X, X = wr.heap.size := ⟨_, rfl⟩
          have hbx : w4.heap[X]? = some (.cells #[.int .i32 (z0 : Int), .int .i32 (z1 : Int)] 84 (0, 0)) := by
            have e1 := gr4.block X (by rw [World.size_alloc, World.size_alloc]; omega) (fun e => by have h5 := (HO.out.lt X e.symm).2; omega)
            rw [e1, heap_alloc_old _ _ X (by rw [World.size_alloc]; omega), hX, heap_alloc_new]
          have HBX := hid hbx
          have HO4 := hid (show w4.ownsRow M 86 3 (.slice (some ⟨q2, 0, none⟩) (sl + 1) c2) (sl + 1) (rks (bub (z0, z1, z2) S sl)) by
            rw [HSL.out, bub_end, rks_snoc, ← HSL.out]; exact o4)
          have HB4 := hid (show Below M w w4 from ((HWA.out.alloc (by rw [World.size_alloc]; omega) _).grown gr4 (by rw [World.size_alloc, World.size_alloc]; omega) (fun k hk => (HO.out.lt k hk).1)))
          have hqX : q2 ≠ X := fun e => row_other o4 X _ 84 hbx (by decide) (by rw [← e]; rfl)
          have hMX : M ≤ X := by omega
          have hMq : M ≤ q2 := (o4.lt q2 rfl).1
          rw [← hX]
          have e0 : IntKind.i64.wrap ((sl : Int) + 1 - 1) = (sl : Int) := by rw [IntKind.wrap_i64]; omega
          have HSN := hid (show S.drop sl = [] from List.drop_of_length_le (by have h5 := HSL.out; omega))
          clear hbx o4 gr4 hl4 hlt4 b0 b1 a1 d1 HO HBr HWA hX
          go_loopw [7] (fun x wq => ∃ k : Nat, k ≤ sl ∧ x = .int .i64 (k : Int) ∧ Hid (wq.ownsRow M 86 3 (.slice (some ⟨q2, 0, none⟩) (sl + 1) c2) (sl + 1) (rks (bub (z0, z1, z2) S k))) ∧ Hid (∀ y ∈ S.drop k, z0 < y.1) ∧ Hid (wq.heap[X]? = some (.cells #[.int .i32 (z0 : Int), .int .i32 (z1 : Int)] 84 (0, 0))) ∧ Hid (Below M w wq)) (fun x _ => (intOf x).toNat)
          case atStart => exact ⟨sl, by omega, by go_num, HO4, by rw [HSN.out]; exact fun y hy => (by cases hy), HBX, HB4⟩
          case round =>
            clear HO4 HB4 HBX e0 HSN
            obtain ⟨k, hk, rfl, HOq, HGT, HXq, HBq⟩ := hrel
            obtain ⟨wq, hwq⟩ : ∃ wq, wq = wr := ⟨_, rfl⟩
            rw [← hwq] at HOq HXq HBq ⊢
            clear hwq
            cases k with
            | zero =>
              have HLE2 := hid (show ing (z0, z1, z2) S = bub (z0, z1, z2) S 0 from ing_at (z0, z1, z2) S 0 (fun x hx => by rw [List.take_zero] at hx; cases hx) HGT.out)
              have HO5 := hid (show wq.ownsRow M 86 3 (.slice (some ⟨q2, 0, none⟩) (rgS A z2 (i + 1)).length c2) (rgS A z2 (i + 1)).length (rks (rgS A z2 (i + 1))) by
                rw [HST.out, HLE2.out, bub_len (z0, z1, z2) S 0 (by have h5 := HSL.out; omega), ← HSL.out]
                exact HOq.out)
              have HL5 := hid (show (rgS A z2 (i + 1)).length = sl + 1 by rw [HST.out, HLE2.out, bub_len (z0, z1, z2) S 0 (by have h5 := HSL.out; omega), ← HSL.out])
              have HB5 := hid (show Below M w wq.drew from HBq.out.drew)
              clear HGT HLE2 HOq HBq
              go_wp2_with fail
              go_region
              all_goals
                go_wp2
                go_roundw
                case rel => exact ⟨i + 1, some ⟨q2, 0, none⟩, c2, by omega, by go_num, by rw [HL5.out], HO5.out.drew, HB5⟩
                case measure => simp [intOf]; omega
            | succ j =>
              have hjS : j < S.length := by have h5 := HSL.out; omega
              have bx : wq.cell? ⟨X, 0, none⟩ = some (.int .i32 (z0 : Int)) := cell_row wq X 0 [_, _] 84 _ HXq.out rfl
              obtain ⟨r0, r1, r2⟩ := row_cells3 HOq.out j (by omega) S[j] (bub_pre (z0, z1, z2) S j hjS)
              obtain ⟨t0, t1, t2⟩ := row_cells3 HOq.out (j + 1) (by omega) (z0, z1, z2) (bub_at (z0, z1, z2) S (j + 1) (by omega))
              dsimp only at t0 t1 t2
              have e1 : IntKind.i64.wrap ((j : Int) + 1 - 1) = (j : Int) := by rw [IntKind.wrap_i64]; omega
              have e2 : IntKind.i64.wrap (j : Int) = (j : Int) := by rw [IntKind.wrap_i64]; omega
              have e3 : (0 : Int) < (j : Int) + 1 := by omega
              have e4 : (j : Int) < (sl : Int) + 1 := by omega
              have e5 : (0 : Int) ≤ (j : Int) := by omega
              have e6 : (j : Int) + 1 < (sl : Int) + 1 := by omega
              have e7 : (0 : Int) ≤ (j : Int) + 1 := by omega
              have HSW := hid (bub_swap (z0, z1, z2) S j hjS)
              have HDR := hid (List.drop_eq_getElem_cons hjS)
              have HTK := hid (show ∀ x ∈ S.take (j + 1), x.1 ≤ S[j].1 from fun x hx => by
                obtain ⟨p, hp⟩ := List.mem_iff_getElem?.1 hx
                rw [List.getElem?_take] at hp
                split at hp
                · rename_i hpj
                  obtain ⟨h6, h7⟩ := List.getElem?_eq_some_iff.1 hp
                  rcases Nat.lt_or_ge p j with h8 | h8
                  · have h9 := List.pairwise_iff_getElem.1 HSS.out p j h6 hjS h8
                    rw [h7] at h9; omega
                  · have h9 : p = j := by omega
                    subst h9
                    rw [← h7]; exact Nat.le_refl _
                · cases hp)
              obtain ⟨y, hy⟩ : ∃ y, y = S[j] := ⟨_, rfl⟩
              rw [← hy] at r0 r1 r2 HSW HDR HTK
              obtain ⟨y0, y1, y2⟩ := y
              dsimp only at r0 r1 r2 HTK
              clear hjS hy
              by_cases hgt : z0 < y0
              · have hgt' : (z0 : Int) < (y0 : Int) := by omega
                have HG2 := hid (show ∀ y ∈ S.drop j, z0 < y.1 from fun y hy => by
                  rw [HDR.out] at hy
                  rcases List.mem_cons.1 hy with rfl | hy
                  · exact hgt
                  · exact HGT.out y hy)
                have HSC := hid (show ∀ W : World, W.heap[q2]? = wq.heap[q2]? → W.cell? ⟨q2, j * 3, none⟩ = some (.int .i32 (y0 : Int)) ∧ W.cell? ⟨q2, j * 3 + 1, none⟩ = some (.int .i32 (y1 : Int)) ∧ W.cell? ⟨q2, j * 3 + 2, none⟩ = some (.int .i64 (y2 : Int)) ∧ W.cell? ⟨q2, (j + 1) * 3, none⟩ = some (.int .i32 (z0 : Int)) ∧ W.cell? ⟨q2, (j + 1) * 3 + 1, none⟩ = some (.int .i32 (z1 : Int)) ∧ W.cell? ⟨q2, (j + 1) * 3 + 2, none⟩ = some (.int .i64 (z2 : Int)) from fun W e => by
                  refine ⟨?_, ?_, ?_, ?_, ?_, ?_⟩ <;> (rw [cell_same W wq q2 _ e]; assumption))
                have HRN := hid (row_set3 (row_set3 HOq.out.drew j (z0, z1, z2)) (j + 1) (y0, y1, y2))
                dsimp only at HRN
                rw [HSW.out] at HRN
                have HO2 := hid (show wq.drew.drew.ownsRow M 86 3 (.slice (some ⟨q2, 0, none⟩) (sl + 1) c2) (sl + 1) (rks (bub (z0, z1, z2) S (j + 1))) from HOq.out.drew.drew)
                have HBD := hid (show Below M w wq.drew.drew from HBq.out.drew.drew)
                have HXD := hid (show wq.drew.drew.heap[X]? = some (.cells #[.int .i32 (z0 : Int), .int .i32 (z1 : Int)] 84 (0, 0)) from HXq.out)
                have HSD := hid (HSC.out wq.drew.drew rfl)
                clear HRN
                go_wp2_with fail
                go_region
                clear r0 r1 r2 t0 t1 t2 bx HTK
                go_wp2
                obtain ⟨V, hV⟩ : ∃ V, V = wq.drew.drew := ⟨_, rfl⟩
                refine wp_region_mixC [(0, 1), (1, 1), (2, 1), (3, 1), (4, 1), (5, 1), (6, 1), (7, 1), (8, 0), (9, 1), (10, 1), (11, 1), (12, 1), (13, 0), (14, 1), (15, 2), (16, 1), (17, 2)] (fun W => W.cell? ⟨q2, j * 3, none⟩ = some (.int .i32 (y0 : Int)) ∧ W.cell? ⟨q2, j * 3 + 1, none⟩ = some (.int .i32 (y1 : Int)) ∧ W.cell? ⟨q2, j * 3 + 2, none⟩ = some (.int .i64 (y2 : Int)) ∧ W.cell? ⟨q2, (j + 1) * 3, none⟩ = some (.int .i32 (z0 : Int)) ∧ W.cell? ⟨q2, (j + 1) * 3 + 1, none⟩ = some (.int .i32 (z1 : Int)) ∧ W.cell? ⟨q2, (j + 1) * 3 + 2, none⟩ = some (.int .i64 (z2 : Int))) (fun _ => True) (fun j => j == 15 || j == 17) (by kernel_rfl) (by kernel_rfl) (fun j hj => by simp at hj; rcases hj with rfl | rfl <;> decide) rfl (by kernel_rfl) HSD.out trivial ?_
                rw [← hV] at HO2 HBD HXD HSD ⊢
                clear hV
                iterate 15 ((first | refine mixC_s ?_ rfl (by kernel_rfl) (fun w' hS => ?_) ?_ | refine mixC_t ?_ rfl (by kernel_rfl) (fun w' hS => ?_) ?_); (rotate_left; ((first | obtain ⟨s1, s2, s3, s4, s5, s6⟩ := hS | clear hS); go_simp; with_reducible rfl); rotate_left))
                obtain ⟨k1, k2, k3, k4, k5, k6⟩ := HSD.out
                have f1 : V.frozen? ⟨q2, j * 3, none⟩ = false := HO2.out.frozenAt (j * 3)
                have f2 : V.frozen? ⟨q2, j * 3 + 1, none⟩ = false := HO2.out.frozenAt (j * 3 + 1)
                have f3 : V.frozen? ⟨q2, j * 3 + 2, none⟩ = false := HO2.out.frozenAt (j * 3 + 2)
                refine mixC_go rfl (by kernel_rfl) fun KK hKK => ?_
                go_simp
                refine hKK _ _ (fun h => by cases h) trivial ?_
                clear hKK KK f1 f2 f3 k1 k2 k3 k4 k5 k6 HSD
                obtain ⟨V1, hV1⟩ : ∃ V1, V1 = ((V.setCell ⟨q2, j * 3, none⟩ (.int .i32 (z0 : Int))).setCell ⟨q2, j * 3 + 1, none⟩ (.int .i32 (z1 : Int))).setCell ⟨q2, j * 3 + 2, none⟩ (.int .i64 (z2 : Int)) := ⟨_, rfl⟩
                rw [← hV1]
                have HO3 := hid (show V1.ownsRow M 86 3 (.slice (some ⟨q2, 0, none⟩) (sl + 1) c2) (sl + 1) (rks ((bub (z0, z1, z2) S (j + 1)).set j (z0, z1, z2))) by rw [hV1]; exact row_set3 HO2.out j (z0, z1, z2))
                have HX1 := hid (show V1.heap[X]? = some (.cells #[.int .i32 (z0 : Int), .int .i32 (z1 : Int)] 84 (0, 0)) by rw [hV1]; exact (set3_far V q2 _ _ _ _ _ _ X (fun e => hqX e.symm)).trans HXD.out)
                have HB1 := hid (show Below M w V1 by rw [hV1]; exact ((HBD.out.setCell (p := ⟨q2, j * 3, none⟩) hMq _).setCell (p := ⟨q2, j * 3 + 1, none⟩) hMq _).setCell (p := ⟨q2, j * 3 + 2, none⟩) hMq _)
                have HSD1 := hid (row_cells3 HO3.out (j + 1) (by omega) (z0, z1, z2) (by rw [List.getElem?_set_ne (by omega)]; exact bub_at (z0, z1, z2) S (j + 1) (by have h5 := HSL.out; omega)))
                clear hV1 HO2 HXD HBD
                obtain ⟨k1, k2, k3⟩ := HSD1.out
                dsimp only at k1 k2 k3
                have f1 : V1.frozen? ⟨q2, (j + 1) * 3, none⟩ = false := HO3.out.frozenAt ((j + 1) * 3)
                have f2 : V1.frozen? ⟨q2, (j + 1) * 3 + 1, none⟩ = false := HO3.out.frozenAt ((j + 1) * 3 + 1)
                have f3 : V1.frozen? ⟨q2, (j + 1) * 3 + 2, none⟩ = false := HO3.out.frozenAt ((j + 1) * 3 + 2)
                refine mixC_t ?_ rfl (by kernel_rfl) (fun w' hS => ?_) ?_; (rotate_left; (go_simp; with_reducible rfl); rotate_left)
                refine mixC_go rfl (by kernel_rfl) fun KK hKK => ?_
                go_simp
                refine hKK _ _ (fun h => by cases h) trivial ?_
                clear hKK KK f1 f2 f3 k1 k2 k3 HSD1
                refine mixC_end (NoPanic.normal ?_)
                obtain ⟨V2, hV2⟩ : ∃ V2, V2 = ((V1.setCell ⟨q2, (j + 1) * 3, none⟩ (.int .i32 (y0 : Int))).setCell ⟨q2, (j + 1) * 3 + 1, none⟩ (.int .i32 (y1 : Int))).setCell ⟨q2, (j + 1) * 3 + 2, none⟩ (.int .i64 (y2 : Int)) := ⟨_, rfl⟩
                rw [← hV2]
                have HO5 := hid (show V2.ownsRow M 86 3 (.slice (some ⟨q2, 0, none⟩) (sl + 1) c2) (sl + 1) (rks (bub (z0, z1, z2) S j)) by rw [hV2, ← HSW.out]; exact row_set3 HO3.out (j + 1) (y0, y1, y2))
                have HX5 := hid (show V2.heap[X]? = some (.cells #[.int .i32 (z0 : Int), .int .i32 (z1 : Int)] 84 (0, 0)) by rw [hV2]; exact (set3_far V1 q2 _ _ _ _ _ _ X (fun e => hqX e.symm)).trans HX1.out)
                have HB5 := hid (show Below M w V2 by rw [hV2]; exact ((HB1.out.setCell (p := ⟨q2, (j + 1) * 3, none⟩) hMq _).setCell (p := ⟨q2, (j + 1) * 3 + 1, none⟩) hMq _).setCell (p := ⟨q2, (j + 1) * 3 + 2, none⟩) hMq _)
                clear hV2 HO3 HX1 HB1
                go_wp2
                go_roundw
                case rel => exact ⟨j, by omega, by go_num, HO5, HG2, HX5, HB5⟩
                case measure => simp [intOf]
              · have hgt' : ¬ (z0 : Int) < (y0 : Int) := by omega
                have hgt2 : (y0 : Int) ≤ (z0 : Int) := by omega
                have HLE2 := hid (show ing (z0, z1, z2) S = bub (z0, z1, z2) S (j + 1) from ing_at (z0, z1, z2) S (j + 1) (fun x hx => Nat.le_trans (HTK.out x hx) (by show y0 ≤ z0; omega)) HGT.out)
                have HO5 := hid (show wq.ownsRow M 86 3 (.slice (some ⟨q2, 0, none⟩) (rgS A z2 (i + 1)).length c2) (rgS A z2 (i + 1)).length (rks (rgS A z2 (i + 1))) by
                  rw [HST.out, HLE2.out, bub_len (z0, z1, z2) S (j + 1) (by have h5 := HSL.out; omega), ← HSL.out]
                  exact HOq.out)
                have HL5 := hid (show (rgS A z2 (i + 1)).length = sl + 1 by rw [HST.out, HLE2.out, bub_len (z0, z1, z2) S (j + 1) (by have h5 := HSL.out; omega), ← HSL.out])
                have HB5 := hid (show Below M w wq.drew from HBq.out.drew)
                clear HGT HLE2 HOq HBq
                go_wp2_with fail
                go_region
                all_goals
                  go_wp2
                  go_roundw
                  case rel => exact ⟨i + 1, some ⟨q2, 0, none⟩, c2, by omega, by go_num, by rw [HL5.out], HO5.out.drew, HB5⟩
                  case measure => simp [intOf]; omega
        · have j3 : ¬ (i : Int) < (m : Int) := by omega
          have him2 : i = m := by omega
          subst him2
          rw [HNX.out] at HO
          go_wp2
          go_roundw
          case rel => exact ⟨c + 1, by omega, by omega, by go_num, by rw [HNX.out]; exact HO, HBr⟩
          case measure => simp [intOf]; omega
    · have i3 : ¬ (c : Int) < (n : Int) := by omega
      have hcn2 : c = n := by omega
      subst hcn2
      rw [HEN.out] at HO
      go_wp2
      go_ret
      exact ⟨_, rfl, HO.out, HBr.out⟩
end Go.Proofs.YtohhokjlgihbgaaGreatDoor
