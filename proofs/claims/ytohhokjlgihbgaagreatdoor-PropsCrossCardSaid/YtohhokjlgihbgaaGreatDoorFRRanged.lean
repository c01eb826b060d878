/- The contract of the document's Ranged. -/
import Derived.Test.YtohhokjlgihbgaaGreatDoorFRNew
import Derived.Test.YtohhokjlgihbgaaGreatDoorFEvMath
import Derived.Test.YtohhokjlgihbgaaGreatDoorFNot
import Derived.Test.YtohhokjlgihbgaaGreatDoorFROr
namespace Go.Proofs.YtohhokjlgihbgaaGreatDoor
open Go.RowKit

theorem rks_set3 : ∀ (L : List Tr) (i : Nat) (z : Tr), (((rks L).set (i * 3) (.int .i32 (z.1 : Int))).set (i * 3 + 1) (.int .i32 (z.2.1 : Int))).set (i * 3 + 2) (.int .i64 (z.2.2 : Int)) = rks (L.set i z)
  | [], i, z => by simp [rks]
  | h :: R, 0, z => rfl
  | h :: R, i + 1, z => by
    have ih := rks_set3 R i z
    have e : rks (h :: R) = .int .i32 (h.1 : Int) :: .int .i32 (h.2.1 : Int) :: .int .i64 (h.2.2 : Int) :: rks R := rfl
    have e2 : rks ((h :: R).set (i + 1) z) = .int .i32 (h.1 : Int) :: .int .i32 (h.2.1 : Int) :: .int .i64 (h.2.2 : Int) :: rks (R.set i z) := rfl
    rw [e, e2, show (i + 1) * 3 = i * 3 + 3 by omega, ← ih]
    rfl
/-- A range stored into its place. -/
theorem row_set3 {w : World} {B g n cap : Nat} {L : List Tr} (h : w.ownsRow B 86 3 (.slice (some ⟨g, 0, none⟩) n cap) n (rks L)) (i : Nat) (z : Tr) :
    (((w.setCell ⟨g, i * 3, none⟩ (.int .i32 (z.1 : Int))).setCell ⟨g, i * 3 + 1, none⟩ (.int .i32 (z.2.1 : Int))).setCell ⟨g, i * 3 + 2, none⟩ (.int .i64 (z.2.2 : Int))).ownsRow B 86 3 (.slice (some ⟨g, 0, none⟩) n cap) n (rks (L.set i z)) := by
  rw [← rks_set3]
  exact (((h.stored (i * 3) _).1.stored (i * 3 + 1) _).1.stored (i * 3 + 2) _).1
theorem row_cells3 {w : World} {B g n cap : Nat} {L : List Tr} (h : w.ownsRow B 86 3 (.slice (some ⟨g, 0, none⟩) n cap) n (rks L)) (i : Nat) (hi : i < n) (z : Tr) (hz : L[i]? = some z) :
    w.cell? ⟨g, i * 3, none⟩ = some (.int .i32 (z.1 : Int)) ∧ w.cell? ⟨g, i * 3 + 1, none⟩ = some (.int .i32 (z.2.1 : Int)) ∧ w.cell? ⟨g, i * 3 + 2, none⟩ = some (.int .i64 (z.2.2 : Int)) := by
  have h5 : ∀ (L : List Tr) (i : Nat) (c : Nat) (v : Value), L[i]? = some z → (rkc (rkT z))[c]? = some v → (rks L)[i * 3 + c]? = some v := by
    intro L
    induction L with
    | nil => intro i c v h1 _; cases h1
    | cons x R ih =>
      intro i c v h1 h2
      have e : rks (x :: R) = rkc (rkT x) ++ rks R := rfl
      have hl : (rkc (rkT x)).length = 3 := rfl
      cases i with
      | zero =>
        cases h1
        have hc : c < 3 := (List.getElem?_eq_some_iff.1 h2).1
        rw [e, Nat.zero_mul, Nat.zero_add, List.getElem?_append_left (by omega)]
        exact h2
      | succ i =>
        rw [e, List.getElem?_append_right (by omega), hl, show (i + 1) * 3 + c - 3 = i * 3 + c by omega]
        exact ih i c v h1 h2
  refine ⟨?_, ?_, ?_⟩
  · rw [h.cellAt (i * 3) (by omega)]; exact h5 L i 0 _ hz rfl
  · rw [h.cellAt (i * 3 + 1) (by omega)]; exact h5 L i 1 _ hz rfl
  · rw [h.cellAt (i * 3 + 2) (by omega)]; exact h5 L i 2 _ hz rfl
theorem news_kH (w : World) (g : Rk) (T : TypeId) (H : Nat) (hH : w.heap.size = H) : ∀ j u, (rkc g)[j]? = some u → (w.alloc (.cells #[.int .i32 g.1, .int .i32 g.2.1, .int .i64 g.2.2] T)).cell? ((⟨H, 0, none⟩ : Addr).add j) = some u := by
  subst hH
  exact news_k w g T
theorem cell_same (W w : World) (q j : Nat) (e : W.heap[q]? = w.heap[q]?) : W.cell? ⟨q, j, none⟩ = w.cell? ⟨q, j, none⟩ := by
  unfold World.cell?
  simp only [e]
theorem set3_far (w : World) (q a b c : Nat) (u v x : Value) (y : Nat) (h : y ≠ q) : (((w.setCell ⟨q, a, none⟩ u).setCell ⟨q, b, none⟩ v).setCell ⟨q, c, none⟩ x).heap[y]? = w.heap[y]? :=
  (Below.heap_setCell _ ⟨q, c, none⟩ x y h).trans ((Below.heap_setCell _ ⟨q, b, none⟩ v y h).trans (Below.heap_setCell w ⟨q, a, none⟩ u y h))
theorem cov_below {w w' : World} {B : Nat} (h : Below B w w') (p : Addr) (hp : B ≤ p.block) (v : Value) : Below B w (w'.setCell p v) := h.setCell (p := p) hp v
set_option maxRecDepth 100000 in
set_option maxHeartbeats 8000000 in
theorem rranged_any (B Q n : Nat) (U : List (List UInt8)) (A : List Tr) (nv sv : Value) (vs : List Value) (w : World) (h : DocAt B Q U (dst n A) nv sv vs w) (hC : Cov 0 A 1114112) (hc : ∀ g ∈ A, g.2.2 < n) (hn1 : 1 ≤ n) (hn : n ≤ 1000) (hl : A.length ≤ 1000000) :
    Calls Tryz.prog 42 #[.pointer (some ⟨Q, 0, none⟩)] w fun e w' => ∃ v', e = .returned v' ∧ w'.ownsRow w.heap.size 86 3 v' (rgd A).length (rks (rgd A)) ∧ Below w.heap.size w w' := by
  obtain ⟨i0, hi86, hz0, hz1, hz2⟩ := info_parts Tryz.info86
  have HSR := hid (cov_srt A 0 _ hC)
  have HEN := hid (rgS_end A n hc)
  have HLN := hid (rgS_len A)
  obtain ⟨so, sc, rfl, hrd⟩ := h.rd
  have HRD := hid hrd
  have c1 := h.c1
  have hQ := lt_of_heap h.hQ
  rw [dst_len] at c1
  obtain ⟨M, hM⟩ : ∃ M, M = w.heap.size := ⟨_, rfl⟩
  have HM := hid hM
  rw [← hM]
  clear h hrd hC hc hM
  go_enter Tryz.func42, Tryz.ntmps42
  go_wp2
  go_loopw [3, 4, 5, 6, 7] (fun l x _ _ _ wr => ∃ c : Nat, 1 ≤ c ∧ c ≤ n ∧ x = .int .i64 (c : Int) ∧ Hid (wr.ownsRow M 86 3 l (rgS A c 0).length (rks (rgS A c 0))) ∧ Hid (Below M w wr)) (fun _ x _ _ _ _ => n - (intOf x).toNat)
  case atStart => exact ⟨1, by omega, by omega, rfl, by rw [rgS_start]; exact World.ownsRow_nil _ _ _ _, by rw [HM.out]; exact Below.refl _ _⟩
  case round =>
    obtain ⟨c, hc1, hcn, rfl, HO, HBr⟩ := hrel
    have d1 := (HBr.out.cell (p := ⟨Q, 1, none⟩) (by have h5 := HM.out; show Q < M; omega)).trans c1
    by_cases hlt : c < n
    · have i3 : (c : Int) < (n : Int) := by omega
      have ic0 : (0 : Int) ≤ (c : Int) := by omega
      obtain ⟨a, rfl, ha, ao, ac, a0, hra, _⟩ := HRD.out c (stc (c : Int) A) (dst_at n A c hlt)
      have HCL := hid (cel_stc A c)
      have hcl : (stc (c : Int) A).length = (cel A c).length := by rw [HCL.out, List.length_map]
      rw [hcl] at a0
      have HRA := hid hra
      have HNX := hid (rgS_next A c (cel A c).length (by omega) (Nat.le_refl _))
      obtain ⟨m, hm⟩ : ∃ m, m = (cel A c).length := ⟨_, rfl⟩
      have HMB := hid (show m ≤ 1000000 by rw [hm]; have h5 : (cel A c).length ≤ A.length := List.length_filter_le _ _; omega)
      have HMC := hid hm
      rw [← hm] at a0 HNX
      clear hra hcl hm
      go_wp2
      go_loopw [3, 5, 6, 7] (fun l x _ _ wr => ∃ (i : Nat) (lo : Option Addr) (lc : Nat), i ≤ m ∧ x = .int .i64 (i : Int) ∧ l = .slice lo (rgS A c i).length lc ∧ Hid (wr.ownsRow M 86 3 (.slice lo (rgS A c i).length lc) (rgS A c i).length (rks (rgS A c i))) ∧ Hid (Below M w wr)) (fun _ x _ _ _ => m - (intOf x).toNat)
      case atStart =>
        obtain ⟨lo, lc, e⟩ := own_form HO.out
        subst e
        exact ⟨0, lo, lc, by omega, rfl, rfl, HO, HBr⟩
      case round =>
        clear HO HBr d1
        obtain ⟨i, lo, lc, him, rfl, rfl, HO, HBr⟩ := hrel
        have hwr : M ≤ wr.heap.size := by have h5 := HBr.out.size; have h6 := HM.out; omega
        have d1 := (HBr.out.cell (p := ⟨Q, 1, none⟩) (by have h5 := HM.out; show Q < M; omega)).trans c1
        have a1 := (HBr.out.cell (p := a.add c) (by have h5 := HM.out; rw [add_blk]; show a.block < M; omega)).trans a0
        by_cases hil : i < m
        · have hiC : i < (cel A c).length := by have h5 := HMC.out; omega
          have j3 : (i : Int) < (m : Int) := by omega
          have j0 : (0 : Int) ≤ (i : Int) := by omega
          have HST := hid (rgS_step A HSR.out c i hiC)
          have hgm := List.mem_filter.1 (show (cel A c)[i] ∈ A.filter (fun g => decide (g.2.2 = c)) from List.getElem_mem hiC)
          have hgc : (cel A c)[i].2.2 = c := by simpa using hgm.2
          have HSS := hid (rgS_sub A HSR.out c i)
          have hsl := HLN.out c i
          have hel : (stc (c : Int) A)[i]? = some (((cel A c)[i].1 : Int), ((cel A c)[i].2.1 : Int)) := by rw [HCL.out, List.getElem?_map, List.getElem?_eq_getElem hiC]; rfl
          obtain ⟨g, hg⟩ : ∃ g, g = (cel A c)[i] := ⟨_, rfl⟩
          rw [← hg] at HST hgc hel
          obtain ⟨z0, z1, z2⟩ := g
          dsimp only at hgc hel
          subst hgc
          obtain ⟨S, hS⟩ : ∃ S, S = rgS A z2 i := ⟨_, rfl⟩
          have HSE := hid hS
          rw [← hS] at HO HST HSS hsl ⊢
          obtain ⟨b, hbe, hbb, b0, b1⟩ := (HRA.out.below (show Below w.heap.size w wr by rw [← HM.out]; exact HBr.out)) i _ hel
          subst hbe
          dsimp only at b0 b1
          clear hg hgm hel hS hiC
          obtain ⟨sl, hsle⟩ : ∃ sl, sl = S.length := ⟨_, rfl⟩
          have HSL := hid hsle
          rw [← hsle] at HO hsl ⊢
          clear hsle
          have HWA := hid (show Below M w (wr.alloc (.cells #[.int .i32 (z0 : Int), .int .i32 (z1 : Int)] 84)) from HBr.out.alloc hwr _)
          go_wp2_with (at_builtin; refine wpList_append_lies _ rfl _ _ 64 rfl M 86 i0 (.agg #[.int .i32 0, .int .i32 0, .int .i64 0]) 3 16 Tryz.underlying64 hi86 hz0 hz1 hz2 rfl (by decide) _ sl (rks S) rfl ((HO.out.alloc _).alloc _) ⟨wr.heap.size + 1, 0, none⟩ 1 1 (rkc ((z0 : Int), (z1 : Int), (z2 : Int))) rfl rfl (news_kH _ ((z0 : Int), (z1 : Int), (z2 : Int)) 86 (wr.heap.size + 1) (by simp)) (rkc_one _) (by decide) (by unfold maxLen; omega) (by omega) (by simp; omega) (wr.heap.size + 2) (by simp) ?_; intro q2 c2 w4 o4 gr4 hl4 hlt4)
          --MARK
          have hmb : m ≤ 1000000 := HMB.out
          obtain ⟨X, hX⟩ : ∃ X, X = wr.heap.size := ⟨_, rfl⟩
          have hbx : w4.heap[X]? = some (.cells #[.int .i32 (z0 : Int), .int .i32 (z1 : Int)] 84 (0, 0)) := by
            have e1 := gr4.block X (by rw [World.size_alloc, World.size_alloc]; omega) (fun e => by have h5 := (HO.out.lt X e.symm).2; omega)
            rw [e1, heap_alloc_old _ _ X (by rw [World.size_alloc]; omega), hX, heap_alloc_new]
          have HBX := hid hbx
          have HO4 := hid (show w4.ownsRow M 86 3 (.slice (some ⟨q2, 0, none⟩) (sl + 1) c2) (sl + 1) (rks (bub (z0, z1, z2) S sl)) by
            rw [HSL.out, bub_end, rks_snoc, ← HSL.out]; exact o4)
          have HB4 := hid (show Below M w w4 from ((HWA.out.alloc (by rw [World.size_alloc]; omega) _).grown gr4 (by rw [World.size_alloc, World.size_alloc]; omega) (fun k hk => (HO.out.lt k hk).1)))
          have hqX : q2 ≠ X := fun e => row_other o4 X _ 84 hbx (by decide) (by rw [← e]; rfl)
          have hMX : M ≤ X := by omega
          have hMq : M ≤ q2 := (o4.lt q2 rfl).1
          rw [← hX]
          have e0 : IntKind.i64.wrap ((sl : Int) + 1 - 1) = (sl : Int) := by rw [IntKind.wrap_i64]; omega
          have HSN := hid (show S.drop sl = [] from List.drop_of_length_le (by have h5 := HSL.out; omega))
          clear hbx o4 gr4 hl4 hlt4 b0 b1 a1 d1 HO HBr HWA hX
          go_loopw [7] (fun x wq => ∃ k : Nat, k ≤ sl ∧ x = .int .i64 (k : Int) ∧ Hid (wq.ownsRow M 86 3 (.slice (some ⟨q2, 0, none⟩) (sl + 1) c2) (sl + 1) (rks (bub (z0, z1, z2) S k))) ∧ Hid (∀ y ∈ S.drop k, z0 < y.1) ∧ Hid (wq.heap[X]? = some (.cells #[.int .i32 (z0 : Int), .int .i32 (z1 : Int)] 84 (0, 0))) ∧ Hid (Below M w wq)) (fun x _ => (intOf x).toNat)
          case atStart => exact ⟨sl, by omega, by go_num, HO4, by rw [HSN.out]; exact fun y hy => (by cases hy), HBX, HB4⟩
          case round =>
            clear HO4 HB4 HBX e0 HSN
            obtain ⟨k, hk, rfl, HOq, HGT, HXq, HBq⟩ := hrel
            obtain ⟨wq, hwq⟩ : ∃ wq, wq = wr := ⟨_, rfl⟩
            rw [← hwq] at HOq HXq HBq ⊢
            clear hwq
            cases k with
            | zero =>
              have HLE2 := hid (show ing (z0, z1, z2) S = bub (z0, z1, z2) S 0 from ing_at (z0, z1, z2) S 0 (fun x hx => by rw [List.take_zero] at hx; cases hx) HGT.out)
              have HO5 := hid (show wq.ownsRow M 86 3 (.slice (some ⟨q2, 0, none⟩) (rgS A z2 (i + 1)).length c2) (rgS A z2 (i + 1)).length (rks (rgS A z2 (i + 1))) by
                rw [HST.out, HLE2.out, bub_len (z0, z1, z2) S 0 (by have h5 := HSL.out; omega), ← HSL.out]
                exact HOq.out)
              have HL5 := hid (show (rgS A z2 (i + 1)).length = sl + 1 by rw [HST.out, HLE2.out, bub_len (z0, z1, z2) S 0 (by have h5 := HSL.out; omega), ← HSL.out])
              have HB5 := hid (show Below M w wq.drew from HBq.out.drew)
              clear HGT HLE2 HOq HBq
              go_wp2_with fail
              go_region
              all_goals
                go_wp2
                go_roundw
                case rel => exact ⟨i + 1, some ⟨q2, 0, none⟩, c2, by omega, by go_num, by rw [HL5.out], HO5.out.drew, HB5⟩
                case measure => simp [intOf]; omega
            | succ j =>
              have hjS : j < S.length := by have h5 := HSL.out; omega
              have bx : wq.cell? ⟨X, 0, none⟩ = some (.int .i32 (z0 : Int)) := cell_row wq X 0 [_, _] 84 _ HXq.out rfl
              obtain ⟨r0, r1, r2⟩ := row_cells3 HOq.out j (by omega) S[j] (bub_pre (z0, z1, z2) S j hjS)
              obtain ⟨t0, t1, t2⟩ := row_cells3 HOq.out (j + 1) (by omega) (z0, z1, z2) (bub_at (z0, z1, z2) S (j + 1) (by omega))
              dsimp only at t0 t1 t2
              have e1 : IntKind.i64.wrap ((j : Int) + 1 - 1) = (j : Int) := by rw [IntKind.wrap_i64]; omega
              have e2 : IntKind.i64.wrap (j : Int) = (j : Int) := by rw [IntKind.wrap_i64]; omega
              have e3 : (0 : Int) < (j : Int) + 1 := by omega
              have e4 : (j : Int) < (sl : Int) + 1 := by omega
              have e5 : (0 : Int) ≤ (j : Int) := by omega
              have e6 : (j : Int) + 1 < (sl : Int) + 1 := by omega
              have e7 : (0 : Int) ≤ (j : Int) + 1 := by omega
              have HSW := hid (bub_swap (z0, z1, z2) S j hjS)
              have HDR := hid (List.drop_eq_getElem_cons hjS)
              have HTK := hid (show ∀ x ∈ S.take (j + 1), x.1 ≤ S[j].1 from fun x hx => by
                obtain ⟨p, hp⟩ := List.mem_iff_getElem?.1 hx
                rw [List.getElem?_take] at hp
                split at hp
                · rename_i hpj
                  obtain ⟨h6, h7⟩ := List.getElem?_eq_some_iff.1 hp
                  rcases Nat.lt_or_ge p j with h8 | h8
                  · have h9 := List.pairwise_iff_getElem.1 HSS.out p j h6 hjS h8
                    rw [h7] at h9; omega
                  · have h9 : p = j := by omega
                    subst h9
                    rw [← h7]; exact Nat.le_refl _
                · cases hp)
              obtain ⟨y, hy⟩ : ∃ y, y = S[j] := ⟨_, rfl⟩
              rw [← hy] at r0 r1 r2 HSW HDR HTK
              obtain ⟨y0, y1, y2⟩ := y
              dsimp only at r0 r1 r2 HTK
              clear hjS hy
              by_cases hgt : z0 < y0
              · have hgt' : (z0 : Int) < (y0 : Int) := by omega
                have HG2 := hid (show ∀ y ∈ S.drop j, z0 < y.1 from fun y hy => by
                  rw [HDR.out] at hy
                  rcases List.mem_cons.1 hy with rfl | hy
                  · exact hgt
                  · exact HGT.out y hy)
                have HSC := hid (show ∀ W : World, W.heap[q2]? = wq.heap[q2]? → W.cell? ⟨q2, j * 3, none⟩ = some (.int .i32 (y0 : Int)) ∧ W.cell? ⟨q2, j * 3 + 1, none⟩ = some (.int .i32 (y1 : Int)) ∧ W.cell? ⟨q2, j * 3 + 2, none⟩ = some (.int .i64 (y2 : Int)) ∧ W.cell? ⟨q2, (j + 1) * 3, none⟩ = some (.int .i32 (z0 : Int)) ∧ W.cell? ⟨q2, (j + 1) * 3 + 1, none⟩ = some (.int .i32 (z1 : Int)) ∧ W.cell? ⟨q2, (j + 1) * 3 + 2, none⟩ = some (.int .i64 (z2 : Int)) from fun W e => by
                  refine ⟨?_, ?_, ?_, ?_, ?_, ?_⟩ <;> (rw [cell_same W wq q2 _ e]; assumption))
                have HRN := hid (row_set3 (row_set3 HOq.out.drew j (z0, z1, z2)) (j + 1) (y0, y1, y2))
                dsimp only at HRN
                rw [HSW.out] at HRN
                have HO2 := hid (show wq.drew.drew.ownsRow M 86 3 (.slice (some ⟨q2, 0, none⟩) (sl + 1) c2) (sl + 1) (rks (bub (z0, z1, z2) S (j + 1))) from HOq.out.drew.drew)
                have HBD := hid (show Below M w wq.drew.drew from HBq.out.drew.drew)
                have HXD := hid (show wq.drew.drew.heap[X]? = some (.cells #[.int .i32 (z0 : Int), .int .i32 (z1 : Int)] 84 (0, 0)) from HXq.out)
                have HSD := hid (HSC.out wq.drew.drew rfl)
                clear HRN
                go_wp2_with fail
                go_region
                clear r0 r1 r2 t0 t1 t2 bx HTK
                go_wp2
                obtain ⟨V, hV⟩ : ∃ V, V = wq.drew.drew := ⟨_, rfl⟩
                refine wp_region_mixC [(0, 1), (1, 1), (2, 1), (3, 1), (4, 1), (5, 1), (6, 1), (7, 1), (8, 0), (9, 1), (10, 1), (11, 1), (12, 1), (13, 0), (14, 1), (15, 2), (16, 1), (17, 2)] (fun W => W.cell? ⟨q2, j * 3, none⟩ = some (.int .i32 (y0 : Int)) ∧ W.cell? ⟨q2, j * 3 + 1, none⟩ = some (.int .i32 (y1 : Int)) ∧ W.cell? ⟨q2, j * 3 + 2, none⟩ = some (.int .i64 (y2 : Int)) ∧ W.cell? ⟨q2, (j + 1) * 3, none⟩ = some (.int .i32 (z0 : Int)) ∧ W.cell? ⟨q2, (j + 1) * 3 + 1, none⟩ = some (.int .i32 (z1 : Int)) ∧ W.cell? ⟨q2, (j + 1) * 3 + 2, none⟩ = some (.int .i64 (z2 : Int))) (fun _ => True) (fun j => j == 15 || j == 17) (by kernel_rfl) (by kernel_rfl) (fun j hj => by simp at hj; rcases hj with rfl | rfl <;> decide) rfl (by kernel_rfl) HSD.out trivial ?_
                rw [← hV] at HO2 HBD HXD HSD ⊢
                clear hV
                iterate 15 ((first | refine mixC_s ?_ rfl (by kernel_rfl) (fun w' hS => ?_) ?_ | refine mixC_t ?_ rfl (by kernel_rfl) (fun w' hS => ?_) ?_); (rotate_left; ((first | obtain ⟨s1, s2, s3, s4, s5, s6⟩ := hS | clear hS); go_simp; with_reducible rfl); rotate_left))
                obtain ⟨k1, k2, k3, k4, k5, k6⟩ := HSD.out
                have f1 : V.frozen? ⟨q2, j * 3, none⟩ = false := HO2.out.frozenAt (j * 3)
                have f2 : V.frozen? ⟨q2, j * 3 + 1, none⟩ = false := HO2.out.frozenAt (j * 3 + 1)
                have f3 : V.frozen? ⟨q2, j * 3 + 2, none⟩ = false := HO2.out.frozenAt (j * 3 + 2)
                refine mixC_go rfl (by kernel_rfl) fun KK hKK => ?_
                go_simp
                refine hKK _ _ (fun h => by cases h) trivial ?_
                clear hKK KK f1 f2 f3 k1 k2 k3 k4 k5 k6 HSD
                obtain ⟨V1, hV1⟩ : ∃ V1, V1 = ((V.setCell ⟨q2, j * 3, none⟩ (.int .i32 (z0 : Int))).setCell ⟨q2, j * 3 + 1, none⟩ (.int .i32 (z1 : Int))).setCell ⟨q2, j * 3 + 2, none⟩ (.int .i64 (z2 : Int)) := ⟨_, rfl⟩
                rw [← hV1]
                have HO3 := hid (show V1.ownsRow M 86 3 (.slice (some ⟨q2, 0, none⟩) (sl + 1) c2) (sl + 1) (rks ((bub (z0, z1, z2) S (j + 1)).set j (z0, z1, z2))) by rw [hV1]; exact row_set3 HO2.out j (z0, z1, z2))
                have HX1 := hid (show V1.heap[X]? = some (.cells #[.int .i32 (z0 : Int), .int .i32 (z1 : Int)] 84 (0, 0)) by rw [hV1]; exact (set3_far V q2 _ _ _ _ _ _ X (fun e => hqX e.symm)).trans HXD.out)
                have HB1 := hid (show Below M w V1 by rw [hV1]; exact ((HBD.out.setCell (p := ⟨q2, j * 3, none⟩) hMq _).setCell (p := ⟨q2, j * 3 + 1, none⟩) hMq _).setCell (p := ⟨q2, j * 3 + 2, none⟩) hMq _)
                have HSD1 := hid (row_cells3 HO3.out (j + 1) (by omega) (z0, z1, z2) (by rw [List.getElem?_set_ne (by omega)]; exact bub_at (z0, z1, z2) S (j + 1) (by have h5 := HSL.out; omega)))
                clear hV1 HO2 HXD HBD
                obtain ⟨k1, k2, k3⟩ := HSD1.out
                dsimp only at k1 k2 k3
                have f1 : V1.frozen? ⟨q2, (j + 1) * 3, none⟩ = false := HO3.out.frozenAt ((j + 1) * 3)
                have f2 : V1.frozen? ⟨q2, (j + 1) * 3 + 1, none⟩ = false := HO3.out.frozenAt ((j + 1) * 3 + 1)
                have f3 : V1.frozen? ⟨q2, (j + 1) * 3 + 2, none⟩ = false := HO3.out.frozenAt ((j + 1) * 3 + 2)
                refine mixC_t ?_ rfl (by kernel_rfl) (fun w' hS => ?_) ?_; (rotate_left; (go_simp; with_reducible rfl); rotate_left)
                refine mixC_go rfl (by kernel_rfl) fun KK hKK => ?_
                go_simp
                refine hKK _ _ (fun h => by cases h) trivial ?_
                clear hKK KK f1 f2 f3 k1 k2 k3 HSD1
                refine mixC_end (NoPanic.normal ?_)
                obtain ⟨V2, hV2⟩ : ∃ V2, V2 = ((V1.setCell ⟨q2, (j + 1) * 3, none⟩ (.int .i32 (y0 : Int))).setCell ⟨q2, (j + 1) * 3 + 1, none⟩ (.int .i32 (y1 : Int))).setCell ⟨q2, (j + 1) * 3 + 2, none⟩ (.int .i64 (y2 : Int)) := ⟨_, rfl⟩
                rw [← hV2]
                have HO5 := hid (show V2.ownsRow M 86 3 (.slice (some ⟨q2, 0, none⟩) (sl + 1) c2) (sl + 1) (rks (bub (z0, z1, z2) S j)) by rw [hV2, ← HSW.out]; exact row_set3 HO3.out (j + 1) (y0, y1, y2))
                have HX5 := hid (show V2.heap[X]? = some (.cells #[.int .i32 (z0 : Int), .int .i32 (z1 : Int)] 84 (0, 0)) by rw [hV2]; exact (set3_far V1 q2 _ _ _ _ _ _ X (fun e => hqX e.symm)).trans HX1.out)
                have HB5 := hid (show Below M w V2 by rw [hV2]; exact ((HB1.out.setCell (p := ⟨q2, (j + 1) * 3, none⟩) hMq _).setCell (p := ⟨q2, (j + 1) * 3 + 1, none⟩) hMq _).setCell (p := ⟨q2, (j + 1) * 3 + 2, none⟩) hMq _)
                clear hV2 HO3 HX1 HB1
                go_wp2
                go_roundw
                case rel => exact ⟨j, by omega, by go_num, HO5, HG2, HX5, HB5⟩
                case measure => simp [intOf]
              · have hgt' : ¬ (z0 : Int) < (y0 : Int) := by omega
                have hgt2 : (y0 : Int) ≤ (z0 : Int) := by omega
                have HLE2 := hid (show ing (z0, z1, z2) S = bub (z0, z1, z2) S (j + 1) from ing_at (z0, z1, z2) S (j + 1) (fun x hx => Nat.le_trans (HTK.out x hx) (by show y0 ≤ z0; omega)) HGT.out)
                have HO5 := hid (show wq.ownsRow M 86 3 (.slice (some ⟨q2, 0, none⟩) (rgS A z2 (i + 1)).length c2) (rgS A z2 (i + 1)).length (rks (rgS A z2 (i + 1))) by
                  rw [HST.out, HLE2.out, bub_len (z0, z1, z2) S (j + 1) (by have h5 := HSL.out; omega), ← HSL.out]
                  exact HOq.out)
                have HL5 := hid (show (rgS A z2 (i + 1)).length = sl + 1 by rw [HST.out, HLE2.out, bub_len (z0, z1, z2) S (j + 1) (by have h5 := HSL.out; omega), ← HSL.out])
                have HB5 := hid (show Below M w wq.drew from HBq.out.drew)
                clear HGT HLE2 HOq HBq
                go_wp2_with fail
                go_region
                all_goals
                  go_wp2
                  go_roundw
                  case rel => exact ⟨i + 1, some ⟨q2, 0, none⟩, c2, by omega, by go_num, by rw [HL5.out], HO5.out.drew, HB5⟩
                  case measure => simp [intOf]; omega
        · have j3 : ¬ (i : Int) < (m : Int) := by omega
          have him2 : i = m := by omega
          subst him2
          rw [HNX.out] at HO
          go_wp2
          go_roundw
          case rel => exact ⟨c + 1, by omega, by omega, by go_num, by rw [HNX.out]; exact HO, HBr⟩
          case measure => simp [intOf]; omega
    · have i3 : ¬ (c : Int) < (n : Int) := by omega
      have hcn2 : c = n := by omega
      subst hcn2
      rw [HEN.out] at HO
      go_wp2
      go_ret
      exact ⟨_, rfl, HO.out, HBr.out⟩
end Go.Proofs.YtohhokjlgihbgaaGreatDoor
/- The contracts of begins and sort (package kerfref04), and of the document's And. -/
namespace Go.Proofs.YtohhokjlgihbgaaGreatDoor
open Go.RowKit

def cl32 (xs : List Int) : List Value := xs.map fun x => Value.int .i32 x
theorem cl32_app (xs ys : List Int) : cl32 (xs ++ ys) = cl32 xs ++ cl32 ys := by simp [cl32]
theorem cl32_set (xs : List Int) (j : Nat) (z : Int) : (cl32 xs).set j (.int .i32 z) = cl32 (xs.set j z) := by unfold cl32; rw [List.map_set]
theorem Tryz.info21 : (Tryz.prog.info? 21).map (fun i => (i.zero, i.size, i.bytes)) = some (some (.int .i32 0), 1, 4) := by kernel_rfl
/-- Where ranges begin. -/
def bgs (l : List Rg) : List Int := l.map fun g => g.1
set_option maxRecDepth 100000 in
set_option maxHeartbeats 2000000 in
theorem begins_any (ao : Option Addr) (ac : Nat) (l : List Rg) (w : World) (ha : RdR w ao l) (hl : l.length ≤ 1000000) :
    Calls Tryz.prog 59 #[.slice ao l.length ac] w fun e w' => ∃ v, e = .returned v ∧ w'.ownsRow w.heap.size 21 1 v l.length (cl32 (bgs l)) ∧ Below w.heap.size w w' := by
  obtain ⟨i0, hi, hz0, hz1, hz2⟩ := info_parts Tryz.info21
  have HA := hid ha
  obtain ⟨n, hn⟩ : ∃ n, n = l.length := ⟨_, rfl⟩
  have HN := hid hn
  rw [← hn] at hl ⊢
  clear ha hn
  go_enter Tryz.func59, Tryz.ntmps59
  go_wp2
  go_loopw [3, 4] (fun v x wr => ∃ k : Nat, k ≤ n ∧ x = .int .i64 (k : Int) ∧ Hid (wr.ownsRow w.heap.size 21 1 v k (cl32 (bgs (l.take k)))) ∧ Hid (Below w.heap.size w wr)) (fun _ x _ => n - (intOf x).toNat)
  case atStart => exact ⟨0, by omega, rfl, World.ownsRow_nil _ _ _ _, Below.refl _ _⟩
  case round =>
    obtain ⟨k, hk, rfl, HO, HB⟩ := hrel
    have hwr := HB.out.size
    by_cases hlt : k < n
    · have hkl : k < l.length := by have h5 := HN.out; omega
      obtain ⟨a, rfl, hab, a0, a1⟩ := (HA.out.below HB.out) k l[k] (List.getElem?_eq_getElem hkl)
      have HE := hid (show cl32 (bgs (l.take (k + 1))) = cl32 (bgs (l.take k)) ++ [.int .i32 l[k].1] by
        rw [List.take_succ_eq_append_getElem hkl]
        unfold bgs cl32
        rw [List.map_append, List.map_append]
        rfl)
      obtain ⟨z, hz⟩ : ∃ z, z = l[k] := ⟨_, rfl⟩
      rw [← hz] at a0 a1 HE
      obtain ⟨z0, z1⟩ := z
      dsimp only at a0 a1 HE
      have i3 : (k : Int) < (n : Int) := by omega
      have i0' : (0 : Int) ≤ (k : Int) := by omega
      clear hz hkl
      go_wp2_with (at_builtin; refine wpList_append_own _ rfl _ _ 22 rfl w.heap.size 21 i0 (.int .i32 0) 1 4 Tryz.underlying22 hi hz0 hz1 hz2 rfl (by decide) _ k (cl32 (bgs (l.take k))) rfl (HO.out.alloc _) ⟨wr.heap.size, 0, none⟩ 1 1 [.int .i32 z0] rfl rfl (news_v wr (.int .i32 z0) 21) (vs_one _) (by unfold maxLen; omega) (by omega) (by simp; omega) ?_; intro v2 w2 o2 gr2 _; have HO2 := hid (show w2.ownsRow w.heap.size 21 1 v2 (k + 1) (cl32 (bgs (l.take (k + 1)))) by rw [HE.out]; exact o2); have HB2 := hid ((HB.out.alloc hwr (.cells #[.int .i32 z0] 21)).grown gr2 (by simp; omega) (fun j hj => (HO.out.lt j hj).1)); clear o2 gr2)
      go_roundw
      case rel => exact ⟨k + 1, by omega, by go_num, HO2, HB2⟩
      case measure => simp [intOf]; omega
    · have i3 : ¬ (k : Int) < (n : Int) := by omega
      have hkn : k = n := by omega
      subst hkn
      have HE := hid (show l.take k = l from List.take_of_length_le (by have h5 := HN.out; omega))
      rw [HE.out] at HO
      go_wp2
      go_ret
      exact ⟨_, rfl, HO.out, HB.out⟩
/-- A number laid in at a place. -/
def bi (g : Int) (S : List Int) (k : Nat) : List Int := S.take k ++ g :: S.drop k
theorem bi_len (g : Int) (S : List Int) (k : Nat) (hk : k ≤ S.length) : (bi g S k).length = S.length + 1 := by
  unfold bi
  rw [List.length_append, List.length_cons, List.length_take, List.length_drop]
  omega
theorem bi_end (g : Int) (S : List Int) : bi g S S.length = S ++ [g] := by
  unfold bi
  rw [List.take_of_length_le (Nat.le_refl _), List.drop_of_length_le (Nat.le_refl _)]
theorem bi_at (g : Int) (S R : List Int) (k : Nat) (hk : k ≤ S.length) : (bi g S k ++ R)[k]? = some g := by
  unfold bi
  rw [List.append_assoc, List.getElem?_append_right (by rw [List.length_take]; omega), List.length_take, show k - min k S.length = 0 by omega]
  rfl
theorem bi_pre (g : Int) (S R : List Int) (k : Nat) (hk : k < S.length) : (bi g S (k + 1) ++ R)[k]? = some S[k] := by
  unfold bi
  rw [List.append_assoc, List.getElem?_append_left (by rw [List.length_take]; omega), List.getElem?_take, if_pos (by omega), List.getElem?_eq_getElem hk]
theorem bi_swap (g : Int) (S R : List Int) (k : Nat) (hk : k < S.length) : ((bi g S (k + 1) ++ R).set k g).set (k + 1) S[k] = bi g S k ++ R := by
  have hl : (S.take k).length = k := by rw [List.length_take]; omega
  unfold bi
  rw [List.take_succ_eq_append_getElem hk, List.append_assoc, List.append_assoc, List.set_append_right _ _ (by omega), hl, Nat.sub_self, List.set_append_right _ _ (by omega), hl, show k + 1 - k = 1 by omega]
  simp
  rw [List.drop_eq_getElem_cons hk]
  rfl
theorem bi_sorted (g : Int) (S : List Int) (k : Nat) (hs : S.Pairwise (· ≤ ·)) (h1 : ∀ x ∈ S.take k, x ≤ g) (h2 : ∀ y ∈ S.drop k, g < y) : (bi g S k).Pairwise (· ≤ ·) := by
  unfold bi
  rw [List.pairwise_append]
  have h5 : (S.take k ++ S.drop k).Pairwise (· ≤ ·) := by rw [List.take_append_drop]; exact hs
  obtain ⟨a1, a2, a3⟩ := List.pairwise_append.1 h5
  refine ⟨a1, List.Pairwise.cons (fun y hy => Int.le_of_lt (h2 y hy)) a2, fun x hx y hy => ?_⟩
  rcases List.mem_cons.1 hy with rfl | hy
  · exact h1 x hx
  · exact a3 x hx y hy
theorem bi_perm (g : Int) (S R : List Int) (k : Nat) : (bi g S k ++ R).Perm (S ++ g :: R) := by
  unfold bi
  have h1 : (S.take k ++ g :: S.drop k).Perm (S ++ [g]) := by
    have h2 : (S.take k ++ g :: S.drop k).Perm (g :: (S.take k ++ S.drop k)) := List.perm_middle
    rw [List.take_append_drop] at h2
    exact h2.trans (List.perm_append_singleton g S).symm
  have h3 := h1.append_right R
  simpa using h3
theorem row_set1 {w : World} {B g n cap : Nat} {L : List Int} (h : w.ownsRow B 21 1 (.slice (some ⟨g, 0, none⟩) n cap) n (cl32 L)) (i : Nat) (z : Int) :
    (w.setCell ⟨g, i, none⟩ (.int .i32 z)).ownsRow B 21 1 (.slice (some ⟨g, 0, none⟩) n cap) n (cl32 (L.set i z)) := by
  rw [← cl32_set]
  exact (h.stored i _).1
theorem row_cell1 {w : World} {B g n cap : Nat} {L : List Int} (h : w.ownsRow B 21 1 (.slice (some ⟨g, 0, none⟩) n cap) n (cl32 L)) (i : Nat) (hi : i < n) (z : Int) (hz : L[i]? = some z) : w.cell? ⟨g, i, none⟩ = some (.int .i32 z) := by
  rw [h.cellAt i (by omega)]
  unfold cl32
  rw [List.getElem?_map, hz]; rfl
set_option maxRecDepth 100000 in
set_option maxHeartbeats 8000000 in
theorem rsort_any (B g n cap : Nat) (xs : List Int) (w : World) (h : w.ownsRow B 21 1 (.slice (some ⟨g, 0, none⟩) n cap) n (cl32 xs)) (hn : 1 ≤ n) (hl : n ≤ 10000000) :
    Calls Tryz.prog 60 #[.slice (some ⟨g, 0, none⟩) n cap] w fun e w' => e = .returned (.tuple #[]) ∧ ∃ ys : List Int, ys.Perm xs ∧ ys.Pairwise (· ≤ ·) ∧ w'.ownsRow B 21 1 (.slice (some ⟨g, 0, none⟩) n cap) n (cl32 ys) ∧ Below B w w' := by
  have HO0 := hid h
  have HXL := hid (show xs.length = n by have h5 := h.1; simpa [cl32] using h5)
  have hBg : B ≤ g := (h.lt g rfl).1
  clear h
  go_enter Tryz.func60, Tryz.ntmps60
  go_wp2
  go_loopw [2, 3] (fun x _ wr => ∃ (i : Nat) (ys : List Int), 1 ≤ i ∧ i ≤ n ∧ x = .int .i64 (i : Int) ∧ Hid (ys.Perm xs) ∧ Hid ((ys.take i).Pairwise (· ≤ ·)) ∧ Hid (wr.ownsRow B 21 1 (.slice (some ⟨g, 0, none⟩) n cap) n (cl32 ys)) ∧ Hid (Below B w wr)) (fun x _ _ => n - (intOf x).toNat)
  case atStart =>
    refine ⟨1, xs, by omega, hn, rfl, List.Perm.refl _, ?_, HO0, Below.refl _ _⟩
    cases xs with
    | nil => exact List.Pairwise.nil
    | cons y R => simp [Hid]
  case round =>
    obtain ⟨i, ys, hi1, hin, rfl, HPM, HSR, HO, HB⟩ := hrel
    by_cases hlt : i < n
    · have i3 : (i : Int) < (n : Int) := by omega
      have hyl : ys.length = n := by rw [HPM.out.length_eq]; exact HXL.out
      have hiy : i < ys.length := by omega
      obtain ⟨S, hS⟩ : ∃ S, S = ys.take i := ⟨_, rfl⟩
      obtain ⟨R, hR⟩ : ∃ R, R = ys.drop (i + 1) := ⟨_, rfl⟩
      obtain ⟨z, hz⟩ : ∃ z, z = ys[i] := ⟨_, rfl⟩
      have HSL := hid (show S.length = i by rw [hS, List.length_take]; omega)
      have HYS := hid (show ys = S ++ z :: R by rw [hS, hR, hz, List.getElem_cons_drop hiy, List.take_append_drop])
      have HSS := hid (show S.Pairwise (· ≤ ·) by rw [hS]; exact HSR.out)
      have HO4 := hid (show wr.ownsRow B 21 1 (.slice (some ⟨g, 0, none⟩) n cap) n (cl32 (bi z S i ++ R)) by
        have e : bi z S i = S ++ [z] := by rw [← HSL.out]; exact bi_end z S
        rw [e]
        have e2 : S ++ [z] ++ R = ys := by rw [HYS.out]; simp
        rw [e2]; exact HO.out)
      have HSN := hid (show S.drop i = [] from List.drop_of_length_le (by rw [HSL.out]; exact Nat.le_refl _))
      have HB4 := hid HB.out
      clear hS hR hz hiy hyl HO HB
      go_wp2
      go_loopw [3] (fun x wq => ∃ k : Nat, k ≤ i ∧ x = .int .i64 (k : Int) ∧ Hid (wq.ownsRow B 21 1 (.slice (some ⟨g, 0, none⟩) n cap) n (cl32 (bi z S k ++ R))) ∧ Hid (∀ y ∈ S.drop k, z < y) ∧ Hid (Below B w wq)) (fun x _ => (intOf x).toNat)
      case atStart => exact ⟨i, by omega, rfl, HO4, by rw [HSN.out]; exact fun y hy => (by cases hy), HB4⟩
      case round =>
        clear HO4 HB4 HSN
        obtain ⟨k, hk, rfl, HOq, HGT, HBq⟩ := hrel
        obtain ⟨wq, hwq⟩ : ∃ wq, wq = wr := ⟨_, rfl⟩
        rw [← hwq] at HOq HBq ⊢
        clear hwq
        have HEND := hid (show ∀ (kk : Nat), kk ≤ i → (∀ x ∈ S.take kk, x ≤ z) → (∀ y ∈ S.drop kk, z < y) → ((bi z S kk ++ R).Perm xs ∧ ((bi z S kk ++ R).take (i + 1)).Pairwise (· ≤ ·)) from fun kk hkk q1 q2 => by
          refine ⟨(bi_perm z S R kk).trans (by rw [← HYS.out]; exact HPM.out), ?_⟩
          have hbl : (bi z S kk).length = i + 1 := by rw [bi_len z S kk (by rw [HSL.out]; exact hkk), HSL.out]
          rw [List.take_append_of_le_length (by omega), List.take_of_length_le (by omega)]
          exact bi_sorted z S kk HSS.out q1 q2)
        cases k with
        | zero =>
          obtain ⟨p1, p2⟩ := HEND.out 0 (by omega) (fun x hx => by rw [List.take_zero] at hx; cases hx) HGT.out
          have HP1 := hid p1
          have HP2 := hid p2
          have HO5 := hid (show wq.drew.ownsRow B 21 1 (.slice (some ⟨g, 0, none⟩) n cap) n (cl32 (bi z S 0 ++ R)) from HOq.out.drew)
          have HB5 := hid (show Below B w wq.drew from HBq.out.drew)
          clear HGT HOq HBq HEND p1 p2 HYS HPM HSR
          go_wp2_with fail
          go_region
          all_goals
            go_wp2
            go_roundw
            case rel => exact ⟨i + 1, bi z S 0 ++ R, by omega, by omega, by go_num, HP1, HP2, HO5, HB5⟩
            case measure => simp [intOf]; omega
        | succ j =>
          have hjS : j < S.length := by have h5 := HSL.out; omega
          have r0 := row_cell1 HOq.out j (by omega) S[j] (bi_pre z S R j hjS)
          have t0 := row_cell1 HOq.out (j + 1) (by omega) z (bi_at z S R (j + 1) (by omega))
          have e1 : IntKind.i64.wrap ((j : Int) + 1 - 1) = (j : Int) := by rw [IntKind.wrap_i64]; omega
          have e2 : IntKind.i64.wrap (j : Int) = (j : Int) := by rw [IntKind.wrap_i64]; omega
          have e3 : (0 : Int) < (j : Int) + 1 := by omega
          have e4 : (j : Int) < (n : Int) := by omega
          have e5 : (0 : Int) ≤ (j : Int) := by omega
          have e6 : (j : Int) + 1 < (n : Int) := by omega
          have e7 : (0 : Int) ≤ (j : Int) + 1 := by omega
          have HSW := hid (bi_swap z S R j hjS)
          have HDR := hid (List.drop_eq_getElem_cons hjS)
          have HTK := hid (show ∀ x ∈ S.take (j + 1), x ≤ S[j] from fun x hx => by
            obtain ⟨p, hp⟩ := List.mem_iff_getElem?.1 hx
            rw [List.getElem?_take] at hp
            split at hp
            · rename_i hpj
              obtain ⟨h6, h7⟩ := List.getElem?_eq_some_iff.1 hp
              rcases Nat.lt_or_ge p j with h8 | h8
              · have h9 := List.pairwise_iff_getElem.1 HSS.out p j h6 hjS h8
                rw [h7] at h9; exact h9
              · have h9 : p = j := by omega
                subst h9
                rw [← h7]; exact Int.le_refl _
            · cases hp)
          obtain ⟨y, hy⟩ : ∃ y, y = S[j] := ⟨_, rfl⟩
          rw [← hy] at r0 HSW HDR HTK
          clear hjS hy
          by_cases hgt : z < y
          · have HG2 := hid (show ∀ y ∈ S.drop j, z < y from fun y hy => by
              rw [HDR.out] at hy
              rcases List.mem_cons.1 hy with rfl | hy
              · exact hgt
              · exact HGT.out y hy)
            have HO2 := hid (show wq.drew.drew.ownsRow B 21 1 (.slice (some ⟨g, 0, none⟩) n cap) n (cl32 (bi z S (j + 1) ++ R)) from HOq.out.drew.drew)
            have HBD := hid (show Below B w wq.drew.drew from HBq.out.drew.drew)
            have HSD := hid (show wq.drew.drew.cell? ⟨g, j, none⟩ = some (.int .i32 y) ∧ wq.drew.drew.cell? ⟨g, j + 1, none⟩ = some (.int .i32 z) from ⟨r0, t0⟩)
            go_wp2_with fail
            go_region
            clear r0 t0 HTK HEND
            go_wp2
            obtain ⟨V, hV⟩ : ∃ V, V = wq.drew.drew := ⟨_, rfl⟩
            refine wp_region_mixC [(0, 1), (1, 1), (2, 1), (3, 1), (4, 1), (5, 1), (6, 1), (7, 1), (8, 0), (9, 1), (10, 1), (11, 1), (12, 1), (13, 0), (14, 1), (15, 2), (16, 1), (17, 2)] (fun W => W.cell? ⟨g, j, none⟩ = some (.int .i32 y) ∧ W.cell? ⟨g, j + 1, none⟩ = some (.int .i32 z)) (fun _ => True) (fun j => j == 15 || j == 17) (by kernel_rfl) (by kernel_rfl) (fun j hj => by simp at hj; rcases hj with rfl | rfl <;> decide) rfl (by kernel_rfl) HSD.out trivial ?_
            rw [← hV] at HO2 HBD HSD ⊢
            clear hV
            iterate 15 ((first | refine mixC_s ?_ rfl (by kernel_rfl) (fun w' hS => ?_) ?_ | refine mixC_t ?_ rfl (by kernel_rfl) (fun w' hS => ?_) ?_); (rotate_left; ((first | obtain ⟨s1, s2⟩ := hS | clear hS); go_simp; with_reducible rfl); rotate_left))
            obtain ⟨k1, k2⟩ := HSD.out
            have f1 : V.frozen? ⟨g, j, none⟩ = false := HO2.out.frozenAt j
            refine mixC_go rfl (by kernel_rfl) fun KK hKK => ?_
            go_simp
            refine hKK _ _ (fun h => by cases h) trivial ?_
            clear hKK KK f1 k1 k2 HSD
            obtain ⟨V1, hV1⟩ : ∃ V1, V1 = V.setCell ⟨g, j, none⟩ (.int .i32 z) := ⟨_, rfl⟩
            rw [← hV1]
            have HO3 := hid (show V1.ownsRow B 21 1 (.slice (some ⟨g, 0, none⟩) n cap) n (cl32 ((bi z S (j + 1) ++ R).set j z)) by rw [hV1]; exact row_set1 HO2.out j z)
            have HB1 := hid (show Below B w V1 by rw [hV1]; exact HBD.out.setCell (p := ⟨g, j, none⟩) hBg _)
            have k1 := row_cell1 HO3.out (j + 1) (by omega) z (by rw [List.getElem?_set_ne (by omega)]; exact bi_at z S R (j + 1) (by have h5 := HSL.out; omega))
            clear hV1 HO2 HBD
            have f1 : V1.frozen? ⟨g, j + 1, none⟩ = false := HO3.out.frozenAt (j + 1)
            refine mixC_t ?_ rfl (by kernel_rfl) (fun w' hS => ?_) ?_; (rotate_left; (go_simp; with_reducible rfl); rotate_left)
            refine mixC_go rfl (by kernel_rfl) fun KK hKK => ?_
            go_simp
            refine hKK _ _ (fun h => by cases h) trivial ?_
            clear hKK KK f1 k1
            refine mixC_end (NoPanic.normal ?_)
            obtain ⟨V2, hV2⟩ : ∃ V2, V2 = V1.setCell ⟨g, j + 1, none⟩ (.int .i32 y) := ⟨_, rfl⟩
            rw [← hV2]
            have HO5 := hid (show V2.ownsRow B 21 1 (.slice (some ⟨g, 0, none⟩) n cap) n (cl32 (bi z S j ++ R)) by rw [hV2, ← HSW.out]; exact row_set1 HO3.out (j + 1) y)
            have HB5 := hid (show Below B w V2 by rw [hV2]; exact HB1.out.setCell (p := ⟨g, j + 1, none⟩) hBg _)
            clear hV2 HO3 HB1
            go_wp2
            go_roundw
            case rel => exact ⟨j, by omega, by go_num, HO5, HG2, HB5⟩
            case measure => simp [intOf]
          · have hgt2 : y ≤ z := by omega
            obtain ⟨p1, p2⟩ := HEND.out (j + 1) hk (fun x hx => Int.le_trans (HTK.out x hx) hgt2) HGT.out
            have HP1 := hid p1
            have HP2 := hid p2
            have HO5 := hid (show wq.drew.ownsRow B 21 1 (.slice (some ⟨g, 0, none⟩) n cap) n (cl32 (bi z S (j + 1) ++ R)) from HOq.out.drew)
            have HB5 := hid (show Below B w wq.drew from HBq.out.drew)
            clear HGT HOq HBq HEND p1 p2 HYS HPM HSR HSW HDR HTK
            go_wp2_with fail
            go_region
            all_goals
              go_wp2
              go_roundw
              case rel => exact ⟨i + 1, bi z S (j + 1) ++ R, by omega, by omega, by go_num, HP1, HP2, HO5, HB5⟩
              case measure => simp [intOf]; omega
    · have i3 : ¬ (i : Int) < (n : Int) := by omega
      have hin2 : i = n := by omega
      subst hin2
      have HSF := hid (show ys.Pairwise (· ≤ ·) by
        have h5 := HSR.out
        rw [List.take_of_length_le (by rw [HPM.out.length_eq, HXL.out]; exact Nat.le_refl _)] at h5
        exact h5)
      go_wp2
      go_end0
      exact ⟨rfl, ys, HPM.out, HSF.out, HO.out, HB.out⟩
end Go.Proofs.YtohhokjlgihbgaaGreatDoor
