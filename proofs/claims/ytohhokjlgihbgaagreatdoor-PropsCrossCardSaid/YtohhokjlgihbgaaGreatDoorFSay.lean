/- The contract of say (package props). -/
import Derived.Test.YtohhokjlgihbgaaGreatDoorFSayMath
import Derived.Test.YtohhokjlgihbgaaGreatDoorFInsRow
import Derived.Test.YtohhokjlgihbgaaGreatDoorFMix
namespace Go.Proofs.YtohhokjlgihbgaaGreatDoor
open Go.RowKit

theorem rs_pair : ∀ (S : List Tr) (b : Nat), Rs b S → (S.Pairwise fun x y => x.2.1 < y.2.1) ∧ ∀ x ∈ S, b ≤ x.2.1
  | [], _, _ => ⟨List.Pairwise.nil, fun _ h => by cases h⟩
  | h :: R, b, hR => by
    obtain ⟨r1, r2, r3, r4⟩ := hR
    obtain ⟨i1, i2⟩ := rs_pair R (h.2.1 + 1) r4
    refine ⟨List.pairwise_cons.2 ⟨fun x hx => by have := i2 x hx; omega, i1⟩, fun x hx => ?_⟩
    rcases List.mem_cons.1 hx with rfl | hx
    · omega
    · have := i2 x hx; omega

theorem rs_mem : ∀ (S : List Tr) (b : Nat), Rs b S → ∀ x ∈ S, x.1 ≤ x.2.1 ∧ x.2.1 ≤ 1114111
  | [], _, _, x, hx => by cases hx
  | h :: R, b, hR, x, hx => by
    obtain ⟨r1, r2, r3, r4⟩ := hR
    rcases List.mem_cons.1 hx with rfl | hx
    · exact ⟨r2, r3⟩
    · exact rs_mem R _ r4 x hx
theorem rs_len : ∀ (S : List Tr) (b : Nat), Rs b S → b ≤ 1114112 → S.length + b ≤ 1114112
  | [], _, _, h => by simpa using h
  | h :: R, b, hR, hb => by
    obtain ⟨r1, r2, r3, r4⟩ := hR
    have ih := rs_len R (h.2.1 + 1) r4 (by omega)
    rw [List.length_cons]; omega
set_option maxRecDepth 100000 in
set_option maxHeartbeats 3000000 in
theorem say_any (B X : Nat) (pv : Value) (S : List Tr) (so : Option Addr) (sc : Nat) (g : Tr) (w : World) (hX : w.heap[X]? = some (.cells #[pv, .slice so S.length sc] 68 (0, 0))) (hS : w.ownsRow B 86 3 (.slice so S.length sc) S.length (rks S)) (hB : B ≤ w.heap.size) (hBX : B ≤ X) (hR : Rs 0 S) (hg : g.1 ≤ g.2.1 ∧ g.2.1 ≤ 1114111) :
    Calls Tryz.prog 70 #[.pointer (some ⟨X, 0, none⟩), rkv (rkT g)] w fun e w' =>
      (sayR S g = none ∧ e = .returned (.bool false) ∧ Below w.heap.size w w') ∨
      (∃ S' sv', sayR S g = some S' ∧ e = .returned (.bool true) ∧ w'.heap[X]? = some (.cells #[pv, sv'] 68 (0, 0)) ∧ w'.ownsRow B 86 3 sv' S'.length (rks S') ∧ Below B w w' ∧ ∀ x, x < w.heap.size → x ≠ X → (Value.slice so S.length sc).ownBlock ≠ some x → w'.heap[x]? = w.heap[x]?) := by
  obtain ⟨hp, _⟩ := rs_pair S 0 hR
  have hl : S.length ≤ 2000000 := by have h5 := rs_len S 0 hR (by omega); omega
  have HRM := hid (rs_mem S 0 hR)
  have HSA := hid (sayR_at S g)
  obtain ⟨s, hse⟩ : ∃ s, s = ahd (g.1 : Int) S := ⟨_, rfl⟩
  have hsl := ahd_le (g.1 : Int) S
  have HX := hid hX
  have HS := hid hS
  have hXl := lt_of_heap hX
  obtain ⟨N, hN⟩ : ∃ N, N = w.heap.size := ⟨_, rfl⟩
  have HN := hid hN
  have HRD := hid (show ∀ W, Below N w W → RdK W so (S.map rkT) from fun W hW => (rd_own hS).below (by rw [← hN]; exact hW))
  have HXW := hid (show ∀ W, Below N w W → W.cell? ⟨X, 1, none⟩ = some (.slice so S.length sc) from fun W hW => cell_row W X 1 [_, _] 68 _ ((hW.block X (by omega)).trans hX) rfl)
  have HSR := hid (fun W hW => search_say so sc S (g.1 : Int) s W (HRD.out W hW) (by omega) (by rw [hse]; exact hsl) (by rw [hse]; exact ahd_lo (g.1 : Int) S) (by rw [hse]; exact ahd_hi (g.1 : Int) S hp))
  rw [← hse] at HSA hsl
  obtain ⟨n, hn⟩ : ∃ n, n = S.length := ⟨_, rfl⟩
  have HNL := hid hn
  rw [← hn] at HSR HXW hl hsl ⊢
  obtain ⟨lo, hh, cl⟩ := g
  obtain ⟨g1, g2⟩ := hg
  dsimp only at g1 g2 HSR HSA
  unfold rkv rkT
  dsimp only
  obtain ⟨U, hU⟩ : ∃ U, U = w.alloc (.cells #[.int .i32 (lo : Int), .int .i32 (hh : Int), .int .i64 (cl : Int)] 86) := ⟨_, rfl⟩
  have HBU := hid (show Below N w U by rw [hU, hN]; exact (Below.refl _ w).alloc (Nat.le_refl _) _)
  have cU := HXW.out U HBU.out
  have HSU := hid (HSR.out U HBU.out)
  have x0 : U.cell? ⟨N, 0, none⟩ = some (.int .i32 (lo : Int)) := by rw [hU, hN]; exact cell_row _ w.heap.size 0 [_, _, _] 86 _ (heap_alloc_new w _) rfl
  have hNU : N ≤ U.drew.heap.size := by rw [hU, hN]; simp
  have hNU' : N < U.drew.heap.size := by rw [hU, hN]; simp
  have HGU := hid (show U.drew.heap[N]? = some (.cells [.int .i32 (lo : Int), .int .i32 (hh : Int), .int .i64 (cl : Int)].toArray 86 (0, 0)) by rw [hU, hN]; exact heap_alloc_new w _)
  have HU := hid hU
  clear hse hX hS hn hp hR hU hN
  go_enter Tryz.func70, Tryz.ntmps70
  go_wp2_with fail
  rw [← HU.out, ← HN.out]
  go_region_held3 (fun W => W.cell? ⟨X, 1, none⟩ = some (.slice so n sc) ∧ W.cell? ⟨N, 0, none⟩ = some (.int .i32 (lo : Int))) (first | exact HS1.out | exact ⟨cU, x0⟩ | go_keep) (first | (go_at_call 50; refine (HSR.out _ HBU.out.drew).mono ?_; rintro e w1 ⟨⟨d, rfl⟩, b1⟩; have HB1 := hid (HBU.out.drew.trans (b1.mono hNU)); have HS1 := hid (show w1.cell? ⟨X, 1, none⟩ = some (.slice so n sc) ∧ w1.cell? ⟨N, 0, none⟩ = some (.int .i32 (lo : Int)) from ⟨HXW.out w1 HB1.out, (b1.cell (p := ⟨N, 0, none⟩) hNU').trans x0⟩); have HG1 := hid ((b1.block N hNU').trans HGU.out); clear b1))
  have c1 := HS1.out.1
  have HEND := hid (show ∀ (t l2 h2 : Nat) (V : World), s ≤ t → t ≤ n → Below N w V → sayD (S.drop s) (lo, hh, cl) = some ((l2, h2, cl), S.drop t) →
      Calls Tryz.prog 101 #[.slice so n sc, .int .i64 (s : Int), .int .i64 (t : Int), .slice (some ⟨V.heap.size, 0, none⟩) 1 1] (V.alloc (.cells #[.int .i32 (l2 : Int), .int .i32 (h2 : Int), .int .i64 (cl : Int)] 86)) fun e w' => ∃ (vo : Option Addr) (vm vc : Nat), e = .returned (.slice vo vm vc) ∧ w'.heap[X]? = some (.cells [pv, .slice so n sc].toArray 68 (0, 0)) ∧ (∀ k, N ≤ k → k < V.heap.size → w'.heap[k]? = V.heap[k]?) ∧
        Hid (∃ S' sv', sayR S (lo, hh, cl) = some S' ∧ (w'.setCell ⟨X, 1, none⟩ (.slice vo vm vc)).heap[X]? = some (.cells #[pv, sv'] 68 (0, 0)) ∧ (w'.setCell ⟨X, 1, none⟩ (.slice vo vm vc)).ownsRow B 86 3 sv' S'.length (rks S') ∧ Below B w (w'.setCell ⟨X, 1, none⟩ (.slice vo vm vc)) ∧ ∀ x, x < w.heap.size → x ≠ X → (Value.slice so n sc).ownBlock ≠ some x → (w'.setCell ⟨X, 1, none⟩ (.slice vo vm vc)).heap[x]? = w.heap[x]?) from fun t l2 h2 V h1 h3 h4 h5 => by
    have hnl := HNL.out
    have hN := HN.out
    have hs0 := HS.out
    have hx0 := HX.out
    rw [← hnl] at hs0 hx0
    have hV := h4.size
    have hlt0 := hs0.lt
    have hsV := own_keep hs0 (show Below w.heap.size w (V.alloc (.cells #[.int .i32 (l2 : Int), .int .i32 (h2 : Int), .int .i64 (cl : Int)] 86)) by rw [← hN]; exact h4.alloc (by omega) _)
    have h6 := replace_any B V.heap.size s t S (l2, h2, cl) (.slice so n sc) (V.alloc (.cells #[.int .i32 (l2 : Int), .int .i32 (h2 : Int), .int .i64 (cl : Int)] 86)) (by rw [← hnl]; exact hsV) (by simp; omega) (by omega) h1 (by omega) (fun e => by have := (hlt0 _ e).2; omega) (heap_alloc_new V _)
    refine h6.mono ?_
    rintro e w' ⟨v', rfl, o1, b1⟩
    obtain ⟨vo, vc, hvf⟩ := own_form o1
    have hXV : (V.alloc (.cells #[.int .i32 (l2 : Int), .int .i32 (h2 : Int), .int .i64 (cl : Int)] 86)).heap[X]? = some (.cells [pv, .slice so n sc].toArray 68 (0, 0)) := (heap_alloc_old V _ X (by omega)).trans ((h4.block X (by omega)).trans hx0)
    have hX' := (b1.far X (by simp; omega) (row_other hs0 X _ 68 hx0 (by decide))).trans hXV
    have o2 := ownsRow_setCell_other o1 (a := ⟨X, 1, none⟩) (row_other o1 X _ 68 hX' (by decide)) v'
    rw [hvf] at o1 o2 ⊢
    refine ⟨vo, _, vc, rfl, hX', fun k hk hkV => (b1.far k (by simp; omega) (fun e => by have := (hlt0 _ e).2; omega)).trans (heap_alloc_old V _ k hkV), S.take s ++ (l2, h2, cl) :: S.drop t, .slice vo (s + 1 + (S.length - t)) vc, ?_, ?_, ?_, ?_, ?_⟩
    · rw [HSA.out, h5]; rfl
    · exact set_row w' X 1 _ 68 _ hX'
    · rw [show (S.take s ++ (l2, h2, cl) :: S.drop t).length = s + 1 + (S.length - t) by rw [List.length_append, List.length_take, List.length_cons, List.length_drop]; omega]
      exact o2
    · exact (((h4.alloc (by omega) _).mono (by omega)).trans b1.b).setCell (p := ⟨X, 1, none⟩) hBX _
    · intro x hx hxX hxo
      exact (Below.heap_setCell w' ⟨X, 1, none⟩ _ x hxX).trans ((b1.far x (by simp; omega) hxo).trans ((heap_alloc_old V _ x (by omega)).trans (h4.block x (by omega)))))
  have HSL := hid (show s ≤ n from hsl)
  clear HSU HGU HBU HU cU x0 hNU hNU' HSR
  go_wp2
  go_loopw [7] (fun x wr => ∃ (t l2 h2 : Nat), x = .int .i64 (t : Int) ∧ s ≤ t ∧ t ≤ n ∧ l2 ≤ h2 ∧ h2 ≤ 1114111 ∧ Hid (sayD (S.drop s) (lo, hh, cl) = sayD (S.drop t) (l2, h2, cl)) ∧ Hid (Below N w wr) ∧ Hid (wr.heap[N]? = some (.cells [.int .i32 (l2 : Int), .int .i32 (h2 : Int), .int .i64 (cl : Int)].toArray 86 (0, 0)))) (fun x _ => n - (intOf x).toNat)
  case atStart => exact ⟨s, lo, hh, rfl, Nat.le_refl _, hsl, g1, g2, rfl, HB1, HG1⟩
  case round =>
    obtain ⟨t, l2, h2, rfl, hst, htn, hlh, hhm, HSD, HB, HG⟩ := hrel
    have cX := HXW.out wr HB.out
    have x0 := cell_row wr N 0 _ 86 _ HG.out rfl
    have x1 := cell_row wr N 1 _ 86 _ HG.out rfl
    have x2 := cell_row wr N 2 _ 86 _ HG.out rfl
    clear c1
    by_cases hlt : t < n
    · have hkL : t < S.length := by have h5 := HNL.out; omega
      obtain ⟨a, rfl, ha, a0, a1, a2⟩ := HRD.out wr HB.out t (rkT S[t]) (by rw [List.getElem?_map, List.getElem?_eq_getElem hkL]; rfl)
      have HDR := hid (List.drop_eq_getElem_cons hkL)
      unfold rkT at a0 a1 a2
      have HZ0 := hid (HRM.out S[t] (List.getElem_mem hkL))
      obtain ⟨z, hz⟩ : ∃ z, z = S[t] := ⟨_, rfl⟩
      rw [← hz] at a0 a1 a2 HDR HZ0
      obtain ⟨z0, z1, z2⟩ := z
      dsimp only at a0 a1 a2
      have HZ := hid (show z0 ≤ z1 ∧ z1 ≤ 1114111 from HZ0.out)
      clear HZ0
      have i3 : (t : Int) < (n : Int) := by omega
      have i0' : (0 : Int) ≤ (t : Int) := by omega
      have d3 : decide ((t : Int) < (n : Int)) = true := decide_eq_true i3
      clear hz hkL
      by_cases hle : z0 ≤ h2
      · have hle' : (z0 : Int) ≤ (h2 : Int) := by omega
        go_wp2
        go_quiet (fail)
        have HBV := hid (HB.out.trans (show Below N wr (wr.drewN nq) from ⟨rfl, rfl, rfl, Nat.le_refl _, fun _ _ => rfl⟩))
        have HGV := hid (show (wr.drewN nq).heap[N]? = _ from HG.out)
        have cV : (wr.drewN nq).cell? ⟨X, 1, none⟩ = some (.slice (some a) n sc) := cX
        have b0 : (wr.drewN nq).cell? (a.add (t * 3)) = some (.int .i32 (z0 : Int)) := a0
        have b1 : (wr.drewN nq).cell? ⟨(a.add (t * 3)).block, (a.add (t * 3)).off + 1, none⟩ = some (.int .i32 (z1 : Int)) := a1
        have b2 : (wr.drewN nq).cell? ⟨(a.add (t * 3)).block, (a.add (t * 3)).off + 2, none⟩ = some (.int .i64 (z2 : Int)) := a2
        obtain ⟨V, hV⟩ : ∃ V, V = wr.drewN nq := ⟨_, rfl⟩
        rw [← hV] at HBV HGV cV b0 b1 b2 ⊢
        clear hV a0 a1 a2 x0 x1 x2 cX HB HG
        have hNV : N ≤ V.heap.size := by have h5 := HN.out; have h6 := HBV.out.size; omega
        have hNV' : N < V.heap.size := lt_of_heap HGV.out
        have HG5 := hid ((heap_alloc_old V (.cells #[.int .i32 (z0 : Int), .int .i32 (z1 : Int), .int .i64 (z2 : Int)] 86) N hNV').trans HGV.out)
        have HB5 := hid (HBV.out.alloc hNV (.cells #[.int .i32 (z0 : Int), .int .i32 (z1 : Int), .int .i64 (z2 : Int)] 86))
        have HH5 := hid (heap_alloc_new V (.cells [.int .i32 (z0 : Int), .int .i32 (z1 : Int), .int .i64 (z2 : Int)].toArray 86))
        have y2 := cell_row (V.alloc (.cells #[.int .i32 (z0 : Int), .int .i32 (z1 : Int), .int .i64 (z2 : Int)] 86)) N 2 _ 86 _ HG5.out rfl
        by_cases hc : z2 = cl
        · subst hc
          have hc' : ((z2 : Int) == (z2 : Int)) = true := by simp
          have e0 : min (l2 : Int) (z0 : Int) = ((min l2 z0 : Nat) : Int) := by omega
          have e1 : max (h2 : Int) (z1 : Int) = ((max h2 z1 : Nat) : Int) := by omega
          have HSD2 := hid (show sayD (S.drop s) (lo, hh, z2) = sayD (S.drop (t + 1)) (min l2 z0, max h2 z1, z2) by
            rw [HSD.out, HDR.out]
            show (if z0 ≤ h2 then if z2 = z2 then _ else none else _) = _
            rw [if_pos hle, if_pos rfl])
          obtain ⟨mn, hmn⟩ : ∃ mn, mn = min l2 z0 := ⟨_, rfl⟩
          obtain ⟨mx, hmx⟩ : ∃ mx, mx = max h2 z1 := ⟨_, rfl⟩
          rw [← hmn] at e0 HSD2
          rw [← hmx] at e1 HSD2
          have q1 : mn ≤ mx := by omega
          have q2 : mx ≤ 1114111 := by have h5 := HZ.out; omega
          clear hmn hmx
          go_wp2
          obtain ⟨W, hW⟩ : ∃ W, W = V.alloc (.cells #[.int .i32 (z0 : Int), .int .i32 (z1 : Int), .int .i64 (z2 : Int)] 86) := ⟨_, rfl⟩
          obtain ⟨H, hH⟩ : ∃ H, H = V.heap.size := ⟨_, rfl⟩
          rw [← hW, ← hH] at HH5
          rw [← hW] at HG5 HB5 y2 ⊢
          rw [← hH]
          have hNH : N ≠ H := by omega
          have HSW := hid (show (W.drew.cell? ⟨N, 0, none⟩ = some (.int .i32 (l2 : Int)) ∧ W.drew.cell? ⟨N, 1, none⟩ = some (.int .i32 (h2 : Int)) ∧ W.drew.cell? ⟨H, 0, none⟩ = some (.int .i32 (z0 : Int)) ∧ W.drew.cell? ⟨H, 1, none⟩ = some (.int .i32 (z1 : Int))) from ⟨cell_row W N 0 _ 86 _ HG5.out rfl, cell_row W N 1 _ 86 _ HG5.out rfl, cell_row W H 0 _ 86 _ HH5.out rfl, cell_row W H 1 _ 86 _ HH5.out rfl⟩)
          have HGD := hid (show W.drew.heap[N]? = some (.cells [.int .i32 (l2 : Int), .int .i32 (h2 : Int), .int .i64 (z2 : Int)].toArray 86 (0, 0)) from HG5.out)
          have HBD := hid (HB5.out.drew)
          have HS11 := hid (set_row W.drew N 0 _ 86 (.int .i32 (mn : Int)) HGD.out)
          have HS13 := hid (set_row (W.drew.setCell ⟨N, 0, none⟩ (.int .i32 (mn : Int))) N 1 _ 86 (.int .i32 (mx : Int)) HS11.out)
          have HB13 := hid ((HBD.out.setCell (p := ⟨N, 0, none⟩) (Nat.le_refl N) (.int .i32 (mn : Int))).setCell (p := ⟨N, 1, none⟩) (Nat.le_refl N) (.int .i32 (mx : Int)))
          have f0 := frozen_row HGD.out 0
          have f1 : (W.setCell ⟨N, 0, none⟩ (.int .i32 (mn : Int))).drew.frozen? ⟨N, 1, none⟩ = false := frozen_row HS11.out 1
          have v0 : (W.setCell ⟨N, 0, none⟩ (.int .i32 (mn : Int))).drew.cell? ⟨N, 1, none⟩ = some (.int .i32 (h2 : Int)) := cell_row _ N 1 _ 86 _ HS11.out rfl
          have u0 := HSW.out.1
          have u1 : (W.drew.setCell ⟨N, 0, none⟩ (.int .i32 (mn : Int))).cell? ⟨H, 1, none⟩ = some (.int .i32 (z1 : Int)) := by
            rw [cell_of_row _ H 1 _ 86 (0, 0) ((Below.heap_setCell W.drew ⟨N, 0, none⟩ _ H (fun e => hNH e.symm)).trans HH5.out)]; rfl
          have u2 : ((W.drew.setCell ⟨N, 0, none⟩ (.int .i32 (mn : Int))).setCell ⟨N, 1, none⟩ (.int .i32 (mx : Int))).cell? ⟨H, 1, none⟩ = some (.int .i32 (z1 : Int)) := by
            rw [cell_of_row _ H 1 _ 86 (0, 0) ((Below.heap_setCell _ ⟨N, 1, none⟩ _ H (fun e => hNH e.symm)).trans ((Below.heap_setCell W.drew ⟨N, 0, none⟩ _ H (fun e => hNH e.symm)).trans HH5.out))]; rfl
          have HU1 := hid u1
          have HU2 := hid u2
          clear hW hH b0 b1 b2 y2 cV u1 u2
          refine wp_region_mixC [(0, 1), (1, 0), (2, 1), (3, 0), (4, 1), (5, 1), (6, 0), (7, 1), (8, 1), (9, 1), (10, 1), (11, 2), (12, 1), (13, 2)] (fun W => W.cell? ⟨N, 0, none⟩ = some (.int .i32 (l2 : Int)) ∧ W.cell? ⟨N, 1, none⟩ = some (.int .i32 (h2 : Int)) ∧ W.cell? ⟨H, 0, none⟩ = some (.int .i32 (z0 : Int)) ∧ W.cell? ⟨H, 1, none⟩ = some (.int .i32 (z1 : Int))) (fun W => W.cell? ⟨H, 1, none⟩ = some (.int .i32 (z1 : Int))) (fun j => j == 11 || j == 13) (by kernel_rfl) (by kernel_rfl) (fun j hj => by simp at hj; rcases hj with rfl | rfl <;> decide) rfl (by kernel_rfl) HSW.out HSW.out.2.2.2 ?_
          iterate 11 ((first | refine mixC_s ?_ rfl (by kernel_rfl) (fun w' hS => ?_) ?_ | refine mixC_t ?_ rfl (by kernel_rfl) (fun w' hS => ?_) ?_); (rotate_left; ((first | obtain ⟨s1, s2, s3, s4⟩ := hS | have s4 := hS); go_simp; with_reducible rfl); rotate_left))
          simp only [Act.put, List.setIfInBounds_toArray]
          refine mixC_go rfl (by kernel_rfl) fun KK hKK => ?_
          go_simp
          refine hKK _ _ (fun h => by cases h) HU1.out ?_
          clear hKK KK
          refine mixC_t ?_ rfl (by kernel_rfl) (fun w' hS => ?_) ?_; (rotate_left; (go_simp; with_reducible rfl); rotate_left)
          simp only [Act.put, List.setIfInBounds_toArray]
          refine mixC_go rfl (by kernel_rfl) fun KK hKK => ?_
          go_simp
          refine hKK _ _ (fun h => by cases h) HU2.out ?_
          clear hKK KK
          refine mixC_end (NoPanic.normal ?_)
          go_wp2
          go_roundw
          case rel => exact ⟨t + 1, mn, mx, by go_num, by omega, by omega, q1, q2, HSD2, HB13, HS13⟩
          case measure => simp [intOf]; omega
        · have hc' : ((z2 : Int) == (cl : Int)) = false := beq_eq_false_iff_ne.2 (by omega)
          have HNO := hid (show sayR S (lo, hh, cl) = none by
            rw [HSA.out, HSD.out, HDR.out]
            show Option.map _ (if z0 ≤ h2 then if z2 = cl then _ else none else _) = none
            rw [if_pos hle, if_neg hc]; rfl)
          go_wp2
          go_ret
          exact .inl ⟨HNO.out, rfl, by rw [← HN.out]; exact HB5.out⟩
      · have hle' : ¬ (z0 : Int) ≤ (h2 : Int) := by omega
        have HDN := hid (show sayD (S.drop s) (lo, hh, cl) = some ((l2, h2, cl), S.drop t) by
          rw [HSD.out, HDR.out]
          show (if z0 ≤ h2 then if z2 = cl then _ else none else _) = _
          rw [if_neg hle])
        go_wp2
        go_quiet (fail)
        clear a0 a1 a2
        have HBV := hid (HB.out.trans (show Below N wr (wr.drewN nq) from ⟨rfl, rfl, rfl, Nat.le_refl _, fun _ _ => rfl⟩))
        have HGV := hid (show (wr.drewN nq).heap[N]? = _ from HG.out)
        obtain ⟨V, hV⟩ : ∃ V, V = wr.drewN nq := ⟨_, rfl⟩
        rw [← hV] at HBV HGV ⊢
        have HCL := hid (HEND.out t l2 h2 V.drew hst htn HBV.out.drew HDN.out)
        have hNV : N < V.heap.size := lt_of_heap HGV.out
        have HSK := hid (show ∀ W : World, W.heap[X]? = some (.cells #[pv, (.slice (some a) n sc)] 68 (0, 0)) → W.heap[N]? = V.heap[N]? → (W.cell? ⟨X, 1, none⟩ = some (.slice (some a) n sc) ∧ W.cell? ⟨N, 0, none⟩ = some (.int .i32 (l2 : Int)) ∧ W.cell? ⟨N, 1, none⟩ = some (.int .i32 (h2 : Int)) ∧ W.cell? ⟨N, 2, none⟩ = some (.int .i64 (cl : Int))) from fun W h1 h2' => ⟨cell_row W X 1 [_, _] 68 _ h1 rfl, cell_row W N 0 _ 86 _ (h2'.trans HGV.out) rfl, cell_row W N 1 _ 86 _ (h2'.trans HGV.out) rfl, cell_row W N 2 _ 86 _ (h2'.trans HGV.out) rfl⟩)
        have HXV := hid (show V.heap[X]? = some (.cells #[pv, (.slice (some a) n sc)] 68 (0, 0)) by have h5 := (HBV.out.block X (by have h6 := HN.out; omega)).trans HX.out; rw [← HNL.out] at h5; exact h5)
        clear hV x0 x1 x2 cX HB HG
        go_wp2
        refine wp_region_mixC [(0, 1), (1, 1), (2, 1), (3, 1), (4, 0), (5, 1), (6, 1), (7, 0), (8, 2), (9, 2), (10, 1), (11, 1), (12, 2)] (fun W => W.cell? ⟨X, 1, none⟩ = some (.slice (some a) n sc) ∧ W.cell? ⟨N, 0, none⟩ = some (.int .i32 (l2 : Int)) ∧ W.cell? ⟨N, 1, none⟩ = some (.int .i32 (h2 : Int)) ∧ W.cell? ⟨N, 2, none⟩ = some (.int .i64 (cl : Int))) (fun _ => True) (fun j => j == 12) (by kernel_rfl) (by kernel_rfl) (fun j hj => by simp at hj; rw [hj]; decide) rfl (by kernel_rfl) (HSK.out V.drew HXV.out rfl) trivial ?_
        iterate 8 ((first | refine mixC_s ?_ rfl (by kernel_rfl) (fun w' hS => ?_) ?_ | refine mixC_t ?_ rfl (by kernel_rfl) (fun w' hS => ?_) ?_); (rotate_left; ((first | obtain ⟨s1, s2, s3, s4⟩ := hS | clear hS); go_simp; with_reducible rfl); rotate_left))
        simp only [Act.put, List.setIfInBounds_toArray]
        refine mixC_go rfl (by kernel_rfl) fun KK hKK => ?_
        go_simp
        refine hKK _ _ (fun _ => HSK.out _ ((heap_alloc_old V.drew _ X (by show X < V.heap.size; have h6 := HN.out; omega)).trans HXV.out) (heap_alloc_old V.drew _ N hNV)) trivial ?_
        clear hKK KK
        refine mixC_go rfl (by kernel_rfl) fun KK hKK => ?_
        go_simp
        refine HCL.out.mono ?_
        rintro e w2 ⟨vo, vm, vc, rfl, hX2, hk2, HPO⟩
        have HX2 := hid hX2
        have g1' := cell_row w2 X 1 _ 68 _ hX2 rfl
        have g2' := frozen_row hX2 1
        refine hKK _ _ (fun _ => HSK.out _ HX2.out (hk2 N (Nat.le_refl _) hNV)) trivial ?_
        clear hKK KK hk2 hX2
        iterate 2 (refine mixC_t ?_ rfl (by kernel_rfl) (fun w' hS => ?_) ?_; (rotate_left; (go_simp; with_reducible rfl); rotate_left))
        simp only [Act.put, List.setIfInBounds_toArray]
        refine mixC_go rfl (by kernel_rfl) fun KK hKK => ?_
        go_simp
        refine hKK _ _ (fun h => by cases h) trivial ?_
        clear hKK KK
        refine mixC_end (NoPanic.normal ?_)
        go_wp2
        go_ret
        obtain ⟨S', sv', p1, p2, p3, p4, p5⟩ := HPO.out
        exact .inr ⟨S', sv', p1, rfl, p2, p3, p4, p5⟩
    · have i3 : ¬ (t : Int) < (n : Int) := by omega
      have d3 : decide ((t : Int) < (n : Int)) = false := decide_eq_false i3
      have HDN := hid (show sayD (S.drop s) (lo, hh, cl) = some ((l2, h2, cl), S.drop t) by
        rw [HSD.out, List.drop_of_length_le (by have h5 := HNL.out; omega)]; rfl)
      skip
      go_wp2
      go_quiet (fail)
      have HBV := hid (HB.out.trans (show Below N wr (wr.drewN nq) from ⟨rfl, rfl, rfl, Nat.le_refl _, fun _ _ => rfl⟩))
      have HGV := hid (show (wr.drewN nq).heap[N]? = _ from HG.out)
      obtain ⟨V, hV⟩ : ∃ V, V = wr.drewN nq := ⟨_, rfl⟩
      rw [← hV] at HBV HGV ⊢
      have HCL := hid (HEND.out t l2 h2 V.drew hst htn HBV.out.drew HDN.out)
      have hNV : N < V.heap.size := lt_of_heap HGV.out
      have HSK := hid (show ∀ W : World, W.heap[X]? = some (.cells #[pv, (.slice so n sc)] 68 (0, 0)) → W.heap[N]? = V.heap[N]? → (W.cell? ⟨X, 1, none⟩ = some (.slice so n sc) ∧ W.cell? ⟨N, 0, none⟩ = some (.int .i32 (l2 : Int)) ∧ W.cell? ⟨N, 1, none⟩ = some (.int .i32 (h2 : Int)) ∧ W.cell? ⟨N, 2, none⟩ = some (.int .i64 (cl : Int))) from fun W h1 h2' => ⟨cell_row W X 1 [_, _] 68 _ h1 rfl, cell_row W N 0 _ 86 _ (h2'.trans HGV.out) rfl, cell_row W N 1 _ 86 _ (h2'.trans HGV.out) rfl, cell_row W N 2 _ 86 _ (h2'.trans HGV.out) rfl⟩)
      have HXV := hid (show V.heap[X]? = some (.cells #[pv, (.slice so n sc)] 68 (0, 0)) by have h5 := (HBV.out.block X (by have h6 := HN.out; omega)).trans HX.out; rw [← HNL.out] at h5; exact h5)
      clear hV x0 x1 x2 cX HB HG
      go_wp2
      refine wp_region_mixC [(0, 1), (1, 1), (2, 1), (3, 1), (4, 0), (5, 1), (6, 1), (7, 0), (8, 2), (9, 2), (10, 1), (11, 1), (12, 2)] (fun W => W.cell? ⟨X, 1, none⟩ = some (.slice so n sc) ∧ W.cell? ⟨N, 0, none⟩ = some (.int .i32 (l2 : Int)) ∧ W.cell? ⟨N, 1, none⟩ = some (.int .i32 (h2 : Int)) ∧ W.cell? ⟨N, 2, none⟩ = some (.int .i64 (cl : Int))) (fun _ => True) (fun j => j == 12) (by kernel_rfl) (by kernel_rfl) (fun j hj => by simp at hj; rw [hj]; decide) rfl (by kernel_rfl) (HSK.out V.drew HXV.out rfl) trivial ?_
      iterate 8 ((first | refine mixC_s ?_ rfl (by kernel_rfl) (fun w' hS => ?_) ?_ | refine mixC_t ?_ rfl (by kernel_rfl) (fun w' hS => ?_) ?_); (rotate_left; ((first | obtain ⟨s1, s2, s3, s4⟩ := hS | clear hS); go_simp; with_reducible rfl); rotate_left))
      simp only [Act.put, List.setIfInBounds_toArray]
      refine mixC_go rfl (by kernel_rfl) fun KK hKK => ?_
      go_simp
      refine hKK _ _ (fun _ => HSK.out _ ((heap_alloc_old V.drew _ X (by show X < V.heap.size; have h6 := HN.out; omega)).trans HXV.out) (heap_alloc_old V.drew _ N hNV)) trivial ?_
      clear hKK KK
      refine mixC_go rfl (by kernel_rfl) fun KK hKK => ?_
      go_simp
      refine HCL.out.mono ?_
      rintro e w2 ⟨vo, vm, vc, rfl, hX2, hk2, HPO⟩
      have HX2 := hid hX2
      have g1' := cell_row w2 X 1 _ 68 _ hX2 rfl
      have g2' := frozen_row hX2 1
      refine hKK _ _ (fun _ => HSK.out _ HX2.out (hk2 N (Nat.le_refl _) hNV)) trivial ?_
      clear hKK KK hk2 hX2
      iterate 2 (refine mixC_t ?_ rfl (by kernel_rfl) (fun w' hS => ?_) ?_; (rotate_left; (go_simp; with_reducible rfl); rotate_left))
      simp only [Act.put, List.setIfInBounds_toArray]
      refine mixC_go rfl (by kernel_rfl) fun KK hKK => ?_
      go_simp
      refine hKK _ _ (fun h => by cases h) trivial ?_
      clear hKK KK
      refine mixC_end (NoPanic.normal ?_)
      go_wp2
      go_ret
      obtain ⟨S', sv', p1, p2, p3, p4, p5⟩ := HPO.out
      exact .inr ⟨S', sv', p1, rfl, p2, p3, p4, p5⟩
end Go.Proofs.YtohhokjlgihbgaaGreatDoor
