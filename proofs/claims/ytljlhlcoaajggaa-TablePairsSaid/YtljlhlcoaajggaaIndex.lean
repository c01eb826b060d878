/- The contracts of Ranges$1 (package table) and slices.IndexFunc at ranges with it. -/
import Derived.Test.YtljlhlcoaajggaaWhole2
namespace Go.Proofs.Ytljlhlcoaajggaa
open Go.RowKit

/-- None has that class. -/
def nor (r : Nat) (L : List Tr) : Prop := ∀ x ∈ L, x.2.2 ≠ r

set_option maxHeartbeats 2000000 in
set_option maxRecDepth 100000 in
theorem del_any (X T rest : Nat) (g : Tr) (w : World) (hx : w.cell? ⟨X, 0, none⟩ = some (.pointer (some ⟨T, 0, none⟩))) (ht : w.cell? ⟨T, 8705, none⟩ = some (.int .u8 (rest : Int))) (hr : rest < 256) :
    Calls Try.prog 63 #[rkv (rkT g), .pointer (some ⟨X, 0, none⟩)] w fun e w' => e = .returned (.bool (decide (g.2.2 = rest))) ∧ Below w.heap.size w w' := by
  obtain ⟨lo, hi', cl⟩ := g
  unfold rkv rkT
  have hXl : X < w.heap.size := World.block_lt_of_cell? w _ hx
  have hTl : T < w.heap.size := World.block_lt_of_cell? w _ ht
  have ec : IntKind.i64.wrap (rest : Int) = (rest : Int) := by rw [IntKind.wrap_i64]; omega
  have HB := hid ((Below.refl w.heap.size w).alloc (Nat.le_refl _) (.cells #[.int .i32 (lo : Int), .int .i32 (hi' : Int), .int .i64 (cl : Int)] 36))
  have x1 : (w.alloc (.cells #[.int .i32 (lo : Int), .int .i32 (hi' : Int), .int .i64 (cl : Int)] 36)).cell? ⟨X, 0, none⟩ = some (.pointer (some ⟨T, 0, none⟩)) := (HB.out.cell (p := ⟨X, 0, none⟩) hXl).trans hx
  have x2 : (w.alloc (.cells #[.int .i32 (lo : Int), .int .i32 (hi' : Int), .int .i64 (cl : Int)] 36)).cell? ⟨T, 8705, none⟩ = some (.int .u8 (rest : Int)) := (HB.out.cell (p := ⟨T, 8705, none⟩) hTl).trans ht
  have hG := heap_alloc_new w (.cells #[.int .i32 (lo : Int), .int .i32 (hi' : Int), .int .i64 (cl : Int)] 36)
  obtain ⟨W, hW⟩ : ∃ W, W = w.alloc (.cells #[.int .i32 (lo : Int), .int .i32 (hi' : Int), .int .i64 (cl : Int)] 36) := ⟨_, rfl⟩
  have x3 : W.cell? ⟨w.heap.size, 2, none⟩ = some (.int .i64 (cl : Int)) := by rw [hW, cell_of_row _ w.heap.size 2 _ 36 (0, 0) hG]; rfl
  obtain ⟨d, hd⟩ : ∃ d : Bool, d = decide (cl = rest) := ⟨_, rfl⟩
  have hd' : ((cl : Int) == (rest : Int)) = d := by
    rw [hd, Bool.eq_iff_iff]
    simp only [beq_iff_eq, decide_eq_true_eq]
    omega
  show Calls Try.prog 63 _ w fun e w' => e = .returned (.bool (decide (cl = rest))) ∧ Below w.heap.size w w'
  rw [← hd]
  clear hd hG hx ht
  go_enter Try.func63, Try.ntmps63
  go_wp2
  rw [← hW] at x1 x2 HB ⊢
  clear hW
  go_quiet (fail)
  go_wp2
  go_ret
  exact ⟨rfl, HB.out.trans ⟨rfl, rfl, rfl, Nat.le_refl _, fun _ _ => rfl⟩⟩

set_option maxHeartbeats 2000000 in
set_option maxRecDepth 100000 in
theorem index_any (X T rest : Nat) (ao : Option Addr) (ac : Nat) (L : List Tr) (w : World) (ha : RdK w ao (L.map rkT)) (hl : L.length ≤ 100000000) (hx : w.cell? ⟨X, 0, none⟩ = some (.pointer (some ⟨T, 0, none⟩))) (ht : w.cell? ⟨T, 8705, none⟩ = some (.int .u8 (rest : Int))) (hr : rest < 256) :
    Calls Try.prog 73 #[.slice ao L.length ac, .func (.func 63) #[] #[.pointer (some ⟨X, 0, none⟩)]] w fun e w' => Below w.heap.size w w' ∧
      ((∃ P z Q, L = P ++ z :: Q ∧ nor rest P ∧ z.2.2 = rest ∧ e = .returned (.int .i64 (P.length : Int))) ∨ (nor rest L ∧ e = .returned (.int .i64 (-1)))) := by
  have HA := hid ha
  obtain ⟨n, hn⟩ : ∃ n, n = L.length := ⟨_, rfl⟩
  rw [← hn]
  have HN := hid hn
  rw [← hn] at hl
  clear hn ha
  have HXW := hid hx
  have HTW := hid ht
  have hXl : X < w.heap.size := World.block_lt_of_cell? w _ hx
  have hTl : T < w.heap.size := World.block_lt_of_cell? w _ ht
  go_enter Try.func73, Try.ntmps73
  go_wp2
  go_loopw [8] (fun x wr => ∃ (i : Nat), x = .int .i64 (i : Int) ∧ i ≤ n ∧ Hid (nor rest (L.take i)) ∧ Hid (Below w.heap.size w wr)) (fun x _ => n - (intOf x).toNat)
  case atStart => exact ⟨0, rfl, by omega, fun x hx => (by simp at hx), Below.refl _ _⟩
  case round =>
    obtain ⟨i, rfl, hi, HK, HB⟩ := hrel
    by_cases hlt : i < n
    · have hiL : i < L.length := by have h5 := HN.out; omega
      obtain ⟨a, rfl, ha, a0, a1, a2⟩ := (HA.out.below HB.out) i (rkT L[i]) (by rw [List.getElem?_map, List.getElem?_eq_getElem hiL]; rfl)
      unfold rkT at a0 a1 a2
      have i3 : (i : Int) < (n : Int) := by omega
      have i0 : (0 : Int) ≤ (i : Int) := by omega
      dsimp only at a0 a1 a2
      have hxr := (HB.out.cell (p := ⟨X, 0, none⟩) hXl).trans HXW.out
      have htr := (HB.out.cell (p := ⟨T, 8705, none⟩) hTl).trans HTW.out
      have HDL := hid (del_any X T rest L[i] wr hxr htr hr)
      have HSP := hid (show L = L.take i ++ L[i] :: L.drop (i + 1) by rw [List.getElem_cons_drop, List.take_append_drop])
      have HTK := hid (List.take_succ_eq_append_getElem hiL)
      have hwr := HB.out.size
      obtain ⟨z, hz⟩ : ∃ z, z = L[i] := ⟨_, rfl⟩
      rw [← hz] at a0 a1 a2 HDL HSP HTK
      obtain ⟨lo, hi', cl⟩ := z
      unfold rkv rkT at HDL
      dsimp only at a0 a1 a2 HDL
      have HLI := hid (show (L.take i).length = i by rw [List.length_take]; omega)
      clear hz hxr htr hx ht
      by_cases hc : cl = rest
      · rw [decide_eq_true hc] at HDL
        have HC := hid hc
        clear hc
        go_wp2_with fail
        refine HDL.out.mono ?_
        rintro e w2 ⟨rfl, hb2⟩
        have HB2 := hid (HB.out.trans (hb2.mono hwr))
        clear hb2 HDL
        go_wp2
        go_ret
        exact ⟨HB2.out, .inl ⟨_, _, _, HSP.out, HK.out, HC.out, by rw [HLI.out]; rfl⟩⟩
      · rw [decide_eq_false hc] at HDL
        have HK2 := hid (show nor rest (L.take (i + 1)) from fun x hx => by
          rw [HTK.out] at hx
          rcases List.mem_append.1 hx with hx | hx
          · exact HK.out x hx
          · simp at hx; subst hx; exact hc)
        clear hc
        go_wp2_with fail
        refine HDL.out.mono ?_
        rintro e w2 ⟨rfl, hb2⟩
        have HB2 := hid (HB.out.trans (hb2.mono hwr))
        clear hb2 HDL
        go_wp2
        go_roundw
        case rel => exact ⟨i + 1, by go_num, by omega, HK2, HB2⟩
        case measure => simp [intOf]; omega
    · have i3 : ¬ (i : Int) < (n : Int) := by omega
      have HKE := hid (show nor rest L from fun x hx => HK.out x (by rw [List.take_of_length_le (by have h5 := HN.out; omega)]; exact hx))
      go_wp2
      go_ret
      exact ⟨HB.out, .inr ⟨HKE.out, rfl⟩⟩
end Go.Proofs.Ytljlhlcoaajggaa
