/- The contract of made (package table): the table of rising ranges. -/
import Derived.Test.YtljlhlcoaajggaaMade4
namespace Go.Proofs.Ytljlhlcoaajggaa
open Go.RowKit Go.Maps Go.WideMaps

theorem MkAt.alloc {B M T K : Nat} {fs : List Nat} {U : List (List Nat)} {bv : Value} {rest : Nat} {op : List Nat} {nx : Nat} {w : World} (h : MkAt B M T K fs U bv rest op nx w) (o : Obj) : MkAt B M T K fs U bv rest op nx (w.alloc o) :=
  ⟨(heap_alloc_old w o M (lt_of_heap h.hM)).trans h.hM, (heap_alloc_old w o T (lt_of_heap h.hT)).trans h.hT, h.hK.alloc o, h.hR.alloc o, h.ho, h.hf, h.bM, h.bT, h.bK⟩
theorem MkD.alloc {B M T K rest : Nat} {C : List Nat} {bv : Value} {w : World} (h : MkD B M T K rest C bv w) (o : Obj) : MkD B M T K rest C bv (w.alloc o) := by
  obtain ⟨F, p, op, h1, h2, h3⟩ := h
  exact ⟨F, p, op, h1, h2, h3.alloc o⟩

theorem MkD.lts {B M T K rest : Nat} {C : List Nat} {bv : Value} {w : World} (h : MkD B M T K rest C bv w) : M < w.heap.size ∧ T < w.heap.size ∧ K < w.heap.size ∧ ∀ x, bv.ownBlock = some x → x < w.heap.size := by
  obtain ⟨F, p, op, h1, h2, h3⟩ := h
  exact ⟨lt_of_heap h3.hM, lt_of_heap h3.hT, h3.hK.lt, fun x hx => (h3.hR.lt x hx).2⟩

set_option maxRecDepth 100000 in
set_option maxHeartbeats 3000000 in
theorem made_any (ao : Option Addr) (ac : Nat) (l : List Tr) (r : Nat) (w : World) (ha : RdK w ao (l.map rkT)) (hl : l.length ≤ 100000000) (hr : r < 256) (hR : Ris 0 l) :
    Calls Try.prog 39 #[.slice ao l.length ac, .int .i64 (r : Int)] w fun e w' => e = .returned (.pointer (some ⟨w.heap.size, 0, none⟩)) ∧ (∃ bv, MkD w.heap.size (w.heap.size + 2) w.heap.size (w.heap.size + 1) r (clA r l) bv w') ∧ Below w.heap.size w w' := by
  have HA := hid ha
  have HR := hid hR
  have ewr : IntKind.u8.wrap (r : Int) = (r : Int) := by rw [IntKind.wrap_u8]; omega
  have hst := run_new r w
  have HMC := hid (made_MkC r w)
  have HMB := hid (made_below r w)
  obtain ⟨w1, hw1⟩ : ∃ w1, w1 = wMade r w := ⟨_, rfl⟩
  rw [← hw1] at hst HMC HMB
  have hmm := @run_makeMap Try.prog
  have HZ := hid hw1
  clear hw1 HZ
  clear ha hR
  obtain ⟨B, hBB⟩ : ∃ B, B = w.heap.size := ⟨_, rfl⟩
  have hsz := HMB.out.size
  have HA1 := hid (HA.out.below HMB.out)
  have HBE := hid hBB
  go_enter Try.func39, Try.ntmps39
  go_wp2
  rw [← hBB] at HMC HMB hsz ⊢
  clear hst hmm hBB
  go_loopw [16] (fun n wr => ∃ (i b : Nat) (C : List Nat) (bv : Value), n = .int .i64 (i : Int) ∧ i ≤ l.length ∧ C.length = b ∧ b ≤ 1114112 ∧ Hid (Ris b (l.drop i)) ∧ Hid (C ++ clq r b (l.drop i) = clq r 0 l) ∧ Hid (MkD B (B + 2) B (B + 1) r C bv wr) ∧ Hid (Below B w wr)) (fun n _ => l.length - (intOf n).toNat)
  case atStart => exact ⟨0, 0, [], .slice none 0 0, rfl, by omega, rfl, by omega, HR, by simp [Hid], HMC, HMB⟩
  case round =>
    obtain ⟨i, b, C, bv, rfl, hi, hb, hb2, HRI, HCC, HM, HB⟩ := hrel
    have hbs := HB.out.size
    have hwB : B ≤ wr.heap.size := by have h5 := HBE.out; omega
    obtain ⟨hM, hT, hK, hO⟩ := HM.out.lts
    by_cases hlt : i < l.length
    · obtain ⟨a, rfl, ha, a0, a1, a2⟩ := (HA.out.below (show Below w.heap.size w wr by have h5 := HBE.out; rw [← h5]; exact HB.out)) i (rkT l[i]) (by rw [List.getElem?_map, List.getElem?_eq_getElem hlt]; rfl)
      have hdr : l.drop i = l[i] :: l.drop (i + 1) := List.drop_eq_getElem_cons hlt
      have HCC2 := hid HCC.out
      have hri := HRI.out
      rw [hdr] at hri HCC2
      obtain ⟨r1, r2, r3, r4, r5⟩ := hri
      have HR5 := hid r5
      unfold rkT at a0 a1 a2
      obtain ⟨gx, hx⟩ : ∃ gx, l[i] = gx := ⟨_, rfl⟩
      rw [hx] at a0 a1 a2 HCC2 r1 r2 r3 r4 HR5
      obtain ⟨lo, hi', cl⟩ := gx
      dsimp only at a0 a1 a2 r1 r2 r3 r4 HR5
      have i3 : (i : Int) < (l.length : Int) := by omega
      have ewl : IntKind.i64.wrap (lo : Int) = (lo : Int) := by rw [IntKind.wrap_i64]; omega
      have ewh : IntKind.i64.wrap (hi' : Int) = (hi' : Int) := by rw [IntKind.wrap_i64]; omega
      have ewh1 : IntKind.i64.wrap ((hi' : Int) + 1) = (hi' : Int) + 1 := by rw [IntKind.wrap_i64]; omega
      have ewc : IntKind.u8.wrap (cl : Int) = (cl : Int) := by rw [IntKind.wrap_u8]; omega
      have HMA := hid (HM.out.alloc (.cells #[.int .i32 (lo : Int), .int .i32 (hi' : Int), .int .i64 (cl : Int)] 36))
      have HBA := hid (HB.out.alloc hwB (.cells #[.int .i32 (lo : Int), .int .i32 (hi' : Int), .int .i64 (cl : Int)] 36))
      have hGA := heap_alloc_new wr (.cells #[.int .i32 (lo : Int), .int .i32 (hi' : Int), .int .i64 (cl : Int)] 36)
      have HGA := hid hGA
      have HF1 := hid (fill_any B (B + 2) B (B + 1) r C bv lo r _ HMA.out (by simp; omega) hr (by omega) (by omega))
      have HO := hid hO
      clear hGA hO r5 hx hdr HM
      go_wp2_with fail
      refine HF1.out.mono ?_
      rintro e w2 ⟨bv2, rfl, hd2, hb2', hf2⟩
      have hG2 := (hf2.st wr.heap.size (by simp) (by omega) (by omega) (by omega) (fun e => by have := HO.out _ e; omega)).trans HGA.out
      have x1 : w2.cell? ⟨wr.heap.size, 1, none⟩ = some (.int .i32 (hi' : Int)) := by rw [cell_of_row w2 wr.heap.size 1 _ 36 (0, 0) hG2]; rfl
      have x2 : w2.cell? ⟨wr.heap.size, 2, none⟩ = some (.int .i64 (cl : Int)) := by rw [cell_of_row w2 wr.heap.size 2 _ 36 (0, 0) hG2]; rfl
      have HB2 := hid (HBA.out.trans hb2')
      have HD2 := hid hd2
      have hw2 : B ≤ w2.heap.size := Nat.le_trans (by simp; omega) hf2.sz
      obtain ⟨C2, hC2⟩ : ∃ C2, C2 = C ++ List.replicate (lo - C.length) r := ⟨_, rfl⟩
      have hl2 : C2.length = lo := by rw [hC2, List.length_append, List.length_replicate]; omega
      rw [← hC2] at HD2
      have HF2 := hid (fill_any B (B + 2) B (B + 1) r C2 bv2 (hi' + 1) cl w2 HD2.out hw2 r4 (by omega) (by omega))
      rw [show ((hi' + 1 : Nat) : Int) = (hi' : Int) + 1 from by omega] at HF2
      have HC2 := hid hC2
      have HL2 := hid hl2
      clear hd2 hb2' hf2 hG2 hC2 hl2 HF1 HGA a0 a1 a2
      go_wp2_with fail
      refine HF2.out.mono ?_
      rintro e w3 ⟨bv3, rfl, hd3, hb3, hf3⟩
      have HB3 := hid (HB2.out.trans hb3)
      have HD3 := hid hd3
      have HL3 := hid (show (C2 ++ List.replicate (hi' + 1 - C2.length) cl).length = hi' + 1 by rw [List.length_append, List.length_replicate]; have h5 := HL2.out; omega)
      have HC3 := hid (show (C2 ++ List.replicate (hi' + 1 - C2.length) cl) ++ clq r (hi' + 1) (l.drop (i + 1)) = clq r 0 l by
        rw [← HCC2.out, HL2.out, HC2.out, hb]
        show _ = C ++ (List.replicate (lo - b) r ++ (List.replicate (hi' + 1 - lo) cl ++ clq r (hi' + 1) (l.drop (i + 1))))
        simp only [List.append_assoc])
      clear hd3 hb3 hf3 x1 x2
      go_wp2
      go_roundw
      case rel => exact ⟨i + 1, hi' + 1, _, bv3, by go_num, by omega, HL3.out, by omega, HR5, HC3, HD3, HB3⟩
      case measure => simp [intOf]; omega
    · have HCE := hid (show C = clq r 0 l by have h5 := HCC.out; rw [List.drop_of_length_le (by omega)] at h5; simpa [clq] using h5)
      have HF1 := hid (fill_any B (B + 2) B (B + 1) r C bv 1114112 r wr HM.out hwB hr (by omega) (by omega))
      have hlt' : ¬ (i : Int) < (l.length : Int) := by omega
      go_wp2_with fail
      refine HF1.out.mono ?_
      rintro e w2 ⟨bv2, rfl, hd2, hb2', hf2⟩
      have c0 : w2.cell? ⟨B + 1 + 1, 0, none⟩ = some (.pointer (some ⟨B, 0, none⟩)) := by
        obtain ⟨F, p, op, _, _, h3⟩ := hd2
        exact h3.c0
      have HD2 := hid hd2
      have HB2 := hid (HB.out.trans hb2')
      clear hd2 hb2' hf2
      go_wp2
      go_ret
      have h9 := HBE.out
      subst h9
      exact ⟨rfl, ⟨bv2, by have h5 := HCE.out; unfold clA; rw [← h5]; exact HD2.out⟩, HB2.out⟩
end Go.Proofs.Ytljlhlcoaajggaa
