/- The contract of made (package table): the table of rising ranges. -/
import Derived.Test.YtljlhlcoaajggaaJoinedAll
namespace Go.Proofs.Ytljlhlcoaajggaa
open Go.RowKit Go.Maps Go.WideMaps

theorem MkAt.alloc {B M T K : Nat} {fs : List Nat} {U : List (List Nat)} {bv : Value} {rest : Nat} {op : List Nat} {nx : Nat} {w : World} (h : MkAt B M T K fs U bv rest op nx w) (o : Obj) : MkAt B M T K fs U bv rest op nx (w.alloc o) :=
  ⟨(heap_alloc_old w o M (lt_of_heap h.hM)).trans h.hM, (heap_alloc_old w o T (lt_of_heap h.hT)).trans h.hT, h.hK.alloc o, h.hR.alloc o, h.ho, h.hf, h.bM, h.bT, h.bK⟩
theorem MkD.alloc {B M T K rest : Nat} {C : List Nat} {bv : Value} {w : World} (h : MkD B M T K rest C bv w) (o : Obj) : MkD B M T K rest C bv (w.alloc o) := by
  obtain ⟨F, p, op, h1, h2, h3⟩ := h
  exact ⟨F, p, op, h1, h2, h3.alloc o⟩

theorem MkD.lts {B M T K rest : Nat} {C : List Nat} {bv : Value} {w : World} (h : MkD B M T K rest C bv w) : M < w.heap.size ∧ T < w.heap.size ∧ K < w.heap.size ∧ ∀ x, bv.ownBlock = some x → x < w.heap.size := by
  obtain ⟨F, p, op, h1, h2, h3⟩ := h
  exact ⟨lt_of_heap h3.hM, lt_of_heap h3.hT, h3.hK.lt, fun x hx => (h3.hR.lt x hx).2⟩

set_option maxRecDepth 100000 in
set_option maxHeartbeats 3000000 in
theorem made_any (ao : Option Addr) (ac : Nat) (l : List Tr) (r : Nat) (w : World) (ha : RdK w ao (l.map rkT)) (hl : l.length ≤ 100000000) (hr : r < 256) (hR : Ris 0 l) :
    Calls Try.prog 39 #[.slice ao l.length ac, .int .i64 (r : Int)] w fun e w' => e = .returned (.pointer (some ⟨w.heap.size, 0, none⟩)) ∧ (∃ bv, MkD w.heap.size (w.heap.size + 2) w.heap.size (w.heap.size + 1) r (clA r l) bv w') ∧ Below w.heap.size w w' := by
  have HA := hid ha
  have HR := hid hR
  have ewr : IntKind.u8.wrap (r : Int) = (r : Int) := by rw [IntKind.wrap_u8]; omega
  have hst := run_new r w
  have HMC := hid (made_MkC r w)
  have HMB := hid (made_below r w)
  obtain ⟨w1, hw1⟩ : ∃ w1, w1 = wMade r w := ⟨_, rfl⟩
  rw [← hw1] at hst HMC HMB
  have hmm := @run_makeMap Try.prog
  have HZ := hid hw1
  clear hw1 HZ
  clear ha hR
  obtain ⟨B, hBB⟩ : ∃ B, B = w.heap.size := ⟨_, rfl⟩
  have hsz := HMB.out.size
  have HA1 := hid (HA.out.below HMB.out)
  have HBE := hid hBB
  go_enter Try.func39, Try.ntmps39
  go_wp2
  rw [← hBB] at HMC HMB hsz ⊢
  clear hst hmm hBB
  go_loopw [16] (fun n wr => ∃ (i b : Nat) (C : List Nat) (bv : Value), n = .int .i64 (i : Int) ∧ i ≤ l.length ∧ C.length = b ∧ b ≤ 1114112 ∧ Hid (Ris b (l.drop i)) ∧ Hid (C ++ clq r b (l.drop i) = clq r 0 l) ∧ Hid (MkD B (B + 2) B (B + 1) r C bv wr) ∧ Hid (Below B w wr)) (fun n _ => l.length - (intOf n).toNat)
  case atStart => exact ⟨0, 0, [], .slice none 0 0, rfl, by omega, rfl, by omega, HR, by simp [Hid], HMC, HMB⟩
  case round =>
    obtain ⟨i, b, C, bv, rfl, hi, hb, hb2, HRI, HCC, HM, HB⟩ := hrel
    have hbs := HB.out.size
    have hwB : B ≤ wr.heap.size := by have h5 := HBE.out; omega
    obtain ⟨hM, hT, hK, hO⟩ := HM.out.lts
    by_cases hlt : i < l.length
    · obtain ⟨a, rfl, ha, a0, a1, a2⟩ := (HA.out.below (show Below w.heap.size w wr by have h5 := HBE.out; rw [← h5]; exact HB.out)) i (rkT l[i]) (by rw [List.getElem?_map, List.getElem?_eq_getElem hlt]; rfl)
      have hdr : l.drop i = l[i] :: l.drop (i + 1) := List.drop_eq_getElem_cons hlt
      have HCC2 := hid HCC.out
      have hri := HRI.out
      rw [hdr] at hri HCC2
      obtain ⟨r1, r2, r3, r4, r5⟩ := hri
      have HR5 := hid r5
      unfold rkT at a0 a1 a2
      obtain ⟨gx, hx⟩ : ∃ gx, l[i] = gx := ⟨_, rfl⟩
      rw [hx] at a0 a1 a2 HCC2 r1 r2 r3 r4 HR5
      obtain ⟨lo, hi', cl⟩ := gx
      dsimp only at a0 a1 a2 r1 r2 r3 r4 HR5
      have i3 : (i : Int) < (l.length : Int) := by omega
      have ewl : IntKind.i64.wrap (lo : Int) = (lo : Int) := by rw [IntKind.wrap_i64]; omega
      have ewh : IntKind.i64.wrap (hi' : Int) = (hi' : Int) := by rw [IntKind.wrap_i64]; omega
      have ewh1 : IntKind.i64.wrap ((hi' : Int) + 1) = (hi' : Int) + 1 := by rw [IntKind.wrap_i64]; omega
      have ewc : IntKind.u8.wrap (cl : Int) = (cl : Int) := by rw [IntKind.wrap_u8]; omega
      have HMA := hid (HM.out.alloc (.cells #[.int .i32 (lo : Int), .int .i32 (hi' : Int), .int .i64 (cl : Int)] 36))
      have HBA := hid (HB.out.alloc hwB (.cells #[.int .i32 (lo : Int), .int .i32 (hi' : Int), .int .i64 (cl : Int)] 36))
      have hGA := heap_alloc_new wr (.cells #[.int .i32 (lo : Int), .int .i32 (hi' : Int), .int .i64 (cl : Int)] 36)
      have HGA := hid hGA
      have HF1 := hid (fill_any B (B + 2) B (B + 1) r C bv lo r _ HMA.out (by simp; omega) hr (by omega) (by omega))
      have HO := hid hO
      clear hGA hO r5 hx hdr HM
      go_wp2_with fail
      refine HF1.out.mono ?_
      rintro e w2 ⟨bv2, rfl, hd2, hb2', hf2⟩
      have hG2 := (hf2.st wr.heap.size (by simp) (by omega) (by omega) (by omega) (fun e => by have := HO.out _ e; omega)).trans HGA.out
      have x1 : w2.cell? ⟨wr.heap.size, 1, none⟩ = some (.int .i32 (hi' : Int)) := by rw [cell_of_row w2 wr.heap.size 1 _ 36 (0, 0) hG2]; rfl
      have x2 : w2.cell? ⟨wr.heap.size, 2, none⟩ = some (.int .i64 (cl : Int)) := by rw [cell_of_row w2 wr.heap.size 2 _ 36 (0, 0) hG2]; rfl
      have HB2 := hid (HBA.out.trans hb2')
      have HD2 := hid hd2
      have hw2 : B ≤ w2.heap.size := Nat.le_trans (by simp; omega) hf2.sz
      obtain ⟨C2, hC2⟩ : ∃ C2, C2 = C ++ List.replicate (lo - C.length) r := ⟨_, rfl⟩
      have hl2 : C2.length = lo := by rw [hC2, List.length_append, List.length_replicate]; omega
      rw [← hC2] at HD2
      have HF2 := hid (fill_any B (B + 2) B (B + 1) r C2 bv2 (hi' + 1) cl w2 HD2.out hw2 r4 (by omega) (by omega))
      rw [show ((hi' + 1 : Nat) : Int) = (hi' : Int) + 1 from by omega] at HF2
      have HC2 := hid hC2
      have HL2 := hid hl2
      clear hd2 hb2' hf2 hG2 hC2 hl2 HF1 HGA a0 a1 a2
      go_wp2_with fail
      refine HF2.out.mono ?_
      rintro e w3 ⟨bv3, rfl, hd3, hb3, hf3⟩
      have HB3 := hid (HB2.out.trans hb3)
      have HD3 := hid hd3
      have HL3 := hid (show (C2 ++ List.replicate (hi' + 1 - C2.length) cl).length = hi' + 1 by rw [List.length_append, List.length_replicate]; have h5 := HL2.out; omega)
      have HC3 := hid (show (C2 ++ List.replicate (hi' + 1 - C2.length) cl) ++ clq r (hi' + 1) (l.drop (i + 1)) = clq r 0 l by
        rw [← HCC2.out, HL2.out, HC2.out, hb]
        show _ = C ++ (List.replicate (lo - b) r ++ (List.replicate (hi' + 1 - lo) cl ++ clq r (hi' + 1) (l.drop (i + 1))))
        simp only [List.append_assoc])
      clear hd3 hb3 hf3 x1 x2
      go_wp2
      go_roundw
      case rel => exact ⟨i + 1, hi' + 1, _, bv3, by go_num, by omega, HL3.out, by omega, HR5, HC3, HD3, HB3⟩
      case measure => simp [intOf]; omega
    · have HCE := hid (show C = clq r 0 l by have h5 := HCC.out; rw [List.drop_of_length_le (by omega)] at h5; simpa [clq] using h5)
      have HF1 := hid (fill_any B (B + 2) B (B + 1) r C bv 1114112 r wr HM.out hwB hr (by omega) (by omega))
      have hlt' : ¬ (i : Int) < (l.length : Int) := by omega
      go_wp2_with fail
      refine HF1.out.mono ?_
      rintro e w2 ⟨bv2, rfl, hd2, hb2', hf2⟩
      have c0 : w2.cell? ⟨B + 1 + 1, 0, none⟩ = some (.pointer (some ⟨B, 0, none⟩)) := by
        obtain ⟨F, p, op, _, _, h3⟩ := hd2
        exact h3.c0
      have HD2 := hid hd2
      have HB2 := hid (HB.out.trans hb2')
      clear hd2 hb2' hf2
      go_wp2
      go_ret
      have h9 := HBE.out
      subst h9
      exact ⟨rfl, ⟨bv2, by have h5 := HCE.out; unfold clA; rw [← h5]; exact HD2.out⟩, HB2.out⟩
end Go.Proofs.Ytljlhlcoaajggaa
/- A table in memory; the contract of Get (package table) at a rune. -/
namespace Go.Proofs.Ytljlhlcoaajggaa
open Go.RowKit Go.Maps Go.WideMaps

/-- The table of these blocks lies at T. -/
def TbAt (B T : Nat) (F : List (List Nat)) (rest : Nat) (w : World) : Prop :=
  ∃ g cap, w.heap[T]? = some (.cells (tbc (fst F) (.slice (some ⟨g, 0, none⟩) (uq F).length cap) rest).toArray 79 (0, 0)) ∧ w.ownsRow B 82 128 (.slice (some ⟨g, 0, none⟩) (uq F).length cap) (uq F).length ((uq F).flatMap u8n) ∧
    ok128 F ∧ (∀ x ∈ F, ok256 x) ∧ F.length = 8704
theorem tb_of_mk {B M T K rest : Nat} {C : List Nat} {bv : Value} {w : World} (h : MkD B M T K rest C bv w) (hC : C.length = 1114112) : ∃ F, F.flatten = C ∧ TbAt B T F rest w := by
  obtain ⟨F, p, op, h1, h2, h3⟩ := h
  have hl := congrArg List.length h2
  rw [List.length_append, flat_len F h1.a, hC] at hl
  have he := h1.e
  have hd := h1.d
  have hF : F.length = 8704 := by omega
  have hp : p = [] := List.length_eq_zero_iff.1 (by omega)
  subst hp
  rw [List.append_nil] at h2
  refine ⟨F, h2.symm, ?_⟩
  have hfs : fsO F = fst F := by unfold fsO; rw [hF]; simp
  have hr := h3.hR
  rcases hr.2 with ⟨h5, h6⟩ | ⟨g, cap, cur, h5, _⟩
  · exfalso
    have h7 : uq F = [] := List.length_eq_zero_iff.1 h6
    cases F with
    | nil => simp at hF
    | cons b F' =>
      have h8 := (mem_uq (b :: F') b).2 (by simp)
      rw [h7] at h8
      cases h8
  · subst h5
    exact ⟨g, cap, by rw [← hfs]; exact h3.hT, hr, h1.a, h1.b, hF⟩
theorem flat_u8 (U : List (List Nat)) : U.flatMap u8n = u8n U.flatten := by
  induction U with
  | nil => rfl
  | cons b U ih => rw [List.flatMap_cons, ih, List.flatten_cons, u8n_app]
theorem uq_ok {F : List (List Nat)} (h : ok128 F) : ok128 (uq F) := fun b hb => h b ((mem_uq F b).1 hb)
/-- Where a number's class lies. -/
theorem tb_cell {F : List (List Nat)} (h : ok128 F) (hF : F.length = 8704) (R : Nat) (hR : R < 1114112) :
    ∃ k c, (fst F)[R / 128]? = some k ∧ k < (uq F).length ∧ F.flatten[R]? = some c ∧ ((uq F).flatMap u8n)[k * 128 + R % 128]? = some (.int .u8 (c : Int)) := by
  obtain ⟨b, h1, h2⟩ := flat_get F R h (by omega)
  have hb : b ∈ F := List.mem_of_getElem? h1
  have hbl := h b hb
  have hs : R % 128 < b.length := by omega
  refine ⟨ix F b, b[R % 128], ?_, ix_lt hb, ?_, ?_⟩
  · unfold fst
    rw [List.getElem?_map, h1]
    rfl
  · rw [← h2, List.getElem?_eq_getElem hs]
  · rw [flat_u8]
    have hk := ix_lt hb
    obtain ⟨d, h3, h4⟩ := flat_get (uq F) (ix F b * 128 + R % 128) (uq_ok h) (by omega)
    rw [show (ix F b * 128 + R % 128) / 128 = ix F b by omega, ix_get hb] at h3
    cases h3
    rw [show (ix F b * 128 + R % 128) % 128 = R % 128 by omega, List.getElem?_eq_getElem hs] at h4
    unfold u8n
    rw [List.getElem?_map, ← h4]
    rfl

set_option maxRecDepth 100000 in
set_option maxHeartbeats 1000000 in
theorem get_any (B T rest : Nat) (F : List (List Nat)) (R : Nat) (w : World) (h : TbAt B T F rest w) (hR : R < 1114112) :
    Calls Try.prog 34 #[.pointer (some ⟨T, 0, none⟩), .int .i32 (R : Int)] w fun e w' => e = .returned (.int .i64 ((F.flatten.getD R 0 : Nat) : Int)) ∧ ∃ n, w' = w.drewN n := by
  obtain ⟨g, cap, hT, hr, ho, h8, hF⟩ := h
  obtain ⟨k, c, hk, hkl, hc, hcc⟩ := tb_cell ho hF R hR
  obtain ⟨s, hs⟩ : ∃ s, s = R % 128 := ⟨_, rfl⟩
  obtain ⟨q, hq⟩ : ∃ q, q = R / 128 := ⟨_, rfl⟩
  have hs1 : s < 128 := by omega
  have hq1 : q < 8704 := by omega
  have e1 : (R : Int).tdiv 128 = (q : Int) := by rw [Int.tdiv_eq_ediv_of_nonneg (by omega)]; omega
  have e2 : (R : Int).tmod 128 = (s : Int) := by rw [Int.tmod_eq_emod_of_nonneg (by omega)]; omega
  have e3 : IntKind.i32.wrap (q : Int) = (q : Int) := by rw [IntKind.wrap_i32]; omega
  rw [← hs] at hcc
  rw [← hq] at hk
  have hg : F.flatten.getD R 0 = c := by rw [List.getD, hc]; rfl
  rw [hg]
  have hu8 : c < 256 := by
    have h9 := List.mem_of_getElem? hc
    obtain ⟨b, hb, hcb⟩ := List.mem_flatten.1 h9
    exact h8 b hb c hcb
  have e4 : IntKind.i64.wrap (c : Int) = (c : Int) := by rw [IntKind.wrap_i64]; omega
  have n1 : ¬ (R : Int) < 0 := by omega
  have n2 : ¬ (1114111 : Int) < (R : Int) := by omega
  have p0 : (0 : Int) ≤ (q : Int) := by omega
  have p1 : (q : Int) < 8704 := by omega
  have p2 : (0 : Int) ≤ (s : Int) := by omega
  have p3 : (s : Int) < 128 := by omega
  obtain ⟨L, hL⟩ : ∃ L, L = (uq F).length := ⟨_, rfl⟩
  rw [← hL] at hr hT hkl
  have p4 : (0 : Int) ≤ (k : Int) := by omega
  have p5 : (k : Int) < (L : Int) := by omega
  have d1 : w.cell? ⟨T, 8704, none⟩ = some (.slice (some ⟨g, 0, none⟩) L cap) := tb_row hT (by rw [fst_len]; exact hF)
  have d2 : w.cell? ⟨T, q, none⟩ = some (.int .u16 (k : Int)) := cell_row w T q _ 79 _ hT (by
    unfold tbc u16n
    have hql : q < (fst F).length := by rw [fst_len, hF]; exact hq1
    rw [List.getElem?_append_left (by rw [List.length_map]; exact hql), List.getElem?_map, hk]
    rfl)
  have d3 : w.cell? ⟨g, k * 128 + s, none⟩ = some (.int .u8 (c : Int)) := by rw [hr.cellAt (k * 128 + s) (by omega)]; exact hcc
  clear hs hq hk hc hcc hg hL hr hT ho h8 hF
  go_enter Try.func34, Try.ntmps34
  go_wp2
  go_quiet (fail)
  go_wp2
  go_ret
  exact ⟨rfl, nq, rfl⟩
end Go.Proofs.Ytljlhlcoaajggaa
/- The contracts of Get (where there is no rune), Rest and Blocks (package table). -/
namespace Go.Proofs.Ytljlhlcoaajggaa
open Go.RowKit Go.Maps Go.WideMaps

theorem rest_row {w : World} {T rest : Nat} {fs : List Nat} {bv : Value} (h : w.heap[T]? = some (.cells (tbc fs bv rest).toArray 79 (0, 0))) (hf : fs.length = 8704) : w.cell? ⟨T, 8705, none⟩ = some (.int .u8 (rest : Int)) := cell_row w T 8705 _ 79 _ h (by
  have hl : (u16n fs).length = 8704 := by rw [u16n_len, hf]
  unfold tbc
  rw [List.getElem?_append_right (by omega), hl]
  rfl)
theorem TbAt.rest_cell {B T rest : Nat} {F : List (List Nat)} {w : World} (h : TbAt B T F rest w) : w.cell? ⟨T, 8705, none⟩ = some (.int .u8 (rest : Int)) := by
  obtain ⟨g, cap, hT, hr, ho, h8, hF⟩ := h
  exact rest_row hT (by rw [fst_len]; exact hF)
theorem get_out (B T rest : Nat) (F : List (List Nat)) (x : Int) (w : World) (h : TbAt B T F rest w) (hr : rest < 256) (hx : x < 0 ∨ 1114111 < x) :
    Calls Try.prog 34 #[.pointer (some ⟨T, 0, none⟩), .int .i32 x] w fun e w' => e = .returned (.int .i64 (rest : Int)) ∧ w' = w := by
  have d1 := h.rest_cell
  have e4 : IntKind.i64.wrap (rest : Int) = (rest : Int) := by rw [IntKind.wrap_i64]; omega
  clear h
  by_cases h0 : x < 0
  · clear hx
    go_enter Try.func34, Try.ntmps34
    go_wp2
    go_ret
    exact ⟨rfl, rfl⟩
  · have h1 : 1114111 < x := by omega
    clear hx
    go_enter Try.func34, Try.ntmps34
    go_wp2
    go_ret
    exact ⟨rfl, rfl⟩
theorem rest_any (B T rest : Nat) (F : List (List Nat)) (w : World) (h : TbAt B T F rest w) (hr : rest < 256) :
    Calls Try.prog 33 #[.pointer (some ⟨T, 0, none⟩)] w fun e w' => e = .returned (.int .i64 (rest : Int)) ∧ w' = w := by
  have d1 := h.rest_cell
  have e4 : IntKind.i64.wrap (rest : Int) = (rest : Int) := by rw [IntKind.wrap_i64]; omega
  clear h
  go_enter Try.func33, Try.ntmps33
  go_wp2
  go_ret
  exact ⟨rfl, rfl⟩
theorem blocks_any (B T rest : Nat) (F : List (List Nat)) (w : World) (h : TbAt B T F rest w) :
    Calls Try.prog 15 #[.pointer (some ⟨T, 0, none⟩)] w fun e w' => e = .returned (.int .i64 ((uq F).length : Int)) ∧ w' = w := by
  obtain ⟨g, cap, hT, hr, ho, h8, hF⟩ := h
  have d1 : w.cell? ⟨T, 8704, none⟩ = some (.slice (some ⟨g, 0, none⟩) (uq F).length cap) := tb_row hT (by rw [fst_len]; exact hF)
  clear hT hr
  go_enter Try.func15, Try.ntmps15
  go_wp2
  go_ret
  exact ⟨rfl, rfl⟩
end Go.Proofs.Ytljlhlcoaajggaa
