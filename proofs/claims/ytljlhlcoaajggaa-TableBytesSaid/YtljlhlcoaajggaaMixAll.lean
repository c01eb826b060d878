/- The contract of put (package kerfref03), and what it leaves alone. -/
import Derived.Test.YtljlhlcoaajggaaRGet
import Derived.Test.YtljlhlcoaajggaaBytesAll
import Derived.Deep.RegionHeld3
import Derived.Test.YtljlhlcoaajggaaHeldInAll
namespace Go.Proofs.Ytljlhlcoaajggaa
open Go.RowKit

set_option maxRecDepth 100000 in
set_option maxHeartbeats 3000000 in
theorem put_far (B : Nat) (v : Value) (T : List Nat) (n : Nat) (w : World) (h : w.ownsRow B 5 1 v T.length (u8n T)) (hB : B ≤ w.heap.size) (hT : T.length ≤ 100000000) (hn : n ≤ 100000000) :
    Calls Try.prog 61 #[v, .int .i64 (n : Int)] w fun e w' => ∃ v', e = .returned v' ∧ w'.ownsRow B 5 1 v' (T ++ vn n).length (u8n (T ++ vn n)) ∧ Below B w w' ∧ Oth v w w' ∧ Fro v w v' := by
  obtain ⟨i0, hi, hz0, hz1, hz2⟩ := info_parts Try.info5
  have HO0 := hid h
  clear h
  go_enter Try.func61, Try.ntmps61
  go_wp2
  go_loopw [0, 1] (fun x y wr => ∃ (U : List Nat) (m : Nat), y = .int .i64 (m : Int) ∧ m ≤ n ∧ U.length + m ≤ T.length + n ∧ Hid (wr.ownsRow B 5 1 x U.length (u8n U)) ∧ Hid (T ++ vn n = U ++ vn m) ∧ Hid (Below B w wr) ∧ Hid (Oth v w wr) ∧ Hid (Fro v w x)) (fun _ y _ => (intOf y).toNat)
  case atStart => exact ⟨T, n, rfl, Nat.le_refl _, Nat.le_refl _, HO0, rfl, Below.refl _ _, fun _ _ _ => rfl, Or.inl rfl⟩
  case round =>
    obtain ⟨U, m, rfl, hm, hU, HO, HE, HB, HT, HF⟩ := hrel
    have hwB := HB.out.size
    by_cases c : 128 ≤ m
    · have c' : (128 : Int) ≤ (m : Int) := by omega
      have HV := hid (vn_more m c)
      obtain ⟨d, hd⟩ : ∃ d, d = m % 128 + 128 := ⟨_, rfl⟩
      rw [← hd] at HV
      have hd2 : d < 256 := by omega
      have HD := hid (show (m : Int) % 128 + 128 = (d : Int) by omega)
      clear hd
      go_wp2_with (at_builtin; refine wpList_append_lies _ rfl _ _ 58 rfl B 5 i0 (.int .u8 0) 1 1 Try.underlying58 hi hz0 hz1 hz2 rfl (by decide) _ U.length (u8n U) rfl (HO.out.alloc _) ⟨wr.heap.size, 0, none⟩ 1 1 [.int .u8 ((m : Int) % 128 + 128)] rfl rfl (cell_one_new _ _ _) (by simp [Value.oneCell']) (by decide) (by unfold maxLen; omega) (by omega) (by simp; omega) (wr.heap.size + 1) (by simp) ?_; intro q0 c0 w0 o0 gr0 hlie hlt0)
      rw [HD.out] at o0
      go_roundw
      case rel =>
        refine ⟨U ++ [d], m / 128, congrArg (Value.int .i64) (by omega), by omega, by simp; omega, ?_, ?_, ?_, ?_, ?_⟩
        · rw [u8n_app, List.length_append]; exact o0
        · rw [HE.out, HV.out]; simp [Hid]
        · exact ((HB.out.alloc (by omega) _).grown gr0 (by simp; omega) (fun k hk => (HO.out.lt k hk).1))
        · exact oth_step HT.out HF.out gr0 hwB
        · exact fro_step HF.out hlie hwB
      case measure => simp [intOf]; omega
    · have c' : ¬ (128 : Int) ≤ (m : Int) := by omega
      have e1 : IntKind.u8.wrap (m : Int) = (m : Int) := by rw [IntKind.wrap_u8]; omega
      have HV := hid (vn_last m c)
      go_wp2_with (at_builtin; refine wpList_append_lies _ rfl _ _ 58 rfl B 5 i0 (.int .u8 0) 1 1 Try.underlying58 hi hz0 hz1 hz2 rfl (by decide) _ U.length (u8n U) rfl (HO.out.alloc _) ⟨wr.heap.size, 0, none⟩ 1 1 [.int .u8 (m : Int)] rfl rfl (cell_one_new _ _ _) (by simp [Value.oneCell']) (by decide) (by unfold maxLen; omega) (by omega) (by simp; omega) (wr.heap.size + 1) (by simp) ?_; intro q0 c0 w0 o0 gr0 hlie hlt0)
      go_ret
      refine ⟨_, rfl, ?_, ?_, ?_, ?_⟩
      · have h9 : w0.ownsRow B 5 1 (.slice (some ⟨q0, 0, none⟩) (U.length + 1) c0) (T ++ vn n).length (u8n (T ++ vn n)) := by rw [HE.out, HV.out, u8n_app, List.length_append]; exact o0
        rw [List.length_append] at h9
        exact h9
      · exact ((HB.out.alloc (by omega) _).grown gr0 (by simp; omega) (fun k hk => (HO.out.lt k hk).1))
      · exact oth_step HT.out HF.out gr0 hwB
      · exact fro_step HF.out hlie hwB
set_option maxHeartbeats 4000000 in
set_option maxRecDepth 100000 in
theorem rbytes_any (B' P : Nat) (L : List Tr) (r : Nat) (w : World) (h : RtAt B' P L r w) (hr : r < 256) (hR : Ris 0 L) :
    Calls Try.prog 31 #[.pointer (some ⟨P, 0, none⟩)] w fun e w' => ∃ v', e = .returned v' ∧ w'.ownsRow w.heap.size 5 1 v' (enb r L).length (u8n (enb r L)) ∧ Below w.heap.size w w' := by
  obtain ⟨i0, hi, hz0, hz1, hz2⟩ := info_parts Try.info5
  obtain ⟨ao, ac, d0, d1, hP, ho⟩ := h.row
  have HR0 := hid hR
  have hn9 := ris_len L 0 (by omega) hR
  obtain ⟨n, hn⟩ : ∃ n, n = L.length := ⟨_, rfl⟩
  have HN := hid hn
  rw [← hn] at hn9 d0
  obtain ⟨B, hB⟩ : ∃ B, B = w.heap.size := ⟨_, rfl⟩
  have HBE := hid hB
  have HLB := hid (fun W (hW : Below B w W) => (rd_own ho).below (show Below w.heap.size w W by rw [← hB]; exact hW))
  rw [← hB] at hP ⊢
  have HPC := hid (show ∀ w', Below B w w' → w'.cell? ⟨P, 0, none⟩ = some (.slice ao n ac) ∧ w'.cell? ⟨P, 1, none⟩ = some (.int .i64 (r : Int)) from fun W hW => ⟨(hW.cell (p := ⟨P, 0, none⟩) hP).trans d0, (hW.cell (p := ⟨P, 1, none⟩) hP).trans d1⟩)
  have er : IntKind.u8.wrap (r : Int) = (r : Int) := by rw [IntKind.wrap_u8]; omega
  have HDR := hid (show Below B w w.drew from ⟨rfl, rfl, rfl, Nat.le_refl _, fun _ _ => rfl⟩)
  obtain ⟨w1, hw1⟩ : ∃ w1, w1 = w.drew := ⟨_, rfl⟩
  have hs1 : w1.heap.size = B := by rw [hw1, hB]; rfl
  rw [← hw1] at HDR
  have HO0 := hid (show (w1.alloc (.cells #[.int .u8 (r : Int)] 5)).ownsRow B 5 1 (.slice (some ⟨w1.heap.size, 0, none⟩) 1 1) 1 (u8n [r]) from World.ownsRow_lit w1 #[.int .u8 (r : Int)] 1 (by omega) (by decide) rfl)
  have HA0 := hid (HDR.out.alloc (show B ≤ w1.heap.size by omega) (.cells #[.int .u8 (r : Int)] 5))
  have HWN := hid (put_far B (.slice (some ⟨w1.heap.size, 0, none⟩) 1 1) [r] n _ HO0.out (by simp; omega) (by simp) (by omega))
  have HS0 := hid (show ([r] ++ vn n) ++ enL 0 (L.drop 0) = enb r L by unfold enb; rw [← HN.out]; rfl)
  have HL0 := hid (show ([r] ++ vn n).length ≤ 4 + 7 * 0 by have := vn3 n (by omega); rw [List.length_append]; simp; omega)
  have HSA := hid (HPC.out _ HA0.out)
  rw [hw1] at HWN HA0 HSA
  clear h ho hn hB hR HO0 hs1 hw1
  go_enter Try.func31, Try.ntmps31
  go_wp2_with fail
  go_region_held3 (fun w' => w'.cell? ⟨P, 0, none⟩ = some (.slice ao n ac) ∧ w'.cell? ⟨P, 1, none⟩ = some (.int .i64 (r : Int))) (first | exact HSA.out | exact HS2.out | go_keep) ((go_at_call 61; refine HWN.out.mono ?_; rintro e w2 ⟨v2, rfl, o2, b2, _, _⟩; have HO2 := hid o2; have HB2 := hid (HA0.out.trans b2); have HS2 := hid (HPC.out w2 HB2.out)))
  clear o2 b2 HWN d0 d1
  go_wp2
  go_loopw [5, 3, 4] (fun x y z wr => ∃ (i nx : Nat) (U : List Nat) (v : Value), x = .int .i64 (i : Int) ∧ y = v ∧ z = .int .i32 (nx : Int) ∧ i ≤ n ∧ nx ≤ 1114112 ∧ Hid (Ris nx (L.drop i)) ∧ Hid (U ++ enL nx (L.drop i) = enb r L) ∧ Hid (U.length ≤ 4 + 7 * i) ∧ Hid (wr.ownsRow B 5 1 v U.length (u8n U)) ∧ Hid (Below B w wr)) (fun x _ _ _ => n - (intOf x).toNat)
  case atStart => exact ⟨0, 0, [r] ++ vn n, v2, rfl, rfl, rfl, by omega, by omega, HR0, HS0, HL0, HO2, HB2⟩
  case round =>
    obtain ⟨i, nx, U, v, rfl, hv, rfl, hi', hnx, HRI, HEQ, HUL, HOU, HBU⟩ := hrel
    obtain rfl := hv.symm
    have hbu := HBU.out.size
    have hwB : B ≤ wr.heap.size := by have h5 := HBE.out; omega
    obtain ⟨p0, p1⟩ := HPC.out wr HBU.out
    by_cases hlt : i < n
    · have hiL : i < L.length := by have h5 := HN.out; omega
      obtain ⟨a, rfl, ha, a0, a1, a2⟩ := (HLB.out wr HBU.out) i (rkT L[i]) (by rw [List.getElem?_map, List.getElem?_eq_getElem hiL]; rfl)
      have hdr : L.drop i = L[i] :: L.drop (i + 1) := List.drop_eq_getElem_cons hiL
      rw [hdr] at HRI HEQ
      obtain ⟨r1, r2, r3, r4, r5⟩ := HRI.out
      have HR5 := hid r5
      unfold rkT at a0 a1 a2
      obtain ⟨gx, hx⟩ : ∃ gx, L[i] = gx := ⟨_, rfl⟩
      rw [hx] at a0 a1 a2 HEQ r1 r2 r3 r4 HR5
      obtain ⟨lo, hh, cl⟩ := gx
      dsimp only at a0 a1 a2 r1 r2 r3 r4 HR5
      change Hid (U ++ (vn (lo - nx) ++ (vn (hh - lo) ++ (cl :: enL (hh + 1) (L.drop (i + 1))))) = enb r L) at HEQ
      obtain ⟨d1, hd1⟩ : ∃ d1, d1 = lo - nx := ⟨_, rfl⟩
      obtain ⟨d2, hd2⟩ : ∃ d2, d2 = hh - lo := ⟨_, rfl⟩
      rw [← hd1, ← hd2] at HEQ
      have e1 : IntKind.i32.wrap ((lo : Int) - (nx : Int)) = (d1 : Int) := by rw [IntKind.wrap_i32]; omega
      have e2 : IntKind.i64.wrap (d1 : Int) = (d1 : Int) := by rw [IntKind.wrap_i64]; omega
      have e3 : IntKind.i32.wrap ((hh : Int) - (lo : Int)) = (d2 : Int) := by rw [IntKind.wrap_i32]; omega
      have e4 : IntKind.i64.wrap (d2 : Int) = (d2 : Int) := by rw [IntKind.wrap_i64]; omega
      have e5 : IntKind.u8.wrap (cl : Int) = (cl : Int) := by rw [IntKind.wrap_u8]; omega
      have e6 : IntKind.i32.wrap ((hh : Int) + 1) = ((hh + 1 : Nat) : Int) := by rw [IntKind.wrap_i32]; omega
      have hd1l : d1 ≤ 1114112 := by omega
      have hd2l : d2 ≤ 1114112 := by omega
      have i3 : (i : Int) < (n : Int) := by omega
      have hul := HUL.out
      have HV1 := hid (vn3 d1 (by omega))
      have HV2 := hid (vn3 d2 (by omega))
      have HBA := hid (HBU.out.alloc hwB (.cells #[.int .i32 (lo : Int), .int .i32 (hh : Int), .int .i64 (cl : Int)] 36))
      have HGA := hid (heap_alloc_new wr (.cells #[.int .i32 (lo : Int), .int .i32 (hh : Int), .int .i64 (cl : Int)] 36))
      have HW1 := hid (put_far B v U d1 (wr.alloc (.cells #[.int .i32 (lo : Int), .int .i32 (hh : Int), .int .i64 (cl : Int)] 36)) (HOU.out.alloc _) (by simp; omega) (by omega) (by omega))
      clear hx hdr r5 hd1 hd2
      go_wp2_with fail
      refine HW1.out.mono ?_
      rintro e w3 ⟨v3, rfl, o3, b3, t3, f3⟩
      have hs3 := b3.size
      simp only [World.size_alloc] at hs3
      have hG3 := (t3 wr.heap.size (by simp) (fun e => by have := (HOU.out.lt _ e).2; omega)).trans HGA.out
      have x0 : w3.cell? ⟨wr.heap.size, 0, none⟩ = some (.int .i32 (lo : Int)) := by rw [cell_of_row w3 wr.heap.size 0 _ 36 (0, 0) hG3]; rfl
      have x1 : w3.cell? ⟨wr.heap.size, 1, none⟩ = some (.int .i32 (hh : Int)) := by rw [cell_of_row w3 wr.heap.size 1 _ 36 (0, 0) hG3]; rfl
      have HB3 := hid (HBA.out.trans b3)
      have HG3 := hid hG3
      have HNE3 := hid (f3.ne HOU.out (Nat.le_refl _) (by simp))
      have HW2 := hid (put_far B v3 (U ++ vn d1) d2 w3 o3 (by omega) (by rw [List.length_append]; have h5 := HV1.out; omega) (by omega))
      have HO3 := hid o3
      clear o3 b3 t3 f3 HW1 HGA hG3
      go_wp2_with fail
      refine HW2.out.mono ?_
      rintro e w4 ⟨v4, rfl, o4, b4, t4, f4⟩
      have hs4 := b4.size
      have hG4 := (t4 wr.heap.size (by omega) HNE3.out).trans HG3.out
      have y1 : w4.cell? ⟨wr.heap.size, 1, none⟩ = some (.int .i32 (hh : Int)) := by rw [cell_of_row w4 wr.heap.size 1 _ 36 (0, 0) hG4]; rfl
      have y2 : w4.cell? ⟨wr.heap.size, 2, none⟩ = some (.int .i64 (cl : Int)) := by rw [cell_of_row w4 wr.heap.size 2 _ 36 (0, 0) hG4]; rfl
      have HB4 := hid (HB3.out.trans b4)
      have HO4 := hid o4
      have HG4 := hid hG4
      have HNE4 := hid (show v4.ownBlock ≠ some wr.heap.size from fun hk => by
        rcases f4 with f4 | f4
        · exact HNE3.out (by rw [← f4]; exact hk)
        · have := f4 _ hk; omega)
      have hl4 : (U ++ vn d1 ++ vn d2).length ≤ 10 + 7 * i := by rw [List.length_append, List.length_append]; have h5 := HV1.out; have h6 := HV2.out; omega
      obtain ⟨U4, hU4⟩ : ∃ U4, U4 = U ++ vn d1 ++ vn d2 := ⟨_, rfl⟩
      rw [← hU4] at HO4 hl4
      have HU4 := hid hU4
      clear o4 b4 t4 f4 HW2 hG4 x0 x1 hU4
      go_wp2_with (at_builtin; refine wpList_append_lies _ rfl _ _ 58 rfl B 5 i0 (.int .u8 0) 1 1 Try.underlying58 hi hz0 hz1 hz2 rfl (by decide) _ U4.length (u8n U4) rfl (HO4.out.alloc _) ⟨w4.heap.size, 0, none⟩ 1 1 [.int .u8 (cl : Int)] rfl rfl (cell_one_new _ _ _) (by simp [Value.oneCell']) (by decide) (by unfold maxLen; omega) (by omega) (by simp; omega) (w4.heap.size + 1) (by simp) ?_; intro q5 c5 w5 o5 gr5 hlie5 hlt5; have z1 : w5.cell? ⟨wr.heap.size, 1, none⟩ = some (.int .i32 (hh : Int)) := (World.cell?_of_block (gr5.block wr.heap.size (by simp; omega) (fun e => HNE4.out e.symm))).trans ((World.cell?_of_block (show (w4.alloc (.cells #[.int .u8 (cl : Int)] 5)).heap[wr.heap.size]? = w4.heap[wr.heap.size]? by show (w4.heap.push _)[wr.heap.size]? = _; rw [Array.getElem?_push, if_neg (by omega)])).trans y1))
      have HB5 := hid ((HB4.out.alloc (by omega) (.cells #[.int .u8 (cl : Int)] 5)).grown gr5 (by simp; omega) (fun k hk => (HO4.out.lt k hk).1))
      have HO5 := hid (show w5.ownsRow B 5 1 (.slice (some ⟨q5, 0, none⟩) (U4.length + 1) c5) (U4 ++ [cl]).length (u8n (U4 ++ [cl])) by rw [u8n_app, List.length_append]; exact o5)
      have HE5 := hid (show (U4 ++ [cl]) ++ enL (hh + 1) (L.drop (i + 1)) = enb r L by rw [← HEQ.out, HU4.out]; simp)
      have HL5 := hid (show (U4 ++ [cl]).length ≤ 4 + 7 * (i + 1) by rw [List.length_append]; simp; omega)
      clear o5 gr5
      go_roundw
      case rel => exact ⟨i + 1, hh + 1, U4 ++ [cl], _, by go_num, rfl, by go_num, by omega, by omega, HR5, HE5, HL5, HO5, HB5⟩
      case measure => simp [intOf]; omega
    · have i3 : ¬ (i : Int) < (n : Int) := by omega
      have HE := hid (show U = enb r L by rw [← HEQ.out, List.drop_of_length_le (by have h5 := HN.out; omega)]; simp [enL])
      rw [HE.out] at HOU
      go_wp2
      go_ret
      exact ⟨v, rfl, HOU.out, HBU.out⟩
end Go.Proofs.Ytljlhlcoaajggaa
/- Regions that draw their order, gone through in an order of one's own: each operation is free (it yields the same in every world that the others leave), or nothing else can come up. -/
namespace Go.Proofs.Ytljlhlcoaajggaa

section
variable {P : Program} {ops : Array Oper} {Q : Exit → Act → World → Prop} {md : Region.Mode} {S : World → Prop} {fin : Nat → Bool}

def Region.mixB (md : Region.Mode) (ops : Array Oper) (fin : Nat → Bool) : List (Nat × Bool) → Array Bool → Bool
  | [], listed => Region.ready md ops listed == []
  | (k, true) :: r, listed => (Region.ready md ops listed).contains k && Region.free md ops listed k && Region.finB md ops fin k && Region.mixB md ops fin r (listed.setIfInBounds k true)
  | (k, false) :: r, listed => (Region.ready md ops listed == [k]) && (!fin k || r.all fun x => !x.2) && Region.mixB md ops fin r (listed.setIfInBounds k true)
def wpMix (P : Program) (ops : Array Oper) (Q : Exit → Act → World → Prop) (S : World → Prop) (fin : Nat → Bool) : List (Nat × Bool) → Act → World → Prop
  | [], a, w => Q .normal a w
  | (k, true) :: r, a, w => ∃ o v, ops[k]? = some o ∧ YieldsIf P ops S o v a ∧ wpMix P ops Q S fin r (a.put o.dst v) w
  | (k, false) :: r, a, w => ∃ o, ops[k]? = some o ∧ if Region.wanted o (yielded ops a.tmps) = true then o.wp P a w (fun a' w' => (fin k = false → S w') ∧ wpMix P ops Q S fin r a' w') Q else (fin k = false → S w) ∧ wpMix P ops Q S fin r (a.put o.dst undef) w
theorem anyT_mix (hsel : Region.noSelect ops = true) (hs : ∀ j, fin j = true → j < ops.size) (hQ : ∀ c (a : Act) d v w, Q (.panic c) (a.put d v) w → Q (.panic c) a w) :
    ∀ (l : List (Nat × Bool)) (listed : Array Bool) (a : Act) (w : World), Region.mixB md ops fin l listed = true → (l.any (fun x => x.2) = true → S w) → wpMix P ops Q S fin l a w → anyT P md ops Q S fin l.length listed a w
  | [], listed, a, w, hB, _, h => ⟨by simpa [Region.mixB] using hB, h⟩
  | (k, true) :: r, listed, a, w, hB, hS, h => by
    simp only [Region.mixB, Bool.and_eq_true] at hB
    obtain ⟨⟨⟨hr, hf⟩, hfb⟩, hB'⟩ := hB
    obtain ⟨hf1, hf2⟩ := finB_spec hs hfb
    obtain ⟨o, v, h0, hy, hK⟩ := h
    have hSw : S w := hS (by simp)
    exact anyT_first h0 (Region.noSelect_spec hsel) (fun c a w => hQ c a _ _ w) hf1 hf2 r.length listed a w (Region.free_spec h0 hf) (by simpa using hr) hy hSw
      (anyT_mix hsel hs hQ r _ _ w hB' (fun _ => hSw) hK)
  | (k, false) :: r, listed, a, w, hB, hS, h => by
    simp only [Region.mixB, Bool.and_eq_true, beq_iff_eq] at hB
    obtain ⟨⟨hr, hfr⟩, hB'⟩ := hB
    obtain ⟨o, h0, h⟩ := h
    refine ⟨fun h1 => (by rw [hr] at h1; cases h1), fun i hi => ?_⟩
    rw [hr] at hi
    have hik : i = k := by simpa using hi
    subst hik
    have hw : wpOp P ops Q i (fun a' w' => (fin i = false → S w') ∧ wpMix P ops Q S fin r a' w') a w := by
      unfold wpOp
      simp only [h0]
      split
      · rename_i hc
        rw [if_pos hc] at h
        exact .inl h
      · rename_i hc
        rw [if_neg hc] at h
        exact h
    refine wpOp_mono (fun a' w' h' => ⟨h'.1, anyT_mix hsel hs hQ r _ a' w' hB' (fun hn => ?_) h'.2⟩) hw
    cases hfi : fin i with
    | false => exact h'.1 hfi
    | true =>
      rw [hfi] at hfr
      obtain ⟨x, hx, hx2⟩ := List.any_eq_true.1 hn
      have h5 := List.all_eq_true.1 (show (r.all fun x => !x.2) = true by simpa using hfr) x hx
      rw [hx2] at h5
      cases h5
/-- The law. -/
theorem wp_region_mix {id : Nat} {a : Act} {w : World} {l : List Oper} (ord : List (Nat × Bool)) (S : World → Prop) (fin : Nat → Bool) (hm : P.follows .mixedOrders = true) (hsel : Region.noSelect l.toArray = true) (hs : ∀ j, fin j = true → j < l.length)
    (hlen : ord.length = l.length) (hB : Region.mixB .any l.toArray fin ord (Array.replicate l.length false) = true) (hS : S w.drew)
    (h : wpMix P l.toArray (NoPanic Q) S fin ord a w.drew) : (Code.region id l.toArray true).wp P Q a w := by
  refine wp_region_noPanic (wp_region_any hm (anyT_any (S := S) (fin := fin) _ _ _ _ ?_))
  have H := anyT_mix (P := P) (ops := l.toArray) (Q := NoPanic Q) (md := .any) (S := S) (fin := fin) hsel (by simpa using hs) (fun _ _ _ _ _ h => h) ord (Array.replicate l.length false) a w.drew hB (fun _ => hS) h
  rw [hlen] at H
  simpa using H
theorem mix_free {o : Oper} {k : Nat} {r : List (Nat × Bool)} {a : Act} {w : World} (v : Value) (h0 : ops[k]? = some o) (hw : Region.wanted o (yielded ops a.tmps) = true) (h1 : ∀ w, S w → (execOp a.eval o).run P w = .ok (.value v) w) (h2 : wpMix P ops Q S fin r (a.put o.dst v) w) : wpMix P ops Q S fin ((k, true) :: r) a w :=
  ⟨o, v, h0, .inl ⟨hw, h1⟩, h2⟩
theorem mix_pass {o : Oper} {k : Nat} {r : List (Nat × Bool)} {a : Act} {w : World} (h0 : ops[k]? = some o) (hw : Region.wanted o (yielded ops a.tmps) = false) (h2 : wpMix P ops Q S fin r (a.put o.dst undef) w) : wpMix P ops Q S fin ((k, true) :: r) a w :=
  ⟨o, undef, h0, .inr ⟨hw, rfl⟩, h2⟩
theorem mix_go {o : Oper} {k : Nat} {r : List (Nat × Bool)} {a : Act} {w : World} (h0 : ops[k]? = some o) (hw : Region.wanted o (yielded ops a.tmps) = true) (h : ∀ K : Act → World → Prop, (∀ a w, (fin k = false → S w) → wpMix P ops Q S fin r a w → K a w) → o.wp P a w K Q) : wpMix P ops Q S fin ((k, false) :: r) a w := by
  refine ⟨o, h0, ?_⟩
  rw [if_pos hw]
  exact h _ fun _ _ h1 h2 => ⟨h1, h2⟩
theorem mix_end {a : Act} {w : World} (h : Q .normal a w) : wpMix P ops Q S fin [] a w := h
end
end Go.Proofs.Ytljlhlcoaajggaa
