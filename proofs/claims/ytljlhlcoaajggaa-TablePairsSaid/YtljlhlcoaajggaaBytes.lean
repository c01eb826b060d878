/- The contract of Bytes (package table). -/
import Derived.Test.YtljlhlcoaajggaaEncMath
import Derived.Test.YtljlhlcoaajggaaNum2
namespace Go.Proofs.Ytljlhlcoaajggaa
open Go.RowKit

theorem Fro.ne {v v' : Value} {w W : World} {G B n k e : Nat} {xs : List Value} (hf : Fro v W v') (h : w.ownsRow B e k v n xs) (hG : w.heap.size ≤ G) (hW : G < W.heap.size) : v'.ownBlock ≠ some G := fun hk => by
  rcases hf with hf | hf
  · have := (h.lt G (by rw [← hf]; exact hk)).2; omega
  · have := hf G hk; omega

set_option maxHeartbeats 4000000 in
set_option maxRecDepth 100000 in
theorem bytes_any (B0 T rest : Nat) (F : List (List Nat)) (w : World) (h : TbAt B0 T F rest w) (hr : rest < 256) :
    Calls Try.prog 30 #[.pointer (some ⟨T, 0, none⟩)] w fun e w' => ∃ v', e = .returned v' ∧ w'.ownsRow w.heap.size 5 1 v' (enb rest (rgs rest F.flatten)).length (u8n (enb rest (rgs rest F.flatten))) ∧ Below w.heap.size w w' := by
  obtain ⟨i0, hi, hz0, hz1, hz2⟩ := info_parts Try.info5
  have hfl : F.flatten.length = 1114112 := by obtain ⟨g, cap, _, _, ho, _, hF⟩ := h; rw [flat_len F ho, hF]
  have hf8 : ∀ c ∈ F.flatten, c < 256 := by
    obtain ⟨g, cap, _, _, ho, h8, hF⟩ := h
    intro c hc
    obtain ⟨b, hb, hcb⟩ := List.mem_flatten.1 hc
    exact h8 b hb c hcb
  have HR0 := hid (rgs_ris rest F.flatten hfl hf8)
  have HRG := hid (ranges_any B0 T rest F w h hr)
  have HT0 := hid h
  obtain ⟨L, hL⟩ : ∃ L, L = rgs rest F.flatten := ⟨_, rfl⟩
  rw [← hL] at HR0 HRG ⊢
  have hn9 := ris_len L 0 (by omega) HR0.out
  clear h hfl hf8 hL
  obtain ⟨n, hn⟩ : ∃ n, n = L.length := ⟨_, rfl⟩
  have HN := hid hn
  rw [← hn] at hn9 HRG
  clear hn
  go_enter Try.func30, Try.ntmps30
  go_wp2_with fail
  refine HRG.out.mono ?_
  rintro e w1 ⟨v1, rfl, o1, b1⟩
  obtain ⟨ao, ac, rfl⟩ := own_form o1
  have HRD := hid (rd_own o1)
  have ht := (HT0.out.below b1).rest_cell
  have HB1 := hid b1
  have hs1 := b1.size
  obtain ⟨B, hB⟩ : ∃ B, B = w1.heap.size := ⟨_, rfl⟩
  have HBE := hid hB
  have HLB := hid (fun W (hW : Below B w1 W) => (rd_own o1).below (show Below w1.heap.size w1 W by rw [← hB]; exact hW))
  have HO0 := hid (show (w1.alloc (.cells #[.int .u8 (rest : Int)] 5)).ownsRow B 5 1 (.slice (some ⟨w1.heap.size, 0, none⟩) 1 1) 1 (u8n [rest]) from World.ownsRow_lit w1 #[.int .u8 (rest : Int)] 1 (by omega) (by decide) rfl)
  have HA0 := hid ((Below.refl B w1).alloc (show B ≤ w1.heap.size by omega) (.cells #[.int .u8 (rest : Int)] 5))
  have HWN := hid (withNumber_far B (.slice (some ⟨w1.heap.size, 0, none⟩) 1 1) [rest] n _ HO0.out (by simp; omega) (by simp) (by omega))
  clear o1 b1 HRG hB HRD
  go_wp2_with fail
  refine HWN.out.mono ?_
  rintro e w2 ⟨v2, rfl, o2, b2, _, _⟩
  have HO2 := hid o2
  have HB2 := hid (HA0.out.trans b2)
  have HS0 := hid (show ([rest] ++ vn n) ++ enL 0 (L.drop 0) = enb rest L by unfold enb; rw [← HN.out]; rfl)
  have HL0 := hid (show ([rest] ++ vn n).length ≤ 4 + 7 * 0 by have := vn3 n (by omega); rw [List.length_append]; simp; omega)
  clear o2 b2 HWN HO0 ht
  go_wp2
  go_loopw [22, 4, 5] (fun x y z wr => ∃ (i nx : Nat) (U : List Nat) (v : Value), x = .int .i64 (i : Int) ∧ y = v ∧ z = .int .i32 (nx : Int) ∧ i ≤ n ∧ nx ≤ 1114112 ∧ Hid (Ris nx (L.drop i)) ∧ Hid (U ++ enL nx (L.drop i) = enb rest L) ∧ Hid (U.length ≤ 4 + 7 * i) ∧ Hid (wr.ownsRow B 5 1 v U.length (u8n U)) ∧ Hid (Below B w1 wr)) (fun x _ _ _ => n - (intOf x).toNat)
  case atStart => exact ⟨0, 0, [rest] ++ vn n, v2, rfl, rfl, rfl, by omega, by omega, HR0, HS0, HL0, HO2, HB2⟩
  case round =>
    obtain ⟨i, nx, U, v, rfl, hv, rfl, hi', hnx, HRI, HEQ, HUL, HOU, HBU⟩ := hrel
    obtain rfl := hv.symm
    have hbu := HBU.out.size
    have hwB : B ≤ wr.heap.size := by have h5 := HBE.out; omega
    by_cases hlt : i < n
    · have hiL : i < L.length := by have h5 := HN.out; omega
      obtain ⟨a, rfl, ha, a0, a1, a2⟩ := (HLB.out wr HBU.out) i (rkT L[i]) (by rw [List.getElem?_map, List.getElem?_eq_getElem hiL]; rfl)
      have hdr : L.drop i = L[i] :: L.drop (i + 1) := List.drop_eq_getElem_cons hiL
      rw [hdr] at HRI HEQ
      obtain ⟨r1, r2, r3, r4, r5⟩ := HRI.out
      have HR5 := hid r5
      unfold rkT at a0 a1 a2
      obtain ⟨gx, hx⟩ : ∃ gx, L[i] = gx := ⟨_, rfl⟩
      rw [hx] at a0 a1 a2 HEQ r1 r2 r3 r4 HR5
      obtain ⟨lo, hh, cl⟩ := gx
      dsimp only at a0 a1 a2 r1 r2 r3 r4 HR5
      change Hid (U ++ (vn (lo - nx) ++ (vn (hh - lo) ++ (cl :: enL (hh + 1) (L.drop (i + 1))))) = enb rest L) at HEQ
      obtain ⟨d1, hd1⟩ : ∃ d1, d1 = lo - nx := ⟨_, rfl⟩
      obtain ⟨d2, hd2⟩ : ∃ d2, d2 = hh - lo := ⟨_, rfl⟩
      rw [← hd1, ← hd2] at HEQ
      have e1 : IntKind.i32.wrap ((lo : Int) - (nx : Int)) = (d1 : Int) := by rw [IntKind.wrap_i32]; omega
      have e2 : IntKind.i64.wrap (d1 : Int) = (d1 : Int) := by rw [IntKind.wrap_i64]; omega
      have e3 : IntKind.i32.wrap ((hh : Int) - (lo : Int)) = (d2 : Int) := by rw [IntKind.wrap_i32]; omega
      have e4 : IntKind.i64.wrap (d2 : Int) = (d2 : Int) := by rw [IntKind.wrap_i64]; omega
      have e5 : IntKind.u8.wrap (cl : Int) = (cl : Int) := by rw [IntKind.wrap_u8]; omega
      have e6 : IntKind.i32.wrap ((hh : Int) + 1) = ((hh + 1 : Nat) : Int) := by rw [IntKind.wrap_i32]; omega
      have hd1l : d1 ≤ 1114112 := by omega
      have hd2l : d2 ≤ 1114112 := by omega
      have i3 : (i : Int) < (n : Int) := by omega
      have hul := HUL.out
      have HV1 := hid (vn3 d1 (by omega))
      have HV2 := hid (vn3 d2 (by omega))
      have HBA := hid (HBU.out.alloc hwB (.cells #[.int .i32 (lo : Int), .int .i32 (hh : Int), .int .i64 (cl : Int)] 36))
      have HGA := hid (heap_alloc_new wr (.cells #[.int .i32 (lo : Int), .int .i32 (hh : Int), .int .i64 (cl : Int)] 36))
      have HW1 := hid (withNumber_far B v U d1 (wr.alloc (.cells #[.int .i32 (lo : Int), .int .i32 (hh : Int), .int .i64 (cl : Int)] 36)) (HOU.out.alloc _) (by simp; omega) (by omega) (by omega))
      clear hx hdr r5 hd1 hd2
      go_wp2_with fail
      refine HW1.out.mono ?_
      rintro e w3 ⟨v3, rfl, o3, b3, t3, f3⟩
      have hs3 := b3.size
      simp only [World.size_alloc] at hs3
      have hG3 := (t3 wr.heap.size (by simp) (fun e => by have := (HOU.out.lt _ e).2; omega)).trans HGA.out
      have x0 : w3.cell? ⟨wr.heap.size, 0, none⟩ = some (.int .i32 (lo : Int)) := by rw [cell_of_row w3 wr.heap.size 0 _ 36 (0, 0) hG3]; rfl
      have x1 : w3.cell? ⟨wr.heap.size, 1, none⟩ = some (.int .i32 (hh : Int)) := by rw [cell_of_row w3 wr.heap.size 1 _ 36 (0, 0) hG3]; rfl
      have HB3 := hid (HBA.out.trans b3)
      have HG3 := hid hG3
      have HNE3 := hid (f3.ne HOU.out (Nat.le_refl _) (by simp))
      have HW2 := hid (withNumber_far B v3 (U ++ vn d1) d2 w3 o3 (by omega) (by rw [List.length_append]; have h5 := HV1.out; omega) (by omega))
      have HO3 := hid o3
      clear o3 b3 t3 f3 HW1 HGA hG3
      go_wp2_with fail
      refine HW2.out.mono ?_
      rintro e w4 ⟨v4, rfl, o4, b4, t4, f4⟩
      have hs4 := b4.size
      have hG4 := (t4 wr.heap.size (by omega) HNE3.out).trans HG3.out
      have y1 : w4.cell? ⟨wr.heap.size, 1, none⟩ = some (.int .i32 (hh : Int)) := by rw [cell_of_row w4 wr.heap.size 1 _ 36 (0, 0) hG4]; rfl
      have y2 : w4.cell? ⟨wr.heap.size, 2, none⟩ = some (.int .i64 (cl : Int)) := by rw [cell_of_row w4 wr.heap.size 2 _ 36 (0, 0) hG4]; rfl
      have HB4 := hid (HB3.out.trans b4)
      have HO4 := hid o4
      have HG4 := hid hG4
      have HNE4 := hid (show v4.ownBlock ≠ some wr.heap.size from fun hk => by
        rcases f4 with f4 | f4
        · exact HNE3.out (by rw [← f4]; exact hk)
        · have := f4 _ hk; omega)
      have hl4 : (U ++ vn d1 ++ vn d2).length ≤ 10 + 7 * i := by rw [List.length_append, List.length_append]; have h5 := HV1.out; have h6 := HV2.out; omega
      obtain ⟨U4, hU4⟩ : ∃ U4, U4 = U ++ vn d1 ++ vn d2 := ⟨_, rfl⟩
      rw [← hU4] at HO4 hl4
      have HU4 := hid hU4
      clear o4 b4 t4 f4 HW2 hG4 x0 x1 hU4
      go_wp2_with (at_builtin; refine wpList_append_lies _ rfl _ _ 58 rfl B 5 i0 (.int .u8 0) 1 1 Try.underlying58 hi hz0 hz1 hz2 rfl (by decide) _ U4.length (u8n U4) rfl (HO4.out.alloc _) ⟨w4.heap.size, 0, none⟩ 1 1 [.int .u8 (cl : Int)] rfl rfl (cell_one_new _ _ _) (by simp [Value.oneCell']) (by decide) (by unfold maxLen; omega) (by omega) (by simp; omega) (w4.heap.size + 1) (by simp) ?_; intro q5 c5 w5 o5 gr5 hlie5 hlt5; have z1 : w5.cell? ⟨wr.heap.size, 1, none⟩ = some (.int .i32 (hh : Int)) := (World.cell?_of_block (gr5.block wr.heap.size (by simp; omega) (fun e => HNE4.out e.symm))).trans ((World.cell?_of_block (show (w4.alloc (.cells #[.int .u8 (cl : Int)] 5)).heap[wr.heap.size]? = w4.heap[wr.heap.size]? by show (w4.heap.push _)[wr.heap.size]? = _; rw [Array.getElem?_push, if_neg (by omega)])).trans y1))
      have HB5 := hid ((HB4.out.alloc (by omega) (.cells #[.int .u8 (cl : Int)] 5)).grown gr5 (by simp; omega) (fun k hk => (HO4.out.lt k hk).1))
      have HO5 := hid (show w5.ownsRow B 5 1 (.slice (some ⟨q5, 0, none⟩) (U4.length + 1) c5) (U4 ++ [cl]).length (u8n (U4 ++ [cl])) by rw [u8n_app, List.length_append]; exact o5)
      have HE5 := hid (show (U4 ++ [cl]) ++ enL (hh + 1) (L.drop (i + 1)) = enb rest L by rw [← HEQ.out, HU4.out]; simp)
      have HL5 := hid (show (U4 ++ [cl]).length ≤ 4 + 7 * (i + 1) by rw [List.length_append]; simp; omega)
      clear o5 gr5
      go_roundw
      case rel => exact ⟨i + 1, hh + 1, U4 ++ [cl], _, by go_num, rfl, by go_num, by omega, by omega, HR5, HE5, HL5, HO5, HB5⟩
      case measure => simp [intOf]; omega
    · have i3 : ¬ (i : Int) < (n : Int) := by omega
      have HE := hid (show U = enb rest L by rw [← HEQ.out, List.drop_of_length_le (by have h5 := HN.out; omega)]; simp [enL])
      rw [HE.out] at HOU
      have HOE := hid (own_mono HOU.out (show w.heap.size ≤ B by have h5 := HBE.out; omega))
      have HBF := hid (HB1.out.trans (HBU.out.mono (show w.heap.size ≤ B by have h5 := HBE.out; omega)))
      go_wp2
      go_ret
      exact ⟨v, rfl, HOE.out, HBF.out⟩
end Go.Proofs.Ytljlhlcoaajggaa
