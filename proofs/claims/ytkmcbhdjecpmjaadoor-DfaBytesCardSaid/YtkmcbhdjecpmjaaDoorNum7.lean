/- The contracts of putNumber and of the document's put: a number in bytes of seven bits. -/
import Derived.Test.YtkmcbhdjecpmjaaDoorKit7
import Derived.Test.YtkmcbhdjecpmjaaDoorBMath
namespace Go.Proofs.YtkmcbhdjecpmjaaDoor
open Go.RowKit

theorem Tryd.info5 : (Tryd.prog.info? 5).map (fun i => (i.zero, i.size, i.bytes)) = some (some (.int .u8 0), 1, 1) := by kernel_rfl
def u8n (l : List Nat) : List Value := l.map fun b : Nat => Value.int .u8 (b : Int)
theorem u8n_app (a b : List Nat) : u8n (a ++ b) = u8n a ++ u8n b := by simp [u8n]
theorem u8n_len (a : List Nat) : (u8n a).length = a.length := by simp [u8n]
theorem u8n_one (l : List Nat) : ∀ u ∈ u8n l, u.oneCell' = true := fun u hu => by
  obtain ⟨z, _, rfl⟩ := List.mem_map.1 hu
  rfl
set_option maxRecDepth 100000 in
theorem or_more (c : Nat) (h : c < 256) : bits .or .u8 (c : Int) 128 = ((c % 128 + 128 : Nat) : Int) := by
  have H : ∀ c : Fin 256, bits .or .u8 ((c : Nat) : Int) 128 = (((c : Nat) % 128 + 128 : Nat) : Int) := by decide
  exact H ⟨c, h⟩
/-- What a put leaves: the row, with the number behind. -/
def PutQ (B : Nat) (U : List Nat) (w : World) (e : Ending) (w' : World) : Prop :=
  ∃ (vo : Option Addr) (vc : Nat), e = .returned (.slice vo U.length vc) ∧ w'.ownsRow B 5 1 (.slice vo U.length vc) U.length (u8n U) ∧ Below B w w'
set_option maxRecDepth 100000 in
set_option maxHeartbeats 3000000 in
theorem putN_any (B : Nat) (vo : Option Addr) (vc : Nat) (T : List Nat) (n : Nat) (w : World) (h : w.ownsRow B 5 1 (.slice vo T.length vc) T.length (u8n T)) (hB : B ≤ w.heap.size) (hT : T.length ≤ 1000000) (hn : n ≤ 16383) :
    Calls Tryd.prog 80 #[.slice vo T.length vc, .int .i64 (n : Int)] w fun e w' => PutQ B (T ++ vn n) w e w' := by
  obtain ⟨i0, hi, hz0, hz1, hz2⟩ := info_parts Tryd.info5
  have HO0 := hid h
  clear h
  obtain ⟨tl, htl⟩ : ∃ tl, tl = T.length := ⟨_, rfl⟩
  have HTL := hid htl
  rw [← htl] at HO0 hT
  rw [← htl]
  clear htl
  obtain ⟨Z, hZ⟩ : ∃ Z, Z = T ++ vn n := ⟨_, rfl⟩
  rw [← hZ]
  have HZ := hid hZ
  clear hZ
  go_enter Tryd.func80, Tryd.ntmps80
  go_wp2
  go_loopw [0, 1] (fun x y wr => ∃ (U : List Nat) (ul m : Nat) (uo : Option Addr) (uc : Nat), x = .slice uo ul uc ∧ y = .int .i64 (m : Int) ∧ m ≤ n ∧ ul + m ≤ tl + n ∧ Hid (ul = U.length) ∧ Hid (wr.ownsRow B 5 1 (.slice uo ul uc) ul (u8n U)) ∧ Hid (Z = U ++ vn m) ∧ Hid (Below B w wr)) (fun _ y _ => (intOf y).toNat)
  case atStart => exact ⟨T, tl, n, vo, vc, rfl, rfl, Nat.le_refl _, Nat.le_refl _, HTL, HO0, HZ.out, Below.refl _ _⟩
  case round =>
    obtain ⟨U, ul, m, uo, uc, rfl, rfl, hm, hU, HUL, HO, HE, HB⟩ := hrel
    have hwB := HB.out.size
    by_cases c : 128 ≤ m
    · have c' : (128 : Int) ≤ (m : Int) := by omega
      have e1 : IntKind.u8.wrap ((m : Int) % 128) = (m : Int) % 128 := by rw [IntKind.wrap_u8]; omega
      have e2 : bits .or .u8 ((m : Int) % 128) 128 = ((m % 128 + 128 : Nat) : Int) := by
        have h := or_more (m % 128) (by omega)
        rw [show m % 128 % 128 = m % 128 by omega] at h
        rw [show (m : Int) % 128 = ((m % 128 : Nat) : Int) by omega]
        exact h
      have HV := hid (vn_more m c)
      obtain ⟨d, hd⟩ : ∃ d, d = m % 128 + 128 := ⟨_, rfl⟩
      rw [← hd] at e2 HV
      have hd2 : d < 256 := by omega
      clear hd
      go_wp2_with (at_builtin; refine wpList_append_lies _ rfl _ _ 59 rfl B 5 i0 (.int .u8 0) 1 1 Tryd.underlying59 hi hz0 hz1 hz2 rfl (by decide) (.slice uo ul uc) ul (u8n U) rfl (HO.out.alloc _) ⟨wr.heap.size, 0, none⟩ 1 1 [.int .u8 (d : Int)] rfl rfl (news_one wr _ 5) (u8n_one [d]) (by decide) (by unfold maxLen; omega) (by omega) (by simp; omega) (wr.heap.size + 1) (by simp) ?_; intro g5 ec5 w5 o5 gr5 hl5 hlt5)
      have HB5 := hid ((HB.out.alloc (by omega) (.cells #[.int .u8 (d : Int)] 5)).grown gr5 (by simp; omega) (fun k hk => (HO.out.lt k hk).1))
      have HO5 := hid (show w5.ownsRow B 5 1 (.slice (some ⟨g5, 0, none⟩) (ul + 1) ec5) (ul + 1) (u8n (U ++ [d])) by rw [u8n_app]; exact o5)
      have HE5 := hid (show Z = U ++ [d] ++ vn (m / 128) by rw [HE.out, HV.out]; simp)
      have HUL5 := hid (show ul + 1 = (U ++ [d]).length by rw [List.length_append, ← HUL.out]; rfl)
      clear o5 gr5 hl5 hlt5
      go_wp2
      go_roundw
      case rel => exact ⟨U ++ [d], ul + 1, m / 128, some ⟨g5, 0, none⟩, ec5, rfl, congrArg (Value.int .i64) (by omega), by omega, by omega, HUL5, HO5, HE5, HB5⟩
      case measure => simp [intOf]; omega
    · have c' : ¬ (128 : Int) ≤ (m : Int) := by omega
      have e1 : IntKind.u8.wrap (m : Int) = (m : Int) := by rw [IntKind.wrap_u8]; omega
      have HV := hid (vn_last m c)
      go_wp2_with (at_builtin; refine wpList_append_lies _ rfl _ _ 59 rfl B 5 i0 (.int .u8 0) 1 1 Tryd.underlying59 hi hz0 hz1 hz2 rfl (by decide) (.slice uo ul uc) ul (u8n U) rfl (HO.out.alloc _) ⟨wr.heap.size, 0, none⟩ 1 1 [.int .u8 (m : Int)] rfl rfl (news_one wr _ 5) (u8n_one [m]) (by decide) (by unfold maxLen; omega) (by omega) (by simp; omega) (wr.heap.size + 1) (by simp) ?_; intro g5 ec5 w5 o5 gr5 hl5 hlt5)
      have HB5 := hid ((HB.out.alloc (by omega) (.cells #[.int .u8 (m : Int)] 5)).grown gr5 (by simp; omega) (fun k hk => (HO.out.lt k hk).1))
      have HO5 := hid (show w5.ownsRow B 5 1 (.slice (some ⟨g5, 0, none⟩) (ul + 1) ec5) (ul + 1) (u8n Z) by rw [HE.out, HV.out, u8n_app]; exact o5)
      have HUL5 := hid (show ul + 1 = Z.length by rw [HE.out, HV.out, List.length_append, ← HUL.out]; rfl)
      clear o5 gr5 hl5 hlt5
      go_wp2
      go_ret
      refine ⟨some ⟨g5, 0, none⟩, ec5, ?_, ?_, HB5.out⟩
      · rw [← HUL5.out]; rfl
      · rw [← HUL5.out]; exact HO5.out
end Go.Proofs.YtkmcbhdjecpmjaaDoor
