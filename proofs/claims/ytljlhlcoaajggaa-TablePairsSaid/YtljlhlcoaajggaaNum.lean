/- The contracts of withNumber (package table) and of put (the document's): a number in bytes of seven bits. -/
import Derived.Test.YtljlhlcoaajggaaSmall
import Derived.Maps.AppendAt
namespace Go.Proofs.Ytljlhlcoaajggaa
open Go.RowKit

theorem Try.info5 : (Try.prog.info? 5).map (fun i => (i.zero, i.size, i.bytes)) = some (some (.int .u8 0), 1, 1) := by kernel_rfl
def u8n (l : List Nat) : List Value := l.map fun b : Nat => Value.int .u8 (b : Int)
theorem u8n_app (a b : List Nat) : u8n (a ++ b) = u8n a ++ u8n b := by simp [u8n]
theorem u8n_len (a : List Nat) : (u8n a).length = a.length := by simp [u8n]
set_option maxRecDepth 100000 in
theorem or_more (c : Nat) (h : c < 256) : bits .or .u8 (c : Int) 128 = ((c % 128 + 128 : Nat) : Int) := by
  have H : ∀ c : Fin 256, bits .or .u8 ((c : Nat) : Int) 128 = (((c : Nat) % 128 + 128 : Nat) : Int) := by decide
  exact H ⟨c, h⟩
theorem vn_len (n : Nat) : ∀ f, n < f → (vn n).length ≤ f := fun f => by
  induction f generalizing n with
  | zero => intro h; omega
  | succ f ih =>
    intro h
    by_cases hc : 128 ≤ n
    · rw [vn_more n hc, List.length_cons]
      have := ih (n / 128) (by omega)
      omega
    · rw [vn_last n hc]; simp

set_option maxRecDepth 100000 in
set_option maxHeartbeats 3000000 in
theorem withNumber_any (B : Nat) (v : Value) (T : List Nat) (n : Nat) (w : World) (h : w.ownsRow B 5 1 v T.length (u8n T)) (hB : B ≤ w.heap.size) (hT : T.length ≤ 100000000) (hn : n ≤ 100000000) :
    Calls Try.prog 60 #[v, .int .i64 (n : Int)] w fun e w' => ∃ v', e = .returned v' ∧ w'.ownsRow B 5 1 v' (T ++ vn n).length (u8n (T ++ vn n)) ∧ Below B w w' := by
  obtain ⟨i0, hi, hz0, hz1, hz2⟩ := info_parts Try.info5
  have HO0 := hid h
  clear h
  go_enter Try.func60, Try.ntmps60
  go_wp2
  go_loopw [0, 1] (fun x y wr => ∃ (U : List Nat) (m : Nat), y = .int .i64 (m : Int) ∧ m ≤ n ∧ U.length + m ≤ T.length + n ∧ Hid (wr.ownsRow B 5 1 x U.length (u8n U)) ∧ Hid (T ++ vn n = U ++ vn m) ∧ Hid (Below B w wr)) (fun _ y _ => (intOf y).toNat)
  case atStart => exact ⟨T, n, rfl, Nat.le_refl _, Nat.le_refl _, HO0, rfl, Below.refl _ _⟩
  case round =>
    obtain ⟨U, m, rfl, hm, hU, HO, HE, HB⟩ := hrel
    have hwB := HB.out.size
    by_cases c : 128 ≤ m
    · have c' : (128 : Int) ≤ (m : Int) := by omega
      have e1 : IntKind.u8.wrap (m : Int) = ((m % 256 : Nat) : Int) := by rw [IntKind.wrap_u8]; omega
      have e2 := or_more (m % 256) (by omega)
      rw [show m % 256 % 128 = m % 128 by omega] at e2
      have HV := hid (vn_more m c)
      obtain ⟨d, hd⟩ : ∃ d, d = m % 128 + 128 := ⟨_, rfl⟩
      rw [← hd] at e2 HV
      have hd2 : d < 256 := by omega
      generalize m % 256 = q at *
      clear hd
      go_wp2_with (at_builtin; refine wpList_append_own _ rfl _ _ 58 rfl B 5 i0 (.int .u8 0) 1 1 Try.underlying58 hi hz0 hz1 hz2 rfl (by decide) _ U.length (u8n U) rfl (HO.out.alloc _) ⟨wr.heap.size, 0, none⟩ 1 1 [.int .u8 (d : Int)] rfl rfl (cell_one_new _ _ _) (by simp [Value.oneCell']) (by unfold maxLen; omega) (by omega) (by simp; omega) ?_; intro v0 w0 o0 gr0 _)
      go_roundw
      case rel =>
        refine ⟨U ++ [d], m / 128, congrArg (Value.int .i64) (by omega), by omega, by simp; omega, ?_, ?_, ?_⟩
        · rw [u8n_app, List.length_append]; exact o0
        · rw [HE.out, HV.out]; simp [Hid]
        · exact ((HB.out.alloc (by omega) _).grown gr0 (by simp; omega) (fun k hk => (HO.out.lt k hk).1))
      case measure => simp [intOf]; omega
    · have c' : ¬ (128 : Int) ≤ (m : Int) := by omega
      have e1 : IntKind.u8.wrap (m : Int) = (m : Int) := by rw [IntKind.wrap_u8]; omega
      have HV := hid (vn_last m c)
      go_wp2_with (at_builtin; refine wpList_append_own _ rfl _ _ 58 rfl B 5 i0 (.int .u8 0) 1 1 Try.underlying58 hi hz0 hz1 hz2 rfl (by decide) _ U.length (u8n U) rfl (HO.out.alloc _) ⟨wr.heap.size, 0, none⟩ 1 1 [.int .u8 (m : Int)] rfl rfl (cell_one_new _ _ _) (by simp [Value.oneCell']) (by unfold maxLen; omega) (by omega) (by simp; omega) ?_; intro v0 w0 o0 gr0 _)
      go_ret
      refine ⟨_, rfl, ?_, ?_⟩
      · have h9 : w0.ownsRow B 5 1 v0 (T ++ vn n).length (u8n (T ++ vn n)) := by rw [HE.out, HV.out, u8n_app, List.length_append]; exact o0
        rw [List.length_append] at h9
        exact h9
      · exact ((HB.out.alloc (by omega) _).grown gr0 (by simp; omega) (fun k hk => (HO.out.lt k hk).1))
set_option maxRecDepth 100000 in
set_option maxHeartbeats 3000000 in
theorem put_any (B : Nat) (v : Value) (T : List Nat) (n : Nat) (w : World) (h : w.ownsRow B 5 1 v T.length (u8n T)) (hB : B ≤ w.heap.size) (hT : T.length ≤ 100000000) (hn : n ≤ 100000000) :
    Calls Try.prog 61 #[v, .int .i64 (n : Int)] w fun e w' => ∃ v', e = .returned v' ∧ w'.ownsRow B 5 1 v' (T ++ vn n).length (u8n (T ++ vn n)) ∧ Below B w w' := by
  obtain ⟨i0, hi, hz0, hz1, hz2⟩ := info_parts Try.info5
  have HO0 := hid h
  clear h
  go_enter Try.func61, Try.ntmps61
  go_wp2
  go_loopw [0, 1] (fun x y wr => ∃ (U : List Nat) (m : Nat), y = .int .i64 (m : Int) ∧ m ≤ n ∧ U.length + m ≤ T.length + n ∧ Hid (wr.ownsRow B 5 1 x U.length (u8n U)) ∧ Hid (T ++ vn n = U ++ vn m) ∧ Hid (Below B w wr)) (fun _ y _ => (intOf y).toNat)
  case atStart => exact ⟨T, n, rfl, Nat.le_refl _, Nat.le_refl _, HO0, rfl, Below.refl _ _⟩
  case round =>
    obtain ⟨U, m, rfl, hm, hU, HO, HE, HB⟩ := hrel
    have hwB := HB.out.size
    by_cases c : 128 ≤ m
    · have c' : (128 : Int) ≤ (m : Int) := by omega
      have HV := hid (vn_more m c)
      obtain ⟨d, hd⟩ : ∃ d, d = m % 128 + 128 := ⟨_, rfl⟩
      rw [← hd] at HV
      have hd2 : d < 256 := by omega
      have HD := hid (show (m : Int) % 128 + 128 = (d : Int) by omega)
      clear hd
      go_wp2_with (at_builtin; refine wpList_append_own _ rfl _ _ 58 rfl B 5 i0 (.int .u8 0) 1 1 Try.underlying58 hi hz0 hz1 hz2 rfl (by decide) _ U.length (u8n U) rfl (HO.out.alloc _) ⟨wr.heap.size, 0, none⟩ 1 1 [.int .u8 ((m : Int) % 128 + 128)] rfl rfl (cell_one_new _ _ _) (by simp [Value.oneCell']) (by unfold maxLen; omega) (by omega) (by simp; omega) ?_; intro v0 w0 o0 gr0 _)
      rw [HD.out] at o0
      go_roundw
      case rel =>
        refine ⟨U ++ [d], m / 128, congrArg (Value.int .i64) (by omega), by omega, by simp; omega, ?_, ?_, ?_⟩
        · rw [u8n_app, List.length_append]; exact o0
        · rw [HE.out, HV.out]; simp [Hid]
        · exact ((HB.out.alloc (by omega) _).grown gr0 (by simp; omega) (fun k hk => (HO.out.lt k hk).1))
      case measure => simp [intOf]; omega
    · have c' : ¬ (128 : Int) ≤ (m : Int) := by omega
      have e1 : IntKind.u8.wrap (m : Int) = (m : Int) := by rw [IntKind.wrap_u8]; omega
      have HV := hid (vn_last m c)
      go_wp2_with (at_builtin; refine wpList_append_own _ rfl _ _ 58 rfl B 5 i0 (.int .u8 0) 1 1 Try.underlying58 hi hz0 hz1 hz2 rfl (by decide) _ U.length (u8n U) rfl (HO.out.alloc _) ⟨wr.heap.size, 0, none⟩ 1 1 [.int .u8 (m : Int)] rfl rfl (cell_one_new _ _ _) (by simp [Value.oneCell']) (by unfold maxLen; omega) (by omega) (by simp; omega) ?_; intro v0 w0 o0 gr0 _)
      go_ret
      refine ⟨_, rfl, ?_, ?_⟩
      · have h9 : w0.ownsRow B 5 1 v0 (T ++ vn n).length (u8n (T ++ vn n)) := by rw [HE.out, HV.out, u8n_app, List.length_append]; exact o0
        rw [List.length_append] at h9
        exact h9
      · exact ((HB.out.alloc (by omega) _).grown gr0 (by simp; omega) (fun k hk => (HO.out.lt k hk).1))
end Go.Proofs.Ytljlhlcoaajggaa
