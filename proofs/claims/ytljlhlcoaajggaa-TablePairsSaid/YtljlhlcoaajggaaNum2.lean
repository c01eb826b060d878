/- The contract of withNumber (package table), and what it leaves alone. -/
import Derived.Test.YtljlhlcoaajggaaNum
import Derived.Deep.AppendLies
namespace Go.Proofs.Ytljlhlcoaajggaa
open Go.RowKit

/-- All blocks but the row's are as they were. -/
def Oth (v : Value) (w w' : World) : Prop := ∀ k, k < w.heap.size → v.ownBlock ≠ some k → w'.heap[k]? = w.heap[k]?
/-- A value in the row of v, or in a new one. -/
def Fro (v : Value) (w : World) (x : Value) : Prop := x.ownBlock = v.ownBlock ∨ ∀ q, x.ownBlock = some q → w.heap.size ≤ q
theorem oth_step {v x : Value} {w wr w0 : World} {o : Obj} (h : Oth v w wr) (hf : Fro v w x) (hg : (wr.alloc o).grownBy w0 x.ownBlock) (hs : w.heap.size ≤ wr.heap.size) : Oth v w w0 := fun k hk hne => by
  have h1 : some k ≠ x.ownBlock := fun e => by
    rcases hf with hf | hf
    · exact hne (by rw [← hf, ← e])
    · have := hf k e.symm; omega
  have h2 : (wr.alloc o).heap[k]? = wr.heap[k]? := by
    show (wr.heap.push o)[k]? = _
    rw [Array.getElem?_push, if_neg (by omega)]
  exact (hg.block k (by simp; omega) h1).trans (h2.trans (h k hk hne))
theorem fro_step {v x : Value} {w wr : World} {q n c : Nat} (hf : Fro v w x) (hl : x.ownBlock = some q ∨ q = wr.heap.size + 1) (hs : w.heap.size ≤ wr.heap.size) : Fro v w (.slice (some ⟨q, 0, none⟩) n c) := by
  rcases hl with hl | hl
  · rcases hf with hf | hf
    · left; rw [← hf, hl]; rfl
    · right; intro k hk; exact hf k (by rw [hl, ← hk]; rfl)
  · right
    intro k hk
    have : q = k := by simpa [Value.ownBlock] using hk
    omega

set_option maxRecDepth 100000 in
set_option maxHeartbeats 3000000 in
theorem withNumber_far (B : Nat) (v : Value) (T : List Nat) (n : Nat) (w : World) (h : w.ownsRow B 5 1 v T.length (u8n T)) (hB : B ≤ w.heap.size) (hT : T.length ≤ 100000000) (hn : n ≤ 100000000) :
    Calls Try.prog 60 #[v, .int .i64 (n : Int)] w fun e w' => ∃ v', e = .returned v' ∧ w'.ownsRow B 5 1 v' (T ++ vn n).length (u8n (T ++ vn n)) ∧ Below B w w' ∧ Oth v w w' ∧ Fro v w v' := by
  obtain ⟨i0, hi, hz0, hz1, hz2⟩ := info_parts Try.info5
  have HO0 := hid h
  clear h
  go_enter Try.func60, Try.ntmps60
  go_wp2
  go_loopw [0, 1] (fun x y wr => ∃ (U : List Nat) (m : Nat), y = .int .i64 (m : Int) ∧ m ≤ n ∧ U.length + m ≤ T.length + n ∧ Hid (wr.ownsRow B 5 1 x U.length (u8n U)) ∧ Hid (T ++ vn n = U ++ vn m) ∧ Hid (Below B w wr) ∧ Hid (Oth v w wr) ∧ Hid (Fro v w x)) (fun _ y _ => (intOf y).toNat)
  case atStart => exact ⟨T, n, rfl, Nat.le_refl _, Nat.le_refl _, HO0, rfl, Below.refl _ _, fun _ _ _ => rfl, Or.inl rfl⟩
  case round =>
    obtain ⟨U, m, rfl, hm, hU, HO, HE, HB, HT, HF⟩ := hrel
    have hwB := HB.out.size
    by_cases c : 128 ≤ m
    · have c' : (128 : Int) ≤ (m : Int) := by omega
      have e1 : IntKind.u8.wrap (m : Int) = ((m % 256 : Nat) : Int) := by rw [IntKind.wrap_u8]; omega
      have e2 := or_more (m % 256) (by omega)
      rw [show m % 256 % 128 = m % 128 by omega] at e2
      have HV := hid (vn_more m c)
      obtain ⟨d, hd⟩ : ∃ d, d = m % 128 + 128 := ⟨_, rfl⟩
      rw [← hd] at e2 HV
      have hd2 : d < 256 := by omega
      generalize m % 256 = q at *
      clear hd
      go_wp2_with (at_builtin; refine wpList_append_lies _ rfl _ _ 58 rfl B 5 i0 (.int .u8 0) 1 1 Try.underlying58 hi hz0 hz1 hz2 rfl (by decide) _ U.length (u8n U) rfl (HO.out.alloc _) ⟨wr.heap.size, 0, none⟩ 1 1 [.int .u8 (d : Int)] rfl rfl (cell_one_new _ _ _) (by simp [Value.oneCell']) (by decide) (by unfold maxLen; omega) (by omega) (by simp; omega) (wr.heap.size + 1) (by simp) ?_; intro q0 c0 w0 o0 gr0 hlie hlt0)
      go_roundw
      case rel =>
        refine ⟨U ++ [d], m / 128, congrArg (Value.int .i64) (by omega), by omega, by simp; omega, ?_, ?_, ?_, ?_, ?_⟩
        · rw [u8n_app, List.length_append]; exact o0
        · rw [HE.out, HV.out]; simp [Hid]
        · exact ((HB.out.alloc (by omega) _).grown gr0 (by simp; omega) (fun k hk => (HO.out.lt k hk).1))
        · exact oth_step HT.out HF.out gr0 hwB
        · exact fro_step HF.out hlie hwB
      case measure => simp [intOf]; omega
    · have c' : ¬ (128 : Int) ≤ (m : Int) := by omega
      have e1 : IntKind.u8.wrap (m : Int) = (m : Int) := by rw [IntKind.wrap_u8]; omega
      have HV := hid (vn_last m c)
      go_wp2_with (at_builtin; refine wpList_append_lies _ rfl _ _ 58 rfl B 5 i0 (.int .u8 0) 1 1 Try.underlying58 hi hz0 hz1 hz2 rfl (by decide) _ U.length (u8n U) rfl (HO.out.alloc _) ⟨wr.heap.size, 0, none⟩ 1 1 [.int .u8 (m : Int)] rfl rfl (cell_one_new _ _ _) (by simp [Value.oneCell']) (by decide) (by unfold maxLen; omega) (by omega) (by simp; omega) (wr.heap.size + 1) (by simp) ?_; intro q0 c0 w0 o0 gr0 hlie hlt0)
      go_ret
      refine ⟨_, rfl, ?_, ?_, ?_, ?_⟩
      · have h9 : w0.ownsRow B 5 1 (.slice (some ⟨q0, 0, none⟩) (U.length + 1) c0) (T ++ vn n).length (u8n (T ++ vn n)) := by rw [HE.out, HV.out, u8n_app, List.length_append]; exact o0
        rw [List.length_append] at h9
        exact h9
      · exact ((HB.out.alloc (by omega) _).grown gr0 (by simp; omega) (fun k hk => (HO.out.lt k hk).1))
      · exact oth_step HT.out HF.out gr0 hwB
      · exact fro_step HF.out hlie hwB
end Go.Proofs.Ytljlhlcoaajggaa
