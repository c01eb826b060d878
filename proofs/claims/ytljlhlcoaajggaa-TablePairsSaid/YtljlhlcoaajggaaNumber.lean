/- The contract of number (package table): the open block's number among the unlike ones. -/
import Derived.Test.YtljlhlcoaajggaaMaker
import Derived.Deep.RegionHeldLaw
namespace Go.Proofs.Ytljlhlcoaajggaa
open Go.RowKit Go.Maps Go.WideMaps

theorem load82 {w : World} {M : Nat} {op : List Nat} (h : w.rangeAt M 2 (u8n op)) (ho : op.length = 128) : (Instr.loadAt 82 (.pointer (some ⟨M, 2, none⟩))).run Try.prog w = .ok (blk op) w :=
  run_loadAt_mid w M 2 82 (u8n op) _ h Try.underlying82 rfl (by rw [u8n_len, ho]; kernel_rfl)
theorem range_drewN {w : World} {M o : Nat} {cs : List Value} (h : w.rangeAt M o cs) (n : Nat) : (w.drewN n).rangeAt M o cs := fun j v hv => by
  have := h j v hv
  simpa using this
theorem map_drewN {w : World} {K : Nat} {U : List (List Nat)} (h : w.ownsMap (H := Unit) Try.prog 82 (plainElem Try.prog 75) K U.length (dct U)) (n : Nat) : (w.drewN n).ownsMap (H := Unit) Try.prog 82 (plainElem Try.prog 75) K U.length (dct U) := h

theorem quiet_run {ops : Array Oper} {Q : Act → Prop} {a : Act} {o : Oper} {rest : List Oper} {w : World} (v : Value) (hg : o.guard = none) (hr : ∀ n, (execOp a.eval o).run Try.prog (w.drewN n) = .ok (.value v) (w.drewN n))
    (h : wpQuiet Try.prog ops (fun w' => ∃ n, w' = w.drewN n) Q rest (a.put o.dst v)) : wpQuiet Try.prog ops (fun w' => ∃ n, w' = w.drewN n) Q (o :: rest) a := by
  refine wpQuiet_step fun K hK => ?_
  rw [if_pos (by simp [Region.wanted, hg])]
  refine ⟨v, ?_, hK _ h⟩
  rintro w' ⟨n, rfl⟩
  unfold Oper.quietAt
  rw [hr n]
  exact ⟨rfl, rfl⟩
theorem quiet_load {ops : Array Oper} {Q : Act → Prop} {a : Act} {o : Oper} {rest : List Oper} {w : World} (hg : o.guard = none) (x : Operand) (ho : o.op = .load 82 x) (M : Nat) (op : List Nat) (hx : a.eval x = .pointer (some ⟨M, 2, none⟩))
    (hl : ∀ n, (Instr.loadAt 82 (.pointer (some ⟨M, 2, none⟩))).run Try.prog (w.drewN n) = .ok (blk op) (w.drewN n))
    (h : wpQuiet Try.prog ops (fun w' => ∃ n, w' = w.drewN n) Q rest (a.put o.dst (blk op))) : wpQuiet Try.prog ops (fun w' => ∃ n, w' = w.drewN n) Q (o :: rest) a :=
  quiet_run (blk op) hg (fun n => by unfold execOp; simp only [ho, hx, Sem.run_bind, hl n, Result.andThen_ok, Sem.run_pure]) h
theorem quiet_look {ops : Array Oper} {Q : Act → Prop} {a : Act} {o : Oper} {rest : List Oper} {w : World} (hg : o.guard = none) (x y : Operand) (ho : o.op = .lookup 101 x y true) (K : Nat) (op : List Nat) (v : Value) (hx : a.eval x = .map (some K)) (hy : a.eval y = blk op)
    (hl : ∀ n, (Instr.lookup 101 (.map (some K)) (blk op) true).run Try.prog (w.drewN n) = .ok v (w.drewN n))
    (h : wpQuiet Try.prog ops (fun w' => ∃ n, w' = w.drewN n) Q rest (a.put o.dst v)) : wpQuiet Try.prog ops (fun w' => ∃ n, w' = w.drewN n) Q (o :: rest) a :=
  quiet_run v hg (fun n => by unfold execOp; simp only [ho, hx, hy, Sem.run_bind, hl n, Result.andThen_ok, Sem.run_pure]) h

set_option maxRecDepth 100000 in
set_option maxHeartbeats 3000000 in
theorem number_known (B M T K : Nat) (fs : List Nat) (U : List (List Nat)) (bv : Value) (rest : Nat) (op : List Nat) (nx : Nat) (w : World) (h : MkAt B M T K fs U bv rest op nx w) (h8 : ok256 op) (hU : ∀ a ∈ U, ok256 a) (hn : U.Nodup) (hm : op ∈ U) :
    Calls Try.prog 75 #[.pointer (some ⟨M, 0, none⟩)] w fun e w' => e = .returned (.int .u16 (U.idxOf op : Int)) ∧ ∃ n, w' = w.drewN n := by
  have c1 := h.c1
  have HLD := hid (show ∀ n, (Instr.loadAt 82 (.pointer (some ⟨M, 2, none⟩))).run Try.prog (w.drewN n) = .ok (blk op) (w.drewN n) from fun n => load82 (range_drewN h.rg n) h.ho)
  have HLK := hid (show ∀ n, (Instr.lookup 101 (.map (some K)) (blk op) true).run Try.prog (w.drewN n) = .ok (.tuple #[.int .u16 (U.idxOf op : Int), .bool true]) (w.drewN n) from fun n => by
    have := look75 (map_drewN h.hK n) op h.ho h8 hU hn
    rw [if_pos hm, decide_eq_true hm] at this
    exact this)
  obtain ⟨x, hx⟩ : ∃ x : Int, x = (U.idxOf op : Int) := ⟨_, rfl⟩
  rw [← hx] at HLK ⊢
  clear hx h h8 hU hn hm
  go_enter Try.func75, Try.ntmps75
  go_wp2_with fail
  refine wp_region_quiet_lit (by kernel_rfl) (by kernel_rfl) ?_
  iterate 7 quiet_step (fail)
  refine quiet_load rfl _ rfl M op rfl HLD.out ?_
  refine quiet_look rfl _ _ rfl K op _ rfl rfl HLK.out ?_
  repeat (quiet_step (fail))
  refine wpQuiet_nil ?_
  intro _ hw'
  obtain ⟨nq, hw''⟩ := hw'
  subst hw''
  go_wp2
  go_ret
  exact ⟨rfl, nq, rfl⟩
end Go.Proofs.Ytljlhlcoaajggaa
