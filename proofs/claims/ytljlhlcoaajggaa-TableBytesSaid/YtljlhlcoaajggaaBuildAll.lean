import Derived.Maps.Views
import Derived.Test.YtljlhlcoaajggaaSmallAll
import Derived.WideKeyArr2
import Derived.Maps.Own
import Derived.Maps.OwnSet
import Derived.Test.YtljlhlcoaajggaaNum
import Derived.Deep.MidRow
import Derived.Deep.AppendLies
import Derived.Deep.RegionHeldLaw
namespace Go.Proofs.Ytljlhlcoaajggaa
open Go.Maps

/-- A block as a key. -/
def bky (b : List Nat) : Lit := .string (b.map UInt8.ofNat)
def ok256 (b : List Nat) : Prop := ∀ c ∈ b, c < 256
theorem bky_inj {a b : List Nat} (ha : ok256 a) (hb : ok256 b) (h : bky a = bky b) : a = b := by
  unfold bky at h
  injection h with h
  induction a generalizing b with
  | nil =>
    cases b with
    | nil => rfl
    | cons y t => simp at h
  | cons x s ih =>
    cases b with
    | nil => simp at h
    | cons y t =>
      simp only [List.map_cons, List.cons.injEq] at h
      have hx := ha x (by simp)
      have hy := hb y (by simp)
      have e : x = y := by
        have := congrArg UInt8.toNat h.1
        rw [UInt8.toNat_ofNat', UInt8.toNat_ofNat'] at this
        omega
      rw [e, ih (fun c hc => ha c (by simp [hc])) (fun c hc => hb c (by simp [hc])) h.2]
/-- The map of blocks to their numbers. -/
def dcF {H : Type} : Nat → DataW H → List (List Nat) → DataW H
  | _, D, [] => D
  | i, D, b :: U => dcF (i + 1) (D.put (bky b) (.lit (.int .u16 (i : Int)))) U
def dct {H : Type} (U : List (List Nat)) : DataW H := dcF 0 (.map []) U
theorem dcF_app {H : Type} : ∀ (U V : List (List Nat)) (i : Nat) (D : DataW H), dcF i D (U ++ V) = dcF (i + U.length) (dcF i D U) V
  | [], V, i, D => rfl
  | b :: U, V, i, D => by
    show dcF (i + 1) _ (U ++ V) = _
    rw [dcF_app U V (i + 1), List.length_cons, show i + 1 + U.length = i + (U.length + 1) by omega]
    rfl
theorem dct_snoc {H : Type} (U : List (List Nat)) (b : List Nat) : (dct (U ++ [b]) : DataW H) = (dct U).put (bky b) (.lit (.int .u16 (U.length : Int))) := by
  unfold dct
  rw [dcF_app, Nat.zero_add]; rfl
theorem isMap_put {H : Type} {D : DataW H} (h : IsMap D) (k : Lit) (d : DataW H) : IsMap (D.put k d) := by
  obtain ⟨es, rfl⟩ := h
  exact ⟨_, rfl⟩
theorem dct_map {H : Type} : ∀ (n : Nat) (U : List (List Nat)), U.length = n → IsMap (dct U : DataW H)
  | 0, U, h => by
    have : U = [] := List.length_eq_zero_iff.1 h
    subst this
    exact ⟨[], rfl⟩
  | n + 1, U, h => by
    rcases List.eq_nil_or_concat U with rfl | ⟨V, b, rfl⟩
    · simp at h
    · rw [List.concat_eq_append, dct_snoc]
      exact isMap_put (dct_map n V (by simp at h; exact h)) _ _
theorem bky_key (b : List Nat) : WideAt.IsKeyLit (bky b) := by unfold bky; trivial
theorem dct_has {H : Type} : ∀ (n : Nat) (U : List (List Nat)) (b : List Nat), U.length = n → (∀ a ∈ U, ok256 a) → ok256 b → Maps.has (dct U : DataW H) (bky b) = decide (b ∈ U)
  | 0, U, b, h, _, _ => by
    have : U = [] := List.length_eq_zero_iff.1 h
    subst this
    simp [dct, dcF, Maps.has]
  | n + 1, U, b, h, hU, hb => by
    rcases List.eq_nil_or_concat U with rfl | ⟨V, c, rfl⟩
    · simp at h
    · rw [List.concat_eq_append] at *
      have hV : V.length = n := by simp at h; exact h
      have ih := dct_has (H := H) n V b hV (fun a ha => hU a (by simp [ha])) hb
      rw [dct_snoc]
      by_cases e : b = c
      · subst e
        rw [has_put_same (dct_map n V hV) (bky_key b)]
        simp
      · rw [has_put_other (fun h2 => e (bky_inj hb (hU c (by simp)) h2)), ih]
        simp [e]
theorem dct_at {H : Type} (z : DataW H) : ∀ (n : Nat) (U : List (List Nat)) (b : List Nat), U.length = n → (∀ a ∈ U, ok256 a) → ok256 b → U.Nodup → (dct U : DataW H).atKey (bky b) z = if b ∈ U then .lit (.int .u16 (U.idxOf b : Int)) else z
  | 0, U, b, h, _, _, _ => by
    have : U = [] := List.length_eq_zero_iff.1 h
    subst this
    simp [dct, dcF, DataW.atKey]
  | n + 1, U, b, h, hU, hb, hnd => by
    rcases List.eq_nil_or_concat U with rfl | ⟨V, c, rfl⟩
    · simp at h
    · rw [List.concat_eq_append] at *
      have hV : V.length = n := by simp at h; exact h
      rw [List.nodup_append] at hnd
      have ih := dct_at z n V b hV (fun a ha => hU a (by simp [ha])) hb hnd.1
      rw [dct_snoc]
      by_cases e : b = c
      · subst e
        have hn : b ∉ V := fun hm => hnd.2.2 b hm b (by simp) rfl
        rw [atKey_put_same (dct_map n V hV) (bky_key b), if_pos (by simp), List.idxOf_append, if_neg hn]
        simp
      · rw [atKey_put_other (fun h2 => e (bky_inj hb (hU c (by simp)) h2)), ih]
        by_cases hm : b ∈ V
        · rw [if_pos hm, if_pos (by simp [hm]), List.idxOf_append, if_pos hm]
        · rw [if_neg hm, if_neg (by simp [hm, e])]
end Go.Proofs.Ytljlhlcoaajggaa
/- A block of classes as a map's key. -/
namespace Go.Proofs.Ytljlhlcoaajggaa
open Go.RowKit Go.Maps Go.WideMaps

theorem Try.cells82 : Try.prog.cellsOf 82 = 128 := by kernel_rfl
theorem arr82 : ArrKey Try.prog 82 5 128 := ⟨Try.underlying82, by kernel_rfl, by kernel_rfl, Try.cells82⟩
theorem law82 : Keyed Try.prog 82 := Keyed.of_law arr82.law
theorem types_some : ∃ m, Try.prog.types.size = m + 1 := ⟨145, by kernel_rfl⟩
def blk (b : List Nat) : Value := .agg (u8n b).toArray
theorem mapM_some {α β : Type} (f : α → Option β) (g : α → β) : ∀ L : List α, (∀ x ∈ L, f x = some (g x)) → L.mapM f = some (L.map g)
  | [], _ => rfl
  | x :: L, h => by
    rw [List.mapM_cons, h x (by simp), mapM_some f g L (fun y hy => h y (by simp [hy]))]
    rfl
theorem range_map {β : Type} (b : List Nat) (g : Nat → β) : (List.range b.length).map (fun i => g (b.getD i 0)) = b.map g := by
  apply List.ext_getElem?
  intro i
  by_cases h : i < b.length
  · simp [h, List.getD]
  · simp [Nat.le_of_not_lt h]
theorem drop_one (b : List Nat) (i : Nat) (h : i < b.length) : ((u8n b).drop (i * 1)).take 1 = [.int .u8 ((b.getD i 0 : Nat) : Int)] := by
  rw [Nat.mul_one, List.drop_eq_getElem_cons (by rw [u8n_len]; exact h)]
  simp [u8n, List.getD, h]
theorem flat_ones (b : List Nat) : (b.map fun c : Nat => [Lit.int .u8 (c : Int)]).flatten = b.map fun c : Nat => Lit.int .u8 (c : Int) := by
  induction b with
  | nil => rfl
  | cons a r ih => simp [ih]
theorem key_one (c : Nat) (h : c < 256) : (Lit.int .u8 (c : Int)).keyBytes = [UInt8.ofNat c] := by
  have e : ((c : Int) % 2 ^ IntKind.u8.bits).toNat = c := by
    rw [show (2 : Int) ^ IntKind.u8.bits = 256 by decide]
    omega
  show bytesBE 1 _ = _
  rw [e]
  show [UInt8.ofNat (c % 256)] = _
  rw [Nat.mod_eq_of_lt h]
theorem key_all : ∀ b : List Nat, ok256 b → keyBytes (b.map fun c : Nat => Lit.int .u8 (c : Int)) = b.map UInt8.ofNat
  | [], _ => rfl
  | a :: r, h => by
    have ih := key_all r (fun c hc => h c (by simp [hc]))
    unfold keyBytes at ih ⊢
    rw [List.map_cons, List.flatMap_cons, ih, key_one a (h a (by simp))]
    rfl
theorem wf_u8 (c : Nat) (h : c < 256) : (Lit.int .u8 (c : Int)).wf = true := by
  have h2 : IntKind.u8.min = 0 := by decide
  have h3 : IntKind.u8.max = 255 := by decide
  simp [Lit.wf]
  omega
theorem keyOf_blk (b : List Nat) (hl : b.length = 128) (h : ok256 b) : keyOf Try.prog 82 (blk b) = some (bky b) := by
  obtain ⟨m0, hm0⟩ := types_some
  have hkt := arr82.keyType types_some
  have hsz : (u8n b).toArray.size = 128 := by rw [List.size_toArray, u8n_len, hl]
  unfold keyOf blk
  simp only [arr82.hu]
  rw [if_pos (by simp [hkt, Value.formed, arr82.hu, arr82.size]; rw [u8n_len]; exact hl), hm0]
  unfold Program.keyLits
  simp only [arr82.hu, Value.cells]
  rw [if_pos (by rw [arr82.size]; simpa using hsz), arr82.one]
  rw [mapM_some _ (fun i => [Lit.int .u8 ((b.getD i 0 : Nat) : Int)]) (List.range 128) (fun i hi => by
    have hi2 : i < b.length := by rw [hl]; exact List.mem_range.1 hi
    rw [drop_one b i hi2]
    have hc : b.getD i 0 < 256 := by
      rw [List.getD, List.getElem?_eq_getElem hi2]
      exact h _ (List.getElem_mem hi2)
    have hw := wf_u8 _ hc
    unfold Program.keyLits
    rw [Try.underlying5]
    generalize b.getD i 0 = c at *
    simp [hw])]
  have e := range_map b (fun c : Nat => [Lit.int .u8 (c : Int)])
  rw [hl] at e
  rw [e]
  simp only [Option.map_some, flat_ones, key_all b h]
  rfl
end Go.Proofs.Ytljlhlcoaajggaa
/- A maker and its table in memory; the contract of number (package table). -/
namespace Go.Proofs.Ytljlhlcoaajggaa
open Go.RowKit Go.Maps Go.WideMaps

def u16n (l : List Nat) : List Value := l.map fun b : Nat => Value.int .u16 (b : Int)
theorem u16n_len (a : List Nat) : (u16n a).length = a.length := by simp [u16n]
def mkc (T K : Nat) (op : List Nat) (nx : Nat) : List Value := .pointer (some ⟨T, 0, none⟩) :: .map (some K) :: (u8n op ++ [.int .i64 (nx : Int)])
def tbc (fs : List Nat) (bv : Value) (rest : Nat) : List Value := u16n fs ++ [bv, .int .u8 (rest : Int)]
structure MkAt (B M T K : Nat) (fs : List Nat) (U : List (List Nat)) (bv : Value) (rest : Nat) (op : List Nat) (nx : Nat) (w : World) : Prop where
  hM : w.heap[M]? = some (.cells (mkc T K op nx).toArray 103 (0, 0))
  hT : w.heap[T]? = some (.cells (tbc fs bv rest).toArray 79 (0, 0))
  hK : w.ownsMap (H := Unit) Try.prog 82 (plainElem Try.prog 75) K U.length (dct U)
  hR : w.ownsRow B 82 128 bv U.length (U.flatMap u8n)
  ho : op.length = 128
  hf : fs.length = 8704
  bM : B ≤ M
  bT : B ≤ T
  bK : B ≤ K
theorem cell_row (w : World) (b j : Nat) (l : List Value) (t : TypeId) (v : Value) (h : w.heap[b]? = some (.cells l.toArray t (0, 0))) (hv : l[j]? = some v) : w.cell? ⟨b, j, none⟩ = some v := by
  rw [cell_of_row w b j l.toArray t (0, 0) h]
  simpa using hv
theorem range_row (w : World) (b o : Nat) (l cs : List Value) (t : TypeId) (h : w.heap[b]? = some (.cells l.toArray t (0, 0))) (hc : ∀ j v, cs[j]? = some v → l[o + j]? = some v) : w.rangeAt b o cs := fun j v hv => cell_row w b (o + j) l t v h (hc j v hv)
section
variable {B M T K : Nat} {fs : List Nat} {U : List (List Nat)} {bv : Value} {rest : Nat} {op : List Nat} {nx : Nat} {w : World}
theorem MkAt.c0 (h : MkAt B M T K fs U bv rest op nx w) : w.cell? ⟨M, 0, none⟩ = some (.pointer (some ⟨T, 0, none⟩)) := cell_row w M 0 _ 103 _ h.hM rfl
theorem MkAt.c1 (h : MkAt B M T K fs U bv rest op nx w) : w.cell? ⟨M, 1, none⟩ = some (.map (some K)) := cell_row w M 1 _ 103 _ h.hM rfl
theorem MkAt.rg (h : MkAt B M T K fs U bv rest op nx w) : w.rangeAt M 2 (u8n op) := range_row w M 2 _ _ 103 h.hM fun j v hv => by
  have hj : j < (u8n op).length := (List.getElem?_eq_some_iff.1 hv).1
  show (.pointer (some ⟨T, 0, none⟩) :: .map (some K) :: (u8n op ++ [.int .i64 (nx : Int)]) : List Value)[2 + j]? = some v
  rw [show 2 + j = j + 1 + 1 by omega, List.getElem?_cons_succ, List.getElem?_cons_succ, List.getElem?_append_left hj, hv]
theorem MkAt.cn (h : MkAt B M T K fs U bv rest op nx w) : w.cell? ⟨M, 130, none⟩ = some (.int .i64 (nx : Int)) := cell_row w M 130 _ 103 _ h.hM (by
  show (.pointer (some ⟨T, 0, none⟩) :: .map (some K) :: (u8n op ++ [.int .i64 (nx : Int)]) : List Value)[128 + 1 + 1]? = _
  have hl : (u8n op).length = 128 := by rw [u8n_len, h.ho]
  rw [List.getElem?_cons_succ, List.getElem?_cons_succ, List.getElem?_append_right (by omega), hl]
  rfl)
theorem MkAt.tb (h : MkAt B M T K fs U bv rest op nx w) : w.cell? ⟨T, 8704, none⟩ = some bv := cell_row w T 8704 _ 79 _ h.hT (by
  have hl : (u16n fs).length = 8704 := by rw [u16n_len, h.hf]
  unfold tbc
  rw [List.getElem?_append_right (by omega), hl]
  rfl)
end
theorem u8n_one (b : List Nat) : ∀ v ∈ u8n b, v.oneCell' = true := fun v hv => by
  obtain ⟨c, _, rfl⟩ := List.mem_map.1 hv
  rfl
theorem zero75 (w : World) : (zeroValue 75).run Try.prog w = .ok (.int .u16 0) w := by kernel_rfl
theorem lit_inj {a b : Int} (h : (DataW.lit (.int .u16 a) : DataW Unit) = .lit (.int .u16 b)) : a = b := by simpa using h
theorem look75 {w : World} {K : Nat} {U : List (List Nat)} (h : w.ownsMap (H := Unit) Try.prog 82 (plainElem Try.prog 75) K U.length (dct U)) (op : List Nat) (ho : op.length = 128) (h8 : ok256 op) (hU : ∀ a ∈ U, ok256 a) (hn : U.Nodup) :
    (Instr.lookup 101 (.map (some K)) (blk op) true).run Try.prog w = .ok (.tuple #[.int .u16 (if op ∈ U then (U.idxOf op : Int) else 0), .bool (decide (op ∈ U))]) w := by
  obtain ⟨v, ps, hr, hv⟩ := h.look_ok law82 Try.underlying101 (zero75 w) (plainElem_int Try.underlying75 (by decide)) (keyOf_blk op ho h8)
  rw [hr, dct_has U.length U op rfl hU h8]
  rw [dct_at _ U.length U op rfl hU h8 hn] at hv
  obtain ⟨c, rfl, hc, _⟩ := plainElem_int_inv Try.underlying75 hv
  have hc2 : (if op ∈ U then (DataW.lit (.int .u16 (U.idxOf op : Int)) : DataW Unit) else .lit (.int .u16 0)) = .lit (.int .u16 c) := congrArg Prod.fst hc
  have e : c = if op ∈ U then (U.idxOf op : Int) else 0 := by
    by_cases hm : op ∈ U
    · rw [if_pos hm] at hc2 ⊢
      exact (lit_inj hc2).symm
    · rw [if_neg hm] at hc2 ⊢
      exact (lit_inj hc2).symm
  rw [e]
end Go.Proofs.Ytljlhlcoaajggaa
/- The contract of number (package table): the open block's number among the unlike ones. -/
namespace Go.Proofs.Ytljlhlcoaajggaa
open Go.RowKit Go.Maps Go.WideMaps

theorem load82 {w : World} {M : Nat} {op : List Nat} (h : w.rangeAt M 2 (u8n op)) (ho : op.length = 128) : (Instr.loadAt 82 (.pointer (some ⟨M, 2, none⟩))).run Try.prog w = .ok (blk op) w :=
  run_loadAt_mid w M 2 82 (u8n op) _ h Try.underlying82 rfl (by rw [u8n_len, ho]; kernel_rfl)
theorem range_drewN {w : World} {M o : Nat} {cs : List Value} (h : w.rangeAt M o cs) (n : Nat) : (w.drewN n).rangeAt M o cs := fun j v hv => by
  have := h j v hv
  simpa using this
theorem map_drewN {w : World} {K : Nat} {U : List (List Nat)} (h : w.ownsMap (H := Unit) Try.prog 82 (plainElem Try.prog 75) K U.length (dct U)) (n : Nat) : (w.drewN n).ownsMap (H := Unit) Try.prog 82 (plainElem Try.prog 75) K U.length (dct U) := h

theorem quiet_run {ops : Array Oper} {Q : Act → Prop} {a : Act} {o : Oper} {rest : List Oper} {w : World} (v : Value) (hg : o.guard = none) (hr : ∀ n, (execOp a.eval o).run Try.prog (w.drewN n) = .ok (.value v) (w.drewN n))
    (h : wpQuiet Try.prog ops (fun w' => ∃ n, w' = w.drewN n) Q rest (a.put o.dst v)) : wpQuiet Try.prog ops (fun w' => ∃ n, w' = w.drewN n) Q (o :: rest) a := by
  refine wpQuiet_step fun K hK => ?_
  rw [if_pos (by simp [Region.wanted, hg])]
  refine ⟨v, ?_, hK _ h⟩
  rintro w' ⟨n, rfl⟩
  unfold Oper.quietAt
  rw [hr n]
  exact ⟨rfl, rfl⟩
theorem quiet_load {ops : Array Oper} {Q : Act → Prop} {a : Act} {o : Oper} {rest : List Oper} {w : World} (hg : o.guard = none) (x : Operand) (ho : o.op = .load 82 x) (M : Nat) (op : List Nat) (hx : a.eval x = .pointer (some ⟨M, 2, none⟩))
    (hl : ∀ n, (Instr.loadAt 82 (.pointer (some ⟨M, 2, none⟩))).run Try.prog (w.drewN n) = .ok (blk op) (w.drewN n))
    (h : wpQuiet Try.prog ops (fun w' => ∃ n, w' = w.drewN n) Q rest (a.put o.dst (blk op))) : wpQuiet Try.prog ops (fun w' => ∃ n, w' = w.drewN n) Q (o :: rest) a :=
  quiet_run (blk op) hg (fun n => by unfold execOp; simp only [ho, hx, Sem.run_bind, hl n, Result.andThen_ok, Sem.run_pure]) h
theorem quiet_look {ops : Array Oper} {Q : Act → Prop} {a : Act} {o : Oper} {rest : List Oper} {w : World} (hg : o.guard = none) (x y : Operand) (ho : o.op = .lookup 101 x y true) (K : Nat) (op : List Nat) (v : Value) (hx : a.eval x = .map (some K)) (hy : a.eval y = blk op)
    (hl : ∀ n, (Instr.lookup 101 (.map (some K)) (blk op) true).run Try.prog (w.drewN n) = .ok v (w.drewN n))
    (h : wpQuiet Try.prog ops (fun w' => ∃ n, w' = w.drewN n) Q rest (a.put o.dst v)) : wpQuiet Try.prog ops (fun w' => ∃ n, w' = w.drewN n) Q (o :: rest) a :=
  quiet_run v hg (fun n => by unfold execOp; simp only [ho, hx, hy, Sem.run_bind, hl n, Result.andThen_ok, Sem.run_pure]) h

set_option maxRecDepth 100000 in
set_option maxHeartbeats 3000000 in
theorem number_known (B M T K : Nat) (fs : List Nat) (U : List (List Nat)) (bv : Value) (rest : Nat) (op : List Nat) (nx : Nat) (w : World) (h : MkAt B M T K fs U bv rest op nx w) (h8 : ok256 op) (hU : ∀ a ∈ U, ok256 a) (hn : U.Nodup) (hm : op ∈ U) :
    Calls Try.prog 75 #[.pointer (some ⟨M, 0, none⟩)] w fun e w' => e = .returned (.int .u16 (U.idxOf op : Int)) ∧ ∃ n, w' = w.drewN n := by
  have c1 := h.c1
  have HLD := hid (show ∀ n, (Instr.loadAt 82 (.pointer (some ⟨M, 2, none⟩))).run Try.prog (w.drewN n) = .ok (blk op) (w.drewN n) from fun n => load82 (range_drewN h.rg n) h.ho)
  have HLK := hid (show ∀ n, (Instr.lookup 101 (.map (some K)) (blk op) true).run Try.prog (w.drewN n) = .ok (.tuple #[.int .u16 (U.idxOf op : Int), .bool true]) (w.drewN n) from fun n => by
    have := look75 (map_drewN h.hK n) op h.ho h8 hU hn
    rw [if_pos hm, decide_eq_true hm] at this
    exact this)
  obtain ⟨x, hx⟩ : ∃ x : Int, x = (U.idxOf op : Int) := ⟨_, rfl⟩
  rw [← hx] at HLK ⊢
  clear hx h h8 hU hn hm
  go_enter Try.func75, Try.ntmps75
  go_wp2_with fail
  refine wp_region_quiet_lit (by kernel_rfl) (by kernel_rfl) ?_
  iterate 7 quiet_step (fail)
  refine quiet_load rfl _ rfl M op rfl HLD.out ?_
  refine quiet_look rfl _ _ rfl K op _ rfl rfl HLK.out ?_
  repeat (quiet_step (fail))
  refine wpQuiet_nil ?_
  intro _ hw'
  obtain ⟨nq, hw''⟩ := hw'
  subst hw''
  go_wp2
  go_ret
  exact ⟨rfl, nq, rfl⟩
end Go.Proofs.Ytljlhlcoaajggaa
/- A block in a slice of its own. -/
namespace Go.Proofs.Ytljlhlcoaajggaa
open Go.RowKit

theorem fold_set : ∀ (l : List Value) (k : Nat) (z : Array Value), z.size = k + l.length → (l.zipIdx k).foldl (fun acc (p : Value × Nat) => acc.setIfInBounds (0 + p.2) p.1) z = (z.toList.take k ++ l).toArray
  | [], k, z, h => by
    rw [List.take_of_length_le (by simp at h; simp; omega)]
    simp
  | x :: l, k, z, h => by
    rw [List.zipIdx_cons, List.foldl_cons]
    rw [fold_set l (k + 1) _ (by simp at h ⊢; omega)]
    congr 1
    have hk : k < z.toList.length := by simp at h ⊢; omega
    have e : (z.setIfInBounds (0 + k) x).toList.take (k + 1) = z.toList.take k ++ [x] := by
      rw [Nat.zero_add, Array.toList_setIfInBounds, List.take_succ_eq_append_getElem (by simpa using hk), List.getElem_set_self, List.take_set_of_le (Nat.le_refl _)]
    rw [e]
    simp
theorem fill_one (cs z : Array Value) (h : cs.size = 128) (hz : z.size = 128) : Instr.fill (fun i => some (i * 128, 128)) z [(0, .agg cs)] = some cs := by
  unfold Instr.fill
  simp only [Value.cells, h, hz]
  unfold Instr.fill
  have e := fold_set cs.toList 0 z (by simp [h, hz])
  have e2 : (cs.zipIdx.foldl (fun acc (p : Value × Nat) => acc.setIfInBounds (0 + p.2) p.1) z) = cs := by
    rw [← Array.foldl_toList, Array.toList_zipIdx]
    rw [e]
    simp
  simp only [Nat.zero_mul]
  simpa using e2
theorem zero82 (w : World) : (zeroValue 82).run Try.prog w = .ok (.agg (Array.replicate 128 (.int .u8 0))) w := by kernel_rfl
theorem size82 (w : World) : (sizeOf 82).run Try.prog w = .ok 128 w := by kernel_rfl
theorem run_build82 (w : World) (cs : List Value) (h : cs.length = 128) : (Instr.buildSlice 77 1 #[(0, .agg cs.toArray)]).run Try.prog w = .ok (.slice (some ⟨w.heap.size, 0, none⟩) 1 1) (w.alloc (.cells cs.toArray 82)) := by
  have hf := fun z hz => fill_one cs.toArray z (by simpa using h) hz
  unfold Instr.buildSlice
  rw [Sem.run_bind, run_underlying Try.underlying77 w, Result.andThen_ok]
  simp only []
  rw [Sem.run_bind, size82 w, Result.andThen_ok]
  rw [if_neg (by decide), if_neg (by decide)]
  rw [Sem.run_bind, zero82 w, Result.andThen_ok]
  simp only [pure_bind]
  rw [hf _ (by simp)]
  rfl
end Go.Proofs.Ytljlhlcoaajggaa
