/- The contract of number (package table) where the open block is new. -/
import Derived.Test.YtljlhlcoaajggaaBuild
import Derived.Test.YtljlhlcoaajggaaHeld
import Derived.Deep.RegionHeld3
import Derived.Deep.DrawnRows
import Derived.Lib.BufferRead
namespace Go.Proofs.Ytljlhlcoaajggaa
open Go.RowKit Go.Maps Go.WideMaps

theorem Try.info82 : (Try.prog.info? 82).map (fun i => (i.zero, i.size, i.bytes)) = some (some (.agg (Array.replicate 128 (.int .u8 0))), 128, 128) := by kernel_rfl
theorem set_row (w : World) (b j : Nat) (l : List Value) (t : TypeId) (u : Value) (h : w.heap[b]? = some (.cells l.toArray t (0, 0))) : (w.setCell ⟨b, j, none⟩ u).heap[b]? = some (.cells (l.set j u).toArray t (0, 0)) := by
  have := Lib.heap_setCell_same (i := j) h u
  rw [this]
  simp
theorem tbc_set (fs : List Nat) (bv v : Value) (rest : Nat) (hf : fs.length = 8704) : (tbc fs bv rest).set 8704 v = tbc fs v rest := by
  unfold tbc
  rw [List.set_append_right _ _ (by rw [u16n_len, hf]; exact Nat.le_refl _), u16n_len, hf]
  rfl
theorem row_not {w : World} {B : Nat} {v : Value} {n : Nat} {xs : List Value} (h : w.ownsRow B 82 128 v n xs) (b : Nat) (o : Obj) (hb : w.heap[b]? = some o) (ho : ∀ c, o ≠ .cells c 82 (0, 0)) : v.ownBlock ≠ some b := fun e => by
  rcases h.2 with ⟨h0, _⟩ | ⟨g, cap, cur, hv, _, hg, _⟩
  · rw [h0] at e; cases e
  · rw [hv] at e
    have : g = b := by simpa [Value.ownBlock] using e
    subst this
    rw [hg] at hb
    injection hb with hb
    exact ho _ hb.symm
theorem flat_snoc (U : List (List Nat)) (b : List Nat) : (U ++ [b]).flatMap u8n = U.flatMap u8n ++ u8n b := by simp
theorem row_form {w : World} {B : Nat} {v : Value} {n : Nat} {xs : List Value} (h : w.ownsRow B 82 128 v n xs) : ∃ bo bc, v = .slice bo n bc := by
  rcases h.2 with ⟨h0, h1⟩ | ⟨g, cap, cur, hv, _⟩
  · exact ⟨none, 0, by rw [h0, h1]⟩
  · exact ⟨_, _, hv⟩

theorem lt_of_heap {w : World} {b : Nat} {o : Obj} (h : w.heap[b]? = some o) : b < w.heap.size := (Array.getElem?_eq_some_iff.1 h).1
theorem len_one (U : List (List Nat)) (b : List Nat) : (U ++ [b]).length = U.length + 1 := by simp
theorem wf_u16 (n : Nat) (h : n < 65536) : (Lit.int .u16 (n : Int)).wf = true := by
  have h2 : IntKind.u16.min = 0 := by decide
  have h3 : IntKind.u16.max = 65535 := by decide
  simp [Lit.wf]
  omega
theorem ne_map {w : World} {K n : Nat} {D : DataW Unit} {R : Value → Option (DataW Unit × List MemPlace)} (h : w.ownsMap Try.prog 82 R K n D) {c : Array Value} {t : TypeId} {f : Nat × Nat} (hb : w.heap[K]? = some (.cells c t f)) : False := by
  obtain ⟨es, clock, hk, _⟩ := h
  rw [hk] at hb
  cases hb
theorem row_not_map {w : World} {B : Nat} {v : Value} {n : Nat} {xs : List Value} (h : w.ownsRow B 82 128 v n xs) {K m : Nat} {D : DataW Unit} {R : Value → Option (DataW Unit × List MemPlace)} (hk : w.ownsMap Try.prog 82 R K m D) : v.ownBlock ≠ some K := fun e => by
  rcases h.2 with ⟨h0, _⟩ | ⟨g, cap, cur, hv, _, hg, _⟩
  · rw [h0] at e; cases e
  · rw [hv] at e
    have : g = K := by simpa [Value.ownBlock] using e
    subst this
    exact ne_map hk hg
theorem rg_row {w : World} {M T K nx : Nat} {op : List Nat} (h : w.heap[M]? = some (.cells (mkc T K op nx).toArray 103 (0, 0))) : w.rangeAt M 2 (u8n op) := range_row w M 2 _ _ 103 h fun j v hv => by
  have hj : j < (u8n op).length := (List.getElem?_eq_some_iff.1 hv).1
  show (.pointer (some ⟨T, 0, none⟩) :: .map (some K) :: (u8n op ++ [.int .i64 (nx : Int)]) : List Value)[2 + j]? = some v
  rw [show 2 + j = j + 1 + 1 by omega, List.getElem?_cons_succ, List.getElem?_cons_succ, List.getElem?_append_left hj, hv]

theorem tb_row {w : World} {T rest : Nat} {fs : List Nat} {bv : Value} (h : w.heap[T]? = some (.cells (tbc fs bv rest).toArray 79 (0, 0))) (hf : fs.length = 8704) : w.cell? ⟨T, 8704, none⟩ = some bv := cell_row w T 8704 _ 79 _ h (by
  have hl : (u16n fs).length = 8704 := by rw [u16n_len, hf]
  unfold tbc
  rw [List.getElem?_append_right (by omega), hl]
  rfl)
theorem frozen_row {w : World} {b : Nat} {l : Array Value} {t : TypeId} (h : w.heap[b]? = some (.cells l t (0, 0))) (j : Nat) : w.frozen? ⟨b, j, none⟩ = false := by
  unfold World.frozen?
  simp only [h]
  simp
theorem heap_alloc_old (w : World) (o : Obj) (b : Nat) (h : b < w.heap.size) : (w.alloc o).heap[b]? = w.heap[b]? := by
  show (w.heap.push o)[b]? = _
  rw [Array.getElem?_push]
  rw [if_neg (by omega)]

theorem hold_load {ops : Array Oper} {L : Act → Prop} {S : World → Prop} {a : Act} {o : Oper} {r : List Oper} (hg : o.guard = none) (x : Operand) (ho : o.op = .load 82 x) (M : Nat) (op : List Nat) (hx : a.eval x = .pointer (some ⟨M, 2, none⟩))
    (hS : ∀ w, S w → (Instr.loadAt 82 (.pointer (some ⟨M, 2, none⟩))).run Try.prog w = .ok (blk op) w)
    (h : wpHold Try.prog ops S L r (a.put o.dst (blk op))) : wpHold Try.prog ops S L (o :: r) a :=
  wpHold_step (blk op) hg (fun w' hw => by unfold execOp; simp only [ho, hx, Sem.run_bind, hS w' hw, Result.andThen_ok, Sem.run_pure]) h
theorem tail_nil {P : Program} {ops : Array Oper} {Q : Exit → Act → World → Prop} {S : World → Prop} {fin : Nat → Bool} {k : Nat} {a : Act} {w : World} (h : Q .normal a w) : wpTail P ops Q S fin k [] a w := h
theorem tail_build {ops : Array Oper} {Q : Exit → Act → World → Prop} {S : World → Prop} {fin : Nat → Bool} {k : Nat} {a : Act} {o : Oper} {r : List Oper} {w : World} (x : Operand) (ho : o.op = .buildSlice 77 1 #[(0, x)]) (op : List Nat) (hx : a.eval x = blk op) (hl : op.length = 128)
    (hS : S (w.alloc (.cells (u8n op).toArray 82))) (h : wpTail Try.prog ops Q S fin (k + 1) r (a.put o.dst (.slice (some ⟨w.heap.size, 0, none⟩) 1 1)) (w.alloc (.cells (u8n op).toArray 82))) : wpTail Try.prog ops Q S fin k (o :: r) a w := by
  have hb := run_build82 w (u8n op) (by rw [u8n_len, hl])
  refine wpTail_step fun K hK => ?_
  unfold Oper.wp execOp
  have e : (#[(0, x)] : Array (Nat × Operand)).map (fun (i, x) => (i, a.eval x)) = #[(0, .agg (u8n op).toArray)] := by simp [hx, blk]
  simp only [ho]
  rw [e]
  simp only [Sem.run_bind, hb, Result.andThen_ok, Sem.run_pure]
  exact hK _ _ (fun _ => hS) h

/-- What a maker leaves alone: all but its own block, its table's, its map's and its list's; a new list lies in a new block. -/
structure Far (M T K : Nat) (bv bv' : Value) (w w' : World) : Prop where
  st : ∀ x, x < w.heap.size → x ≠ M → x ≠ T → x ≠ K → bv.ownBlock ≠ some x → w'.heap[x]? = w.heap[x]?
  nw : ∀ x, bv'.ownBlock = some x → bv.ownBlock = some x ∨ w.heap.size ≤ x
  sz : w.heap.size ≤ w'.heap.size
theorem Far.refl (M T K : Nat) (bv : Value) (w : World) : Far M T K bv bv w w := ⟨fun _ _ _ _ _ _ => rfl, fun _ h => .inl h, Nat.le_refl _⟩
theorem Far.trans {M T K : Nat} {a b c : Value} {u v w : World} (h : Far M T K a b u v) (h2 : Far M T K b c v w) : Far M T K a c u w :=
  ⟨fun x hx h3 h4 h5 h6 => (h2.st x (Nat.lt_of_lt_of_le hx h.sz) h3 h4 h5 (fun e => by rcases h.nw x e with h7 | h7; exact h6 h7; omega)).trans (h.st x hx h3 h4 h5 h6),
   fun x e => by
    rcases h2.nw x e with h3 | h3
    · exact h.nw x h3
    · exact .inr (Nat.le_trans h.sz h3), Nat.le_trans h.sz h2.sz⟩
theorem Far.drewN {M T K : Nat} {a b : Value} {u v : World} (h : Far M T K a b u v) (n : Nat) : Far M T K a b u (v.drewN n) := ⟨h.st, h.nw, h.sz⟩
theorem Far.drew {M T K : Nat} {a b : Value} {u v : World} (h : Far M T K a b u v) : Far M T K a b u v.drew := ⟨h.st, h.nw, h.sz⟩
theorem Far.set {M T K : Nat} {a b : Value} {u v : World} (h : Far M T K a b u v) (p : Addr) (hp : p.block = M ∨ p.block = T) (x : Value) : Far M T K a b u (v.setCell p x) :=
  h.trans ⟨fun y _ h3 h4 _ _ => Below.heap_setCell v p x y (fun e => by rcases hp with hp | hp; exact h3 (e.trans hp); exact h4 (e.trans hp)), fun _ e => .inl e, by simp [World.setCell]⟩

set_option maxRecDepth 100000 in
set_option maxHeartbeats 3000000 in
theorem number_new (B M T K : Nat) (fs : List Nat) (U : List (List Nat)) (bv : Value) (rest : Nat) (op : List Nat) (nx : Nat) (w : World) (h : MkAt B M T K fs U bv rest op nx w) (hB : B ≤ w.heap.size) (h8 : ok256 op) (hU : ∀ a ∈ U, ok256 a) (hn : U.Nodup) (hm : op ∉ U) (hUl : U.length ≤ 8704) :
    Calls Try.prog 75 #[.pointer (some ⟨M, 0, none⟩)] w fun e w' => ∃ bv', e = .returned (.int .u16 (U.length : Int)) ∧ MkAt B M T K fs (U ++ [op]) bv' rest op nx w' ∧ Below B w w' ∧ Far M T K bv bv' w w' := by
  obtain ⟨i0, hi, hz0, hz1, hz2⟩ := info_parts Try.info82
  obtain ⟨bo, bc, rfl⟩ := row_form h.hR
  have c0 := h.c0
  have c1 := h.c1
  have tb := h.tb
  have HLD := hid (show ∀ n, (Instr.loadAt 82 (.pointer (some ⟨M, 2, none⟩))).run Try.prog (w.drewN n) = .ok (blk op) (w.drewN n) from fun n => load82 (range_drewN h.rg n) h.ho)
  have HLK := hid (show ∀ n, (Instr.lookup 101 (.map (some K)) (blk op) true).run Try.prog (w.drewN n) = .ok (.tuple #[.int .u16 0, .bool false]) (w.drewN n) from fun n => by
    have := look75 (map_drewN h.hK n) op h.ho h8 hU hn
    rw [if_neg hm, decide_eq_false hm] at this
    exact this)
  have e1 : IntKind.u16.wrap (U.length : Int) = (U.length : Int) := by rw [IntKind.wrap_u16]; omega
  have HH := hid h
  have HKY := hid (keyOf_blk op h.ho h8)
  clear h h8 hU hn hm
  go_enter Try.func75, Try.ntmps75
  go_wp2_with fail
  refine wp_region_quiet_lit (by kernel_rfl) (by kernel_rfl) ?_
  iterate 7 quiet_step (fail)
  refine quiet_load rfl _ rfl M op rfl HLD.out ?_
  refine quiet_look rfl _ _ rfl K op _ rfl rfl HLK.out ?_
  repeat (quiet_step (fail))
  refine wpQuiet_nil ?_
  intro _ hw'
  obtain ⟨nq, hw''⟩ := hw'
  subst hw''
  go_wp2
  have HFW := hid ((Far.refl M T K (.slice bo U.length bc) w).drewN nq)
  have HBW := hid (show Below B w (w.drewN nq) from ⟨rfl, rfl, rfl, Nat.le_refl _, fun _ _ => rfl⟩)
  have HW0 := hid (show MkAt B M T K fs U (.slice bo U.length bc) rest op nx (w.drewN nq) from ⟨HH.out.hM, HH.out.hT, HH.out.hK, HH.out.hR, HH.out.ho, HH.out.hf, HH.out.bM, HH.out.bT, HH.out.bK⟩)
  have hBW : B ≤ (w.drewN nq).heap.size := hB
  clear HLD HLK HH c0 c1 tb
  generalize w.drewN nq = W at *
  obtain ⟨w1, hrun, ho1, hg1⟩ := (World.ownsMap.drew HW0.out.hK).update law82 Try.underlying101 (by unfold maxLen; omega) HKY.out (plainElem_int Try.underlying75 (wf_u16 U.length (by omega)))
  rw [← dct_snoc, ← len_one U op] at ho1
  unfold blk at hrun
  have hu := Try.underlying82
  have hi82 : (Try.prog.info? 82).map (·.size) = some (u8n op).length := by rw [u8n_len, HW0.out.ho]; kernel_rfl
  have hl8 : (u8n op).length = 128 := by rw [u8n_len, HW0.out.ho]
  have h1c := u8n_one op
  have c1W := HW0.out.c1
  have rgW := HW0.out.rg
  have HM1 := hid ((hg1.block M (lt_of_heap HW0.out.hM) (fun e => by cases e; exact ne_map HW0.out.hK HW0.out.hM)).trans HW0.out.hM)
  have HT1 := hid ((hg1.block T (lt_of_heap HW0.out.hT) (fun e => by cases e; exact ne_map HW0.out.hK HW0.out.hT)).trans HW0.out.hT)
  have HR1 := hid (World.ownsRow.kept (World.ownsRow.drew HW0.out.hR) hg1 (.inr (row_not_map HW0.out.hR HW0.out.hK)))
  have HB1 := hid ((HBW.out.trans (show Below B W W.drew from ⟨rfl, rfl, rfl, Nat.le_refl _, fun _ _ => rfl⟩)).grown hg1 hBW (fun k hk => by cases hk; exact HW0.out.bK))
  have HK1 := hid ho1
  have HF1 := hid (show Far M T K (.slice bo U.length bc) (.slice bo U.length bc) w w1 from HFW.out.drew.trans ⟨fun x hx _ _ h3 _ => hg1.block x hx (fun e => h3 (by cases e; rfl)), fun _ e => .inl e, hg1.size⟩)
  have HC := hid HW0.out
  have hB1 : B ≤ w1.heap.size := Nat.le_trans hBW hg1.size
  have c1w1 : w1.cell? ⟨M, 1, none⟩ = some (.map (some K)) := cell_row w1 M 1 _ 103 _ HM1.out rfl
  have rg1 : w1.rangeAt M 2 (u8n op) := rg_row HM1.out
  clear HBW HFW hg1 ho1 HKY
  go_region_held3 (fun w' => w'.cell? ⟨M, 1, none⟩ = some (.map (some K)) ∧ w'.rangeAt M 2 (u8n op)) (first | go_keep_ranges | exact ⟨c1w1, rg1⟩) (fail)
  have hMT : M ≠ T := fun e => by
    subst e
    have h1 := HM1.out
    rw [HT1.out] at h1
    injection h1 with h1
    injection h1 with h1 h2 h3
    exact absurd h2 (by decide)
  have c0w1 : w1.cell? ⟨M, 0, none⟩ = some (.pointer (some ⟨T, 0, none⟩)) := cell_row w1 M 0 _ 103 _ HM1.out rfl
  have tb1 : w1.cell? ⟨T, 8704, none⟩ = some (.slice bo U.length bc) := tb_row HT1.out HW0.out.hf
  have hTs := lt_of_heap HT1.out
  have hMs := lt_of_heap HM1.out
  have HNM := hid (row_not HR1.out M _ HM1.out (fun c e => by injection e with e1 e2; exact absurd e2 (by decide)))
  have HNT := hid (row_not HR1.out T _ HT1.out (fun c e => by injection e with e1 e2; exact absurd e2 (by decide)))
  have HNEW := hid (World.news_of_block (cs := (u8n op).toArray) (t := 82) (fr := (0, 0)) (heap_alloc_new w1 (.cells (u8n op).toArray 82)))
  clear hrun c1W rgW c1w1 hBW hB
  go_wp2_with fail
  refine wp_region_noPanic ?_
  refine wp_region_hold 15 (fun w' => w'.cell? ⟨M, 0, none⟩ = some (.pointer (some ⟨T, 0, none⟩)) ∧ w'.cell? ⟨T, 8704, none⟩ = some (.slice bo U.length bc) ∧ w'.rangeAt M 2 (u8n op)) (fun j => j == 19) (by kernel_rfl) (by kernel_rfl) (by decide) (fun j hj => by have := beq_iff_eq.1 hj; subst this; decide) (by kernel_rfl) (by kernel_rfl) (fun _ _ _ _ _ h => h) ⟨c0w1, tb1, rg1⟩ ?_
  dsimp only [List.take, List.drop]
  iterate 14 (refine wpHold_step ?_ rfl (fun w' hS => ?_) ?_; (rotate_left; (obtain ⟨s1, s2, s3⟩ := hS; go_simp; with_reducible rfl); rotate_left))
  simp only [Act.put, List.setIfInBounds_toArray, List.set_cons_zero, List.set_cons_succ]
  refine hold_load rfl _ rfl M op rfl (fun w' hS => load82 hS.2.2 HW0.out.ho) ?_
  simp only [Act.put, List.setIfInBounds_toArray, List.set_cons_zero, List.set_cons_succ]
  show wpTail _ _ _ _ _ _ _ _ _
  refine tail_build _ rfl op rfl HW0.out.ho ⟨?q1, ?q2, ?q3⟩ ?_
  case q1 => exact (World.cell?_alloc_lt w1.drew _ ⟨M, 0, none⟩ (show M < w1.drew.heap.size from hMs)).trans c0w1
  case q2 => exact (World.cell?_alloc_lt w1.drew _ ⟨T, 8704, none⟩ (show T < w1.drew.heap.size from hTs)).trans tb1
  case q3 => exact World.rangeAt_alloc rg1 _
  simp only [Act.put, List.setIfInBounds_toArray, List.set_cons_zero, List.set_cons_succ]
  refine wpTail_step fun KK hKK => ?_
  refine wp_append_lies _ _ _ 77 rfl B 82 i0 _ 128 128 Try.underlying77 hi hz0 hz1 hz2 rfl (by decide) (.slice bo U.length bc) U.length (U.flatMap u8n) rfl (HR1.out.drew.alloc _)
        ⟨w1.heap.size, 0, none⟩ 1 1 (u8n op) rfl (by rw [hl8]) HNEW.out h1c
        (by decide) (by unfold maxLen; omega) (by omega) (by show B ≤ (w1.heap.push _).size; simp; omega) (w1.heap.size + 1) (by show (w1.heap.push _).size = _; simp) ?_
  intro gg cap w2 o2 gr2 hat2 hlt2
  have HM2 := hid ((gr2.block M (by show M < (w1.heap.push _).size; simp; omega) (fun e => HNM.out e.symm)).trans ((heap_alloc_old w1 _ M hMs).trans HM1.out))
  have HT2 := hid ((gr2.block T (by show T < (w1.heap.push _).size; simp; omega) (fun e => HNT.out e.symm)).trans ((heap_alloc_old w1 _ T hTs).trans HT1.out))
  have tb2 : w2.cell? ⟨T, 8704, none⟩ = some (.slice bo U.length bc) := tb_row HT2.out HW0.out.hf
  have fz2 : w2.frozen? ⟨T, 8704, none⟩ = false := frozen_row HT2.out 8704
  have c02 : w2.cell? ⟨M, 0, none⟩ = some (.pointer (some ⟨T, 0, none⟩)) := cell_row w2 M 0 _ 103 _ HM2.out rfl
  have HS2 := hid (show w2.cell? ⟨M, 0, none⟩ = some (.pointer (some ⟨T, 0, none⟩)) ∧ w2.cell? ⟨T, 8704, none⟩ = some (.slice bo U.length bc) ∧ w2.rangeAt M 2 (u8n op) from ⟨c02, tb2, rg_row HM2.out⟩)
  refine hKK _ _ (fun _ => HS2.out) ?_
  clear hKK KK
  simp only [Act.put, List.setIfInBounds_toArray, List.set_cons_zero, List.set_cons_succ]
  refine wpTail_step fun KK hKK => ?_
  go_simp
  refine hKK _ _ (fun _ => HS2.out) ?_
  clear hKK KK
  refine wpTail_step fun KK hKK => ?_
  go_simp
  refine hKK _ _ (fun _ => HS2.out) ?_
  clear hKK KK
  refine wpTail_step fun KK hKK => ?_
  go_simp
  refine hKK _ _ (fun h => absurd h (by decide)) ?_
  clear hKK KK
  refine tail_nil (NoPanic.normal ?_)
  have HNT2 := hid (row_not o2 T _ HT2.out (fun c e => by injection e with e1 e2; exact absurd e2 (by decide)))
  have HKT := hid (show K ≠ T from fun e => by subst e; exact ne_map HK1.out HT1.out)
  have HFM := hid (show (w2.setCell ⟨T, 8704, none⟩ (.slice (some ⟨gg, 0, none⟩) (U.length + 1) cap)).heap[M]? = some (.cells (mkc T K op nx).toArray 103 (0, 0)) from (Below.heap_setCell w2 ⟨T, 8704, none⟩ _ M hMT).trans HM2.out)
  have HFT := hid (show (w2.setCell ⟨T, 8704, none⟩ (.slice (some ⟨gg, 0, none⟩) (U.length + 1) cap)).heap[T]? = some (.cells (tbc fs (.slice (some ⟨gg, 0, none⟩) (U.length + 1) cap) rest).toArray 79 (0, 0)) by
    rw [set_row w2 T 8704 _ 79 _ HT2.out, tbc_set _ _ _ _ HW0.out.hf])
  have HFK := hid ((((HK1.out.drew.alloc (.cells (u8n op).toArray 82)).kept gr2 (fun e => row_not_map HR1.out HK1.out e.symm)).setCell (a := ⟨T, 8704, none⟩) HKT.out (.slice (some ⟨gg, 0, none⟩) (U.length + 1) cap)))
  have HFR := hid (show (w2.setCell ⟨T, 8704, none⟩ (.slice (some ⟨gg, 0, none⟩) (U.length + 1) cap)).ownsRow B 82 128 (.slice (some ⟨gg, 0, none⟩) (U.length + 1) cap) (U ++ [op]).length ((U ++ [op]).flatMap u8n) by
    rw [flat_snoc, len_one]
    exact ownsRow_setCell_other o2 (a := ⟨T, 8704, none⟩) HNT2.out _)
  have HFB := hid ((((HB1.out.trans (show Below B w1 w1.drew from ⟨rfl, rfl, rfl, Nat.le_refl _, fun _ _ => rfl⟩)).alloc hB1 (.cells (u8n op).toArray 82)).grown gr2 (by show B ≤ (w1.heap.push _).size; simp; omega) (fun k hk => (HR1.out.lt k hk).1)).setCell (p := ⟨T, 8704, none⟩) HW0.out.bT (.slice (some ⟨gg, 0, none⟩) (U.length + 1) cap))
  have HFF := hid (show Far M T K (.slice bo U.length bc) (.slice (some ⟨gg, 0, none⟩) (U.length + 1) cap) w (w2.setCell ⟨T, 8704, none⟩ (.slice (some ⟨gg, 0, none⟩) (U.length + 1) cap)) from
    (HF1.out.trans (show Far M T K (.slice bo U.length bc) (.slice (some ⟨gg, 0, none⟩) (U.length + 1) cap) w1 w2 from ⟨fun x hx _ _ _ h6 => (gr2.block x (by show x < (w1.heap.push _).size; simp; omega) (fun e => h6 e.symm)).trans (heap_alloc_old w1 _ x hx), fun x e => by
      have e2 : gg = x := by simpa [Value.ownBlock] using e
      subst e2
      rcases hat2 with h9 | h9
      · exact .inl h9
      · exact .inr (by omega), by have h9 := gr2.size; have h8 : (w1.heap.push (.cells (u8n op).toArray 82)).size ≤ w2.heap.size := h9; simp at h8; omega⟩)).set _ (.inr rfl) _)
  clear o2 gr2 hat2 hlt2 HNEW HS2 tb2 fz2 c02 rg1 tb1 c0w1 HM2 HT2
  generalize w2.setCell ⟨T, 8704, none⟩ (.slice (some ⟨gg, 0, none⟩) (U.length + 1) cap) = wf at *
  go_wp2
  go_ret
  exact ⟨_, rfl, ⟨HFM.out, HFT.out, HFK.out, HFR.out, HW0.out.ho, HW0.out.hf, HW0.out.bM, HW0.out.bT, HW0.out.bK⟩, HFB.out, HFF.out⟩
end Go.Proofs.Ytljlhlcoaajggaa
