/- A new maker; the contract of made (package table). -/
import Derived.Test.YtljlhlcoaajggaaMade1All
namespace Go.Proofs.Ytljlhlcoaajggaa
open Go.RowKit Go.Maps Go.WideMaps

theorem run_build103 (w : World) (T K : Nat) : (Instr.build 103 #[(0, .pointer (some ⟨T, 0, none⟩)), (1, .map (some K))]).run Try.prog w = .ok (.agg (mkc T K (List.replicate 128 0) 0).toArray) w := by kernel_rfl
theorem run_alloc103 (w : World) : (Instr.alloc 103 true (.tuple #[])).run Try.prog w = .ok (.pointer (some ⟨w.heap.size, 0, none⟩)) (w.alloc (.cells z103.toArray 103)) := by kernel_rfl
theorem run_box79 (w : World) (r : Nat) : (Instr.box 79 (.agg (tb0 r))).run Try.prog w = .ok (.pointer (some ⟨w.heap.size, 0, none⟩)) (w.alloc (.cells (tb0 r) 79)) := rfl
theorem set_cells (b : Nat) (t : TypeId) : ∀ (cs l : List Value) (o : Nat) (w : World), w.heap[b]? = some (.cells l.toArray t (0, 0)) → o + cs.length ≤ l.length → (w.setCells b o cs).heap[b]? = some (.cells (l.take o ++ cs ++ l.drop (o + cs.length)).toArray t (0, 0))
  | [], l, o, w, h, _ => by
    show w.heap[b]? = _
    rw [h]
    simp
  | v :: cs, l, o, w, h, hl => by
    have hl2 : o + 1 + cs.length ≤ (l.set o v).length := by simp at hl ⊢; omega
    have hol : o < l.length := by simp at hl; omega
    have h2 := set_cells b t cs (l.set o v) (o + 1) _ (set_row w b o l t v h) hl2
    show ((w.setCell ⟨b, o, none⟩ v).setCells b (o + 1) cs).heap[b]? = _
    rw [h2]
    have e1 : (l.set o v).take (o + 1) = l.take o ++ [v] := by
      rw [List.take_succ_eq_append_getElem (by simpa using hol), List.getElem_set_self, List.take_set_of_le (Nat.le_refl _)]
    have e2 : (l.set o v).drop (o + 1 + cs.length) = l.drop (o + (v :: cs).length) := by
      rw [List.drop_set_of_lt (by omega)]
      simp only [List.length_cons]
      rw [show o + 1 + cs.length = o + (cs.length + 1) by omega]
    rw [e1, e2]
    simp
theorem mkc_len (T K : Nat) : (mkc T K (List.replicate 128 0) 0).length = 131 := by kernel_rfl
theorem mkc_one (T K : Nat) (op : List Nat) (n : Nat) : ∀ v ∈ mkc T K op n, v.oneCell' = true := fun v hv => by
  unfold mkc at hv
  rcases List.mem_cons.1 hv with rfl | hv
  · rfl
  rcases List.mem_cons.1 hv with rfl | hv
  · rfl
  rcases List.mem_append.1 hv with hv | hv
  · exact u8n_one op v hv
  · rw [List.mem_singleton.1 hv]; rfl
/-- What made lays first. -/
def wNew (r : Nat) (w : World) : World := ((w.alloc (.cells (tb0 r) 79)).alloc (.map #[] 0)).alloc (.cells z103.toArray 103)
theorem wNew_M (r : Nat) (w : World) : (wNew r w).heap[w.heap.size + 2]? = some (.cells z103.toArray 103 (0, 0)) := by
  show (((w.heap.push _).push _).push _)[w.heap.size + 2]? = _
  rw [Array.getElem?_push, if_pos (by simp)]
theorem wNew_T (r : Nat) (w : World) : (wNew r w).heap[w.heap.size]? = some (.cells (tb0 r) 79 (0, 0)) := by
  show (((w.heap.push _).push _).push _)[w.heap.size]? = _
  rw [Array.getElem?_push, if_neg (by simp; omega), Array.getElem?_push, if_neg (by simp), Array.getElem?_push, if_pos rfl]
theorem z103_len : z103.length = 131 := by kernel_rfl
theorem run_store103 (r : Nat) (w : World) : (Instr.storeAt 103 (.pointer (some ⟨w.heap.size + 2, 0, none⟩)) (.agg (mkc w.heap.size (w.heap.size + 1) (List.replicate 128 0) 0).toArray)).run Try.prog (wNew r w) = .ok () ((wNew r w).setCells (w.heap.size + 2) 0 (mkc w.heap.size (w.heap.size + 1) (List.replicate 128 0) 0)) := by
  have h := run_storeAt_mid (P := Try.prog) (wNew r w) (w.heap.size + 2) 0 103 (mkc w.heap.size (w.heap.size + 1) (List.replicate 128 0) 0).toArray (fun j hj => by
    rw [List.size_toArray, mkc_len] at hj
    rw [Nat.zero_add]
    refine ⟨?_, frozen_row (wNew_M r w) j⟩
    rw [cell_row (wNew r w) _ j z103 103 (z103[j]'(by rw [z103_len]; exact hj)) (wNew_M r w) (List.getElem?_eq_getElem _)]
    rfl) (by rw [List.size_toArray, mkc_len]; kernel_rfl) (all_oneCell_toArray (mkc_one _ _ _ _))
  simpa using h
end Go.Proofs.Ytljlhlcoaajggaa
/- A new maker has given no class yet. -/
namespace Go.Proofs.Ytljlhlcoaajggaa
open Go.RowKit Go.Maps Go.WideMaps

theorem map_setCells {K b n : Nat} {D : DataW Unit} {R : Value → Option (DataW Unit × List MemPlace)} (hne : K ≠ b) : ∀ (cs : List Value) (o : Nat) (w : World), w.ownsMap Try.prog 82 R K n D → (w.setCells b o cs).ownsMap Try.prog 82 R K n D
  | [], _, _, h => h
  | v :: cs, o, _, h => map_setCells hne cs (o + 1) _ (h.setCell (a := ⟨b, o, none⟩) hne v)
theorem below_setCells {B b : Nat} (hb : B ≤ b) {w0 : World} : ∀ (cs : List Value) (o : Nat) (w : World), Below B w0 w → Below B w0 (w.setCells b o cs)
  | [], _, _, h => h
  | v :: cs, o, _, h => below_setCells hb cs (o + 1) _ (h.setCell (p := ⟨b, o, none⟩) hb v)
theorem heap_setCells {b k : Nat} (hk : k ≠ b) : ∀ (cs : List Value) (o : Nat) (w : World), (w.setCells b o cs).heap[k]? = w.heap[k]?
  | [], _, _ => rfl
  | v :: cs, o, w => (heap_setCells hk cs (o + 1) _).trans (Below.heap_setCell w ⟨b, o, none⟩ v k hk)
/-- The world behind made's first statement. -/
def wMade (r : Nat) (w : World) : World := (wNew r w).setCells (w.heap.size + 2) 0 (mkc w.heap.size (w.heap.size + 1) (List.replicate 128 0) 0)
theorem made_M (r : Nat) (w : World) : (wMade r w).heap[w.heap.size + 2]? = some (.cells (mkc w.heap.size (w.heap.size + 1) (List.replicate 128 0) 0).toArray 103 (0, 0)) := by
  have h := set_cells (w.heap.size + 2) 103 (mkc w.heap.size (w.heap.size + 1) (List.replicate 128 0) 0) z103 0 (wNew r w) (wNew_M r w) (by rw [mkc_len, z103_len]; decide)
  unfold wMade
  rw [h, List.take_zero, List.drop_of_length_le (by rw [mkc_len, z103_len]; decide), List.append_nil, List.nil_append]
theorem made_MkC (r : Nat) (w : World) : MkD w.heap.size (w.heap.size + 2) w.heap.size (w.heap.size + 1) r [] (.slice none 0 0) (wMade r w) := by
  have h0 : ok256 (List.replicate 128 0) := fun c hc => by rw [List.eq_of_mem_replicate hc]; decide
  refine ⟨[], [], List.replicate 128 0, ⟨fun b hb => (by cases hb), fun b hb => (by cases hb), h0, by decide, by decide, rfl, List.length_replicate⟩, rfl, ⟨made_M r w, ?_, ?_, World.ownsRow_nil _ _ _ _, List.length_replicate, ?_, by omega, Nat.le_refl _, by omega⟩⟩
  · exact (heap_setCells (by omega) _ _ _).trans (wNew_T r w)
  · refine map_setCells (by omega) _ _ _ ?_
    have h := (World.ownsMap_made (w.alloc (.cells (tb0 r) 79)) Try.prog 82 (plainElem (H := Unit) Try.prog 75)).alloc (.cells z103.toArray 103)
    rw [World.size_alloc] at h
    exact h
  · show ([] ++ List.replicate 8704 0 : List Nat).length = 8704
    rw [List.nil_append, List.length_replicate]
theorem made_below (r : Nat) (w : World) : Below w.heap.size w (wMade r w) :=
  below_setCells (by omega) _ _ _ ((((Below.refl w.heap.size w).alloc (Nat.le_refl _) _).alloc (by simp) _).alloc (by simp; omega) _)
end Go.Proofs.Ytljlhlcoaajggaa
/- Rising ranges and their classes; what made lays first, as the walk spells it. -/
namespace Go.Proofs.Ytljlhlcoaajggaa
open Go.RowKit Go.Maps Go.WideMaps

def rkT (g : Tr) : Rk := ((g.1 : Int), (g.2.1 : Int), (g.2.2 : Int))
/-- Ranges that rise, from b on. -/
def Ris : Nat → List Tr → Prop
  | _, [] => True
  | b, g :: l => b ≤ g.1 ∧ g.1 ≤ g.2.1 ∧ g.2.1 ≤ 1114111 ∧ g.2.2 < 256 ∧ Ris (g.2.1 + 1) l
/-- The classes from b on, as far as the ranges go. -/
def clq (r : Nat) : Nat → List Tr → List Nat
  | _, [] => []
  | b, g :: l => List.replicate (g.1 - b) r ++ (List.replicate (g.2.1 + 1 - g.1) g.2.2 ++ clq r (g.2.1 + 1) l)
/-- The classes of all numbers. -/
def clA (r : Nat) (l : List Tr) : List Nat := clq r 0 l ++ List.replicate (1114112 - (clq r 0 l).length) r

theorem tb0_eq (r : Nat) : Try.zeroCells79.setIfInBounds 8705 (.int .u8 (r : Int)) = tb0 r := by
  apply Array.toList_inj.1
  rw [Array.toList_setIfInBounds, cells79, tbc_rest _ _ _ _ List.length_replicate]
  rfl
theorem z103_eq : Try.zeroCells103 = z103.toArray := by kernel_rfl
theorem mkc_eq (T K : Nat) : (Try.zeroCells103.toList.set 0 (.pointer (some ⟨T, 0, none⟩))).set 1 (.map (some K)) = mkc T K (List.replicate 128 0) 0 := by kernel_rfl
theorem run_new (r : Nat) (w : World) : (storeCells ⟨w.heap.size + 1 + 1, 0, none⟩ ((Try.zeroCells103.toList.set 0 (.pointer (some ⟨w.heap.size, 0, none⟩))).set 1 (.map (some (w.heap.size + 1))))).run Try.prog
    (((w.alloc (.cells (Try.zeroCells79.setIfInBounds 8705 (.int .u8 (r : Int))) 79)).alloc (.map #[] 0)).alloc (.cells Try.zeroCells103 103)) = .ok () (wMade r w) := by
  rw [mkc_eq, tb0_eq, z103_eq]
  have h := run_storeCells_cells (P := Try.prog) (w.heap.size + 2) 0 (mkc w.heap.size (w.heap.size + 1) (List.replicate 128 0) 0) 0 (wNew r w) (fun j hj => by
    rw [mkc_len] at hj
    rw [show 0 + 0 + j = j by omega, cell_row (wNew r w) _ j z103 103 (z103[j]'(by rw [z103_len]; exact hj)) (wNew_M r w) (List.getElem?_eq_getElem _)]
    rfl) (fun j _ => by rw [show 0 + 0 + j = j by omega]; exact frozen_row (wNew_M r w) j) (mkc_one _ _ _ _)
  exact h

end Go.Proofs.Ytljlhlcoaajggaa
/- The contract of joined (package table). -/
namespace Go.Proofs.Ytljlhlcoaajggaa
open Go.RowKit

theorem Try.info36 : (Try.prog.info? 36).map (fun i => (i.zero, i.size, i.bytes)) = some (some (.agg #[.int .i32 0, .int .i32 0, .int .i64 0]), 3, 16) := by kernel_rfl
def rks (l : List Tr) : List Value := l.flatMap fun g => rkc (rkT g)
theorem rks_snoc (l : List Tr) (g : Tr) : rks (l ++ [g]) = rks l ++ rkc (rkT g) := by simp [rks]
theorem rks_len (l : List Tr) : (rks l).length = l.length * 3 := by
  induction l with
  | nil => rfl
  | cons g l ih =>
    show (rkc (rkT g) ++ rks l).length = _
    rw [List.length_append, ih]
    simp [rkc]; omega
theorem rkc_one (g : Rk) : ∀ v ∈ rkc g, v.oneCell' = true := fun v hv => by
  unfold rkc at hv
  simp only [List.mem_cons, List.not_mem_nil, or_false] at hv
  rcases hv with rfl | rfl | rfl <;> rfl
theorem news_k (w : World) (g : Rk) (T : TypeId) : ∀ j u, (rkc g)[j]? = some u → (w.alloc (.cells #[.int .i32 g.1, .int .i32 g.2.1, .int .i64 g.2.2] T)).cell? ((⟨w.heap.size, 0, none⟩ : Addr).add j) = some u := fun j u hj => by
  rw [show (⟨w.heap.size, 0, none⟩ : Addr).add j = ⟨w.heap.size, j, none⟩ by unfold Addr.add; split <;> simp_all]
  rw [cell_of_row _ w.heap.size j #[.int .i32 g.1, .int .i32 g.2.1, .int .i64 g.2.2] T (0, 0) (show (w.heap.push _)[w.heap.size]? = _ by simp)]
  rw [← hj]
  simp [rkc]
/-- Behind nothing. -/
theorem joined_nil (B : Nat) (g : Tr) (w : World) (hB : B ≤ w.heap.size) :
    Calls Try.prog 72 #[.slice none 0 0, rkv (rkT g)] w fun e w' => ∃ v', e = .returned v' ∧ w'.ownsRow B 36 3 v' 1 (rks [g]) ∧ Below B w w' := by
  obtain ⟨i0, hi, hz0, hz1, hz2⟩ := info_parts Try.info36
  obtain ⟨lo, hi', cl⟩ := g
  unfold rkv rkT
  have HO := hid (World.ownsRow_nil w B 36 3)
  go_enter Try.func72, Try.ntmps72
  go_wp2
  go_quiet (fail)
  have hG : ((w.alloc (.cells #[.int .i32 (lo : Int), .int .i32 (hi' : Int), .int .i64 (cl : Int)] 36)).drewN nq).heap[w.heap.size]? = some (.cells #[.int .i32 (lo : Int), .int .i32 (hi' : Int), .int .i64 (cl : Int)] 36 (0, 0)) := heap_alloc_new w _
  have hb0 : Below B w ((w.alloc (.cells #[.int .i32 (lo : Int), .int .i32 (hi' : Int), .int .i64 (cl : Int)] 36)).drewN nq) := ((Below.refl B w).alloc hB _).trans ⟨rfl, rfl, rfl, Nat.le_refl _, fun _ _ => rfl⟩
  have hsW : B ≤ ((w.alloc (.cells #[.int .i32 (lo : Int), .int .i32 (hi' : Int), .int .i64 (cl : Int)] 36)).drewN nq).heap.size := Nat.le_trans hB hb0.size
  generalize ((w.alloc (.cells #[.int .i32 (lo : Int), .int .i32 (hi' : Int), .int .i64 (cl : Int)] 36)).drewN nq) = W at *
  obtain ⟨G, hGG⟩ : ∃ G, G = w.heap.size := ⟨_, rfl⟩
  rw [← hGG] at hG ⊢
  have x0 : W.cell? ⟨G, 0, none⟩ = some (.int .i32 (lo : Int)) := by rw [cell_of_row W G 0 _ 36 (0, 0) hG]; rfl
  have x1 : W.cell? ⟨G, 1, none⟩ = some (.int .i32 (hi' : Int)) := by rw [cell_of_row W G 1 _ 36 (0, 0) hG]; rfl
  have x2 : W.cell? ⟨G, 2, none⟩ = some (.int .i64 (cl : Int)) := by rw [cell_of_row W G 2 _ 36 (0, 0) hG]; rfl
  have HO2 := hid (World.ownsRow_nil W B 36 3)
  have HB0 := hid hb0
  clear hG hGG hb0 HO
  go_wp2_with (at_builtin; refine wpList_append_lies _ rfl _ _ 25 rfl B 36 i0 (.agg #[.int .i32 0, .int .i32 0, .int .i64 0]) 3 16 Try.underlying25 hi hz0 hz1 hz2 rfl (by decide) _ 0 [] rfl (HO2.out.alloc _) ⟨W.heap.size, 0, none⟩ 1 1 (rkc ((lo : Int), (hi' : Int), (cl : Int))) rfl rfl (news_k W ((lo : Int), (hi' : Int), (cl : Int)) 36) (rkc_one _) (by decide) (by decide) (by decide) (by simp; omega) (W.heap.size + 1) (by simp) ?_; intro g cap w1 o1 gr1 hlie hg1)
  have HB1 := hid ((HB0.out.alloc hsW (.cells #[.int .i32 (lo : Int), .int .i32 (hi' : Int), .int .i64 (cl : Int)] 36)).grown gr1 (by simp; omega) (fun k hk => by cases hk))
  go_ret
  exact ⟨_, rfl, by rw [show rks [(lo, hi', cl)] = [] ++ rkc ((lo : Int), (hi' : Int), (cl : Int)) by simp [rks, rkT]]; exact o1, HB1.out⟩

theorem rks_at (Q : List Tr) (z : Tr) (k : Nat) (v : Value) (h : (rkc (rkT z))[k]? = some v) : (rks (Q ++ [z]))[Q.length * 3 + k]? = some v := by
  rw [rks_snoc, List.getElem?_append_right (by rw [rks_len]; omega), rks_len, show Q.length * 3 + k - Q.length * 3 = k by omega, h]
theorem rks_set (Q : List Tr) (z : Tr) (h : Nat) : (rks (Q ++ [z])).set (Q.length * 3 + 1) (.int .i32 (h : Int)) = rks (Q ++ [(z.1, h, z.2.2)]) := by
  rw [rks_snoc, rks_snoc, List.set_append_right _ _ (by rw [rks_len]; omega), rks_len, show Q.length * 3 + 1 - Q.length * 3 = 1 by omega]
  rfl

set_option maxRecDepth 100000 in
set_option maxHeartbeats 1000000 in
theorem joined_any (B q cap : Nat) (Q : List Tr) (z g : Tr) (w : World) (h : w.ownsRow B 36 3 (.slice (some ⟨q, 0, none⟩) (Q.length + 1) cap) (Q.length + 1) (rks (Q ++ [z]))) (hB : B ≤ w.heap.size) (hl : Q.length ≤ 100000000) :
    Calls Try.prog 72 #[.slice (some ⟨q, 0, none⟩) (Q.length + 1) cap, rkv (rkT g)] w fun e w' => ∃ v', e = .returned v' ∧ w'.ownsRow B 36 3 v' (jn (Q ++ [z]) g).length (rks (jn (Q ++ [z]) g)) ∧ Below B w w' := by
  obtain ⟨i0, hi, hz0, hz1, hz2⟩ := info_parts Try.info36
  obtain ⟨lo, hi', cl⟩ := g
  have hq := (h.lt q rfl)
  have HO := hid h
  have cz : w.cell? ⟨q, Q.length * 3 + 2, none⟩ = some (.int .i64 (z.2.2 : Int)) := by rw [h.cellAt _ (by omega)]; exact rks_at Q z 2 _ rfl
  obtain ⟨m, hm⟩ : ∃ m, m = Q.length := ⟨_, rfl⟩
  obtain ⟨n, hn⟩ : ∃ n, n = Q.length + 1 := ⟨_, rfl⟩
  have e1 : (n : Int) - 1 = (m : Int) := by omega
  have e2 : IntKind.i64.wrap (m : Int) = (m : Int) := by rw [IntKind.wrap_i64]; omega
  have b0 : (0 : Int) ≤ (m : Int) := by omega
  have b1 : (m : Int) < (n : Int) := by omega
  unfold rkv rkT
  rw [← hm] at cz
  rw [← hn]
  have HMQ := hid hm
  have HNQ := hid hn
  clear h hm hn
  by_cases hc : z.2.2 = cl
  · have hc' : ((z.2.2 : Int) == (cl : Int)) = true := by simp; omega
    go_enter Try.func72, Try.ntmps72
    go_wp2
    go_quiet (fail)
    have hG : ((w.alloc (.cells #[.int .i32 (lo : Int), .int .i32 (hi' : Int), .int .i64 (cl : Int)] 36)).drewN nq).heap[w.heap.size]? = some (.cells #[.int .i32 (lo : Int), .int .i32 (hi' : Int), .int .i64 (cl : Int)] 36 (0, 0)) := heap_alloc_new w _
    have hb0 : Below B w ((w.alloc (.cells #[.int .i32 (lo : Int), .int .i32 (hi' : Int), .int .i64 (cl : Int)] 36)).drewN nq) := ((Below.refl B w).alloc hB _).trans ⟨rfl, rfl, rfl, Nat.le_refl _, fun _ _ => rfl⟩
    have hsW : B ≤ ((w.alloc (.cells #[.int .i32 (lo : Int), .int .i32 (hi' : Int), .int .i64 (cl : Int)] 36)).drewN nq).heap.size := Nat.le_trans hB hb0.size
    have HO2 := hid (show ((w.alloc (.cells #[.int .i32 (lo : Int), .int .i32 (hi' : Int), .int .i64 (cl : Int)] 36)).drewN nq).ownsRow B 36 3 (.slice (some ⟨q, 0, none⟩) (Q.length + 1) cap) (Q.length + 1) (rks (Q ++ [z])) from HO.out.alloc _)
    generalize ((w.alloc (.cells #[.int .i32 (lo : Int), .int .i32 (hi' : Int), .int .i64 (cl : Int)] 36)).drewN nq) = W at *
    obtain ⟨G, hGG⟩ : ∃ G, G = w.heap.size := ⟨_, rfl⟩
    rw [← hGG] at hG ⊢
    have hqG : q ≠ G := by have h5 := hq.2; omega
    have x0 : W.cell? ⟨G, 0, none⟩ = some (.int .i32 (lo : Int)) := by rw [cell_of_row W G 0 _ 36 (0, 0) hG]; rfl
    have x1 : W.cell? ⟨G, 1, none⟩ = some (.int .i32 (hi' : Int)) := by rw [cell_of_row W G 1 _ 36 (0, 0) hG]; rfl
    have x2 : W.cell? ⟨G, 2, none⟩ = some (.int .i64 (cl : Int)) := by rw [cell_of_row W G 2 _ 36 (0, 0) hG]; rfl
    have HB0 := hid hb0
    clear hG hGG hb0 HO cz hB
    have y1 : W.cell? ⟨q, m * 3 + 1, none⟩ = some (.int .i32 (z.2.1 : Int)) := by rw [HMQ.out, HO2.out.cellAt _ (by omega)]; exact rks_at Q z 1 _ rfl
    have f1 : W.frozen? ⟨q, m * 3 + 1, none⟩ = false := HO2.out.frozenAt _
    have HJ := hid (show jn (Q ++ [z]) (lo, hi', cl) = Q ++ [(z.1, hi', z.2.2)] by rw [jn_snoc, if_pos hc, hc])
    have HR := hid (show (W.setCell ⟨q, m * 3 + 1, none⟩ (.int .i32 (hi' : Int))).ownsRow B 36 3 (.slice (some ⟨q, 0, none⟩) n cap) (jn (Q ++ [z]) (lo, hi', cl)).length (rks (jn (Q ++ [z]) (lo, hi', cl))) by
      have h5 := (HO2.out.stored (m * 3 + 1) (.int .i32 (hi' : Int))).1
      rw [HJ.out, ← rks_set, show (Q ++ [(z.1, hi', z.2.2)]).length = Q.length + 1 by simp, HNQ.out, ← HMQ.out]
      rw [← HMQ.out] at h5
      exact h5)
    have HB1 := hid (HB0.out.setCell (p := ⟨q, m * 3 + 1, none⟩) hq.1 (.int .i32 (hi' : Int)))
    go_wp2
    go_ret
    exact ⟨_, rfl, HR.out, HB1.out⟩
  · have hc' : ((z.2.2 : Int) == (cl : Int)) = false := by simp; omega
    go_enter Try.func72, Try.ntmps72
    go_wp2
    go_quiet (fail)
    have hG : ((w.alloc (.cells #[.int .i32 (lo : Int), .int .i32 (hi' : Int), .int .i64 (cl : Int)] 36)).drewN nq).heap[w.heap.size]? = some (.cells #[.int .i32 (lo : Int), .int .i32 (hi' : Int), .int .i64 (cl : Int)] 36 (0, 0)) := heap_alloc_new w _
    have hb0 : Below B w ((w.alloc (.cells #[.int .i32 (lo : Int), .int .i32 (hi' : Int), .int .i64 (cl : Int)] 36)).drewN nq) := ((Below.refl B w).alloc hB _).trans ⟨rfl, rfl, rfl, Nat.le_refl _, fun _ _ => rfl⟩
    have hsW : B ≤ ((w.alloc (.cells #[.int .i32 (lo : Int), .int .i32 (hi' : Int), .int .i64 (cl : Int)] 36)).drewN nq).heap.size := Nat.le_trans hB hb0.size
    have HO2 := hid (show ((w.alloc (.cells #[.int .i32 (lo : Int), .int .i32 (hi' : Int), .int .i64 (cl : Int)] 36)).drewN nq).ownsRow B 36 3 (.slice (some ⟨q, 0, none⟩) (Q.length + 1) cap) (Q.length + 1) (rks (Q ++ [z])) from HO.out.alloc _)
    generalize ((w.alloc (.cells #[.int .i32 (lo : Int), .int .i32 (hi' : Int), .int .i64 (cl : Int)] 36)).drewN nq) = W at *
    obtain ⟨G, hGG⟩ : ∃ G, G = w.heap.size := ⟨_, rfl⟩
    rw [← hGG] at hG ⊢
    have hqG : q ≠ G := by have h5 := hq.2; omega
    have x0 : W.cell? ⟨G, 0, none⟩ = some (.int .i32 (lo : Int)) := by rw [cell_of_row W G 0 _ 36 (0, 0) hG]; rfl
    have x1 : W.cell? ⟨G, 1, none⟩ = some (.int .i32 (hi' : Int)) := by rw [cell_of_row W G 1 _ 36 (0, 0) hG]; rfl
    have x2 : W.cell? ⟨G, 2, none⟩ = some (.int .i64 (cl : Int)) := by rw [cell_of_row W G 2 _ 36 (0, 0) hG]; rfl
    have HB0 := hid hb0
    clear hG hGG hb0 HO cz hB
    rw [← HNQ.out] at HO2
    have hn9 : n ≤ 100000001 := by have h5 := HNQ.out; omega
    go_wp2_with (at_builtin; refine wpList_append_lies _ rfl _ _ 25 rfl B 36 i0 (.agg #[.int .i32 0, .int .i32 0, .int .i64 0]) 3 16 Try.underlying25 hi hz0 hz1 hz2 rfl (by decide) _ n (rks (Q ++ [z])) rfl (HO2.out.alloc _) ⟨W.heap.size, 0, none⟩ 1 1 (rkc ((lo : Int), (hi' : Int), (cl : Int))) rfl rfl (news_k W ((lo : Int), (hi' : Int), (cl : Int)) 36) (rkc_one _) (by decide) (by unfold maxLen; omega) (by omega) (by simp; omega) (W.heap.size + 1) (by simp) ?_; intro g cap' w1 o1 gr1 hlie hg1)
    have HB1 := hid ((HB0.out.alloc hsW (.cells #[.int .i32 (lo : Int), .int .i32 (hi' : Int), .int .i64 (cl : Int)] 36)).grown gr1 (by simp; omega) (fun k hk => (HO2.out.lt k hk).1))
    have HJ := hid (show jn (Q ++ [z]) (lo, hi', cl) = Q ++ [z, (lo, hi', cl)] by rw [jn_snoc, if_neg hc])
    have HR := hid (show w1.ownsRow B 36 3 (.slice (some ⟨g, 0, none⟩) (n + 1) cap') (jn (Q ++ [z]) (lo, hi', cl)).length (rks (jn (Q ++ [z]) (lo, hi', cl))) by
      rw [HJ.out, show Q ++ [z, (lo, hi', cl)] = (Q ++ [z]) ++ [(lo, hi', cl)] by simp, rks_snoc, show ((Q ++ [z]) ++ [(lo, hi', cl)]).length = n + 1 by have h5 := HNQ.out; simp; omega]
      exact o1)
    go_ret
    exact ⟨_, rfl, HR.out, HB1.out⟩
end Go.Proofs.Ytljlhlcoaajggaa
