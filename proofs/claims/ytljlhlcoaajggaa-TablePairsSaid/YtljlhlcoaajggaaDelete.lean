/- The contracts of slices.DeleteFunc at ranges with Ranges$1, and of Ranges (package table). -/
import Derived.Test.YtljlhlcoaajggaaIndex
namespace Go.Proofs.Ytljlhlcoaajggaa
open Go.RowKit

/-- Those of another class. -/
def fil (r : Nat) (L : List Tr) : List Tr := L.filter fun x => decide (x.2.2 ≠ r)
theorem fil_nor {r : Nat} {L : List Tr} (h : nor r L) : fil r L = L := by
  unfold fil
  rw [List.filter_eq_self]
  intro x hx
  exact decide_eq_true (h x hx)
theorem fil_app (r : Nat) (L M : List Tr) : fil r (L ++ M) = fil r L ++ fil r M := by unfold fil; rw [List.filter_append]
theorem fil_one_no {r : Nat} {z : Tr} (h : z.2.2 = r) : fil r [z] = [] := by simp [fil, h]
theorem fil_one_yes {r : Nat} {z : Tr} (h : z.2.2 ≠ r) : fil r [z] = [z] := by simp [fil, h]
theorem fil_len (r : Nat) (L : List Tr) : (fil r L).length ≤ L.length := List.length_filter_le _ _
/-- A row in the middle of the deletion: what is kept, anything, what is not yet looked at. -/
def DlR (r : Nat) (L : List Tr) (j : Nat) (xs : List Value) : Prop :=
  ∃ m : List Value, xs = rks (fil r (L.take j)) ++ m ++ rks (L.drop j)
theorem run_clear36 (w : World) (ty : TypeId) (b o n c : Nat) (hn : 0 < n) (hc : ∀ j, j < n * 3 → (w.cell? ⟨b, o + j, none⟩).isSome = true) (hf : ∀ j, j < n * 3 → w.frozen? ⟨b, o + j, none⟩ = false) :
    (Builtin.clear_ #[25] ty #[.slice (some ⟨b, o, none⟩) n c]).run Try.prog w = .ok (.tuple #[]) (w.setCells b o (Builtin.zeroCells (Value.agg #[.int .i32 0, .int .i32 0, .int .i64 0]).cells n).toList) := by
  have hl : (Builtin.zeroCells (Value.agg #[.int .i32 0, .int .i32 0, .int .i64 0]).cells n).toList.length = n * 3 := by rw [Array.length_toList, zc_len]
  have h1 : ∀ v ∈ (Builtin.zeroCells (Value.agg #[.int .i32 0, .int .i32 0, .int .i64 0]).cells n).toList, v.oneCell' = true := fun v hv => by
    unfold Builtin.zeroCells at hv
    rw [Array.toList_map] at hv
    obtain ⟨i, _, rfl⟩ := List.mem_map.1 hv
    have h3 : i % 3 < 3 := Nat.mod_lt _ (by decide)
    show (#[Value.int .i32 0, .int .i32 0, .int .i64 0][i % 3]!).oneCell' = true
    rcases (show i % 3 = 0 ∨ i % 3 = 1 ∨ i % 3 = 2 by omega) with h | h | h <;> rw [h] <;> rfl
  have hst := run_storeCells_cells (P := Try.prog) b o _ 0 w (by rw [hl]; simpa using hc) (by rw [hl]; simpa using hf) h1
  simp only [Nat.add_zero] at hst
  obtain ⟨m, rfl⟩ : ∃ m, n = m + 1 := ⟨n - 1, by omega⟩
  simp [Builtin.clear_, run_underlying Try.underlying25, hst]
theorem lset_keep : ∀ (vs xs : List Value) (o : Nat), (lset xs o vs).length = xs.length
  | [], _, _ => rfl
  | v :: r, xs, o => by show (lset (xs.set o v) (o + 1) r).length = _; rw [lset_keep r, List.length_set]
theorem lset_take : ∀ (vs xs : List Value) (o : Nat), (lset xs o vs).take o = xs.take o
  | [], _, _ => rfl
  | v :: r, xs, o => by
    show (lset (xs.set o v) (o + 1) r).take o = _
    have h := lset_take r (xs.set o v) (o + 1)
    have h2 := congrArg (List.take o) h
    rw [List.take_take, List.take_take, Nat.min_eq_left (by omega), List.take_set_of_le (Nat.le_refl _)] at h2
    exact h2
/-- A shorter row. -/
theorem own_less {B g n i cap : Nat} {xs : List Value} {w : World} (h : w.ownsRow B 36 3 (.slice (some ⟨g, 0, none⟩) n cap) n xs) (hi : i ≤ n) : w.ownsRow B 36 3 (.slice (some ⟨g, 0, none⟩) i cap) i (xs.take (i * 3)) := by
  have hl := h.1
  rcases h.2 with ⟨h', _⟩ | ⟨g', cap', cur, h', hb, hg, hnc, hcm, hcs, ht⟩
  · simp at h'
  · simp only [Value.slice.injEq, Option.some.injEq, Addr.mk.injEq, and_true, true_and] at h'
    obtain ⟨rfl, rfl⟩ := h'
    refine ⟨by rw [List.length_take]; omega, .inr ⟨g, cap, cur, rfl, hb, hg, by omega, hcm, hcs, ?_⟩⟩
    rw [← ht, List.take_take, Nat.min_eq_left (by omega)]
theorem DlR.elem {r j n : Nat} {L : List Tr} {xs : List Value} (h : DlR r L j xs) (hl : xs.length = n * 3) (hn : L.length = n) (hj : j < n) (c : Nat) (v : Value) (hv : (rkc (rkT (L[j]'(by omega))))[c]? = some v) : xs[j * 3 + c]? = some v := by
  obtain ⟨m, rfl⟩ := h
  have h3 : c < 3 := (List.getElem?_eq_some_iff.1 hv).1
  rw [List.length_append, rks_len, List.length_drop] at hl
  rw [List.getElem?_append_right (by omega)]
  rw [show j * 3 + c - (rks (fil r (L.take j)) ++ m).length = c by omega]
  rw [List.drop_eq_getElem_cons (by omega)]
  show (rkc (rkT L[j]) ++ rks (L.drop (j + 1)))[c]? = _
  rw [List.getElem?_append_left h3]
  exact hv
theorem DlR.skip {r j n : Nat} {L : List Tr} {xs : List Value} (h : DlR r L j xs) (hn : L.length = n) (hj : j < n) (hc : (L[j]'(by omega)).2.2 = r) : DlR r L (j + 1) xs ∧ fil r (L.take (j + 1)) = fil r (L.take j) := by
  obtain ⟨m, rfl⟩ := h
  have hjL : j < L.length := by omega
  have e : fil r (L.take (j + 1)) = fil r (L.take j) := by
    rw [List.take_succ_eq_append_getElem hjL, fil_app, fil_one_no hc, List.append_nil]
  refine ⟨⟨m ++ rkc (rkT L[j]), ?_⟩, e⟩
  rw [e, List.drop_eq_getElem_cons hjL]
  show _ ++ m ++ (rkc (rkT L[j]) ++ rks (L.drop (j + 1))) = _
  simp only [List.append_assoc]
theorem DlR.take {r j n : Nat} {L : List Tr} {xs : List Value} (h : DlR r L j xs) (hl : xs.length = n * 3) (hn : L.length = n) (hj : j < n) (hi : (fil r (L.take j)).length < j) (hc : (L[j]'(by omega)).2.2 ≠ r) :
    DlR r L (j + 1) (lset xs ((fil r (L.take j)).length * 3) (rkc (rkT (L[j]'(by omega))))) ∧ (fil r (L.take (j + 1))).length = (fil r (L.take j)).length + 1 := by
  obtain ⟨m, rfl⟩ := h
  have hjL : j < L.length := by omega
  have e : fil r (L.take (j + 1)) = fil r (L.take j) ++ [L[j]] := by
    rw [List.take_succ_eq_append_getElem hjL, fil_app, fil_one_yes hc]
  refine ⟨?_, by rw [e]; simp⟩
  rw [List.length_append, List.length_append, rks_len, rks_len, List.length_drop] at hl
  have hm : 3 ≤ m.length := by omega
  have e1 : m = m.take 3 ++ m.drop 3 := (List.take_append_drop 3 m).symm
  have e2 := lset_mid (rkc (rkT L[j])) (rks (fil r (L.take j))) (m.take 3) (m.drop 3 ++ rks (L.drop j)) (by rw [List.length_take]; show min 3 m.length = 3; omega)
  rw [rks_len] at e2
  refine ⟨m.drop 3 ++ rkc (rkT L[j]), ?_⟩
  have e3 : rks (fil r (L.take j)) ++ m ++ rks (L.drop j) = rks (fil r (L.take j)) ++ m.take 3 ++ (m.drop 3 ++ rks (L.drop j)) := by
    rw [← List.append_assoc, List.append_assoc _ (m.take 3), ← e1]
  rw [e3, e2, e, rks_snoc, List.drop_eq_getElem_cons hjL]
  show _ ++ (m.drop 3 ++ (rkc (rkT L[j]) ++ rks (L.drop (j + 1)))) = _
  simp only [List.append_assoc]

set_option maxHeartbeats 4000000 in
set_option maxRecDepth 100000 in
theorem delete_any (B X T rest : Nat) (v : Value) (L : List Tr) (w : World) (h : w.ownsRow B 36 3 v L.length (rks L)) (hB : B ≤ w.heap.size) (hl : L.length ≤ 100000000) (hXB : X < B) (hTB : T < B) (hx : w.cell? ⟨X, 0, none⟩ = some (.pointer (some ⟨T, 0, none⟩))) (ht : w.cell? ⟨T, 8705, none⟩ = some (.int .u8 (rest : Int))) (hr : rest < 256) :
    Calls Try.prog 62 #[v, .func (.func 63) #[] #[.pointer (some ⟨X, 0, none⟩)]] w fun e w' => ∃ v', e = .returned v' ∧ w'.ownsRow B 36 3 v' (fil rest L).length (rks (fil rest L)) ∧ Below B w w' := by
  obtain ⟨ao, cap, rfl⟩ := own_form h
  have HI := hid (index_any X T rest ao cap L w (rd_own h) hl hx ht hr)
  have HO := hid h
  have HXW := hid hx
  have HTW := hid ht
  have HL := hid hl
  obtain ⟨n, hn⟩ : ∃ n, n = L.length := ⟨_, rfl⟩
  rw [← hn] at HI HO HL ⊢
  have HN := hid hn
  clear h hx ht hn hl
  go_enter Try.func62, Try.ntmps62
  go_wp2_with fail
  refine HI.out.mono ?_
  rintro e w1 ⟨hb1, hcase⟩
  have HB1 := hid (hb1.mono hB)
  have HO1 := hid (own_keep HO.out hb1)
  have hw1 := hb1.size
  clear hb1 HI HO
  rcases hcase with ⟨P, z, Q, hLe, hP, hz, rfl⟩ | ⟨hnor, rfl⟩
  · have hPn : P.length < n := by rw [HN.out, hLe]; simp
    obtain ⟨q, cap', he, hqB, hqw⟩ := HO1.out.form (by omega)
    cases he
    have HK0 := hid (show fil rest (L.take (P.length + 1)) = P by
      rw [hLe, show P ++ z :: Q = (P ++ [z]) ++ Q by simp, List.take_left' (by simp), fil_app, fil_one_no hz, List.append_nil, fil_nor hP])
    have HD0 := hid (show DlR rest L (P.length + 1) (rks L) from ⟨rkc (rkT z), by
      rw [HK0.out, hLe]
      have e2 : (P ++ z :: Q).drop (P.length + 1) = Q := by rw [show P ++ z :: Q = (P ++ [z]) ++ Q by simp, List.drop_left' (by simp)]
      rw [e2]
      simp [rks]⟩)
    obtain ⟨p, hp⟩ : ∃ p, p = P.length := ⟨_, rfl⟩
    rw [← hp] at hPn HK0 HD0 ⊢
    have HPL := hid hp
    have hl9 := HL.out
    have np : ((p : Int) == -1) = false := by simp
    have ep : IntKind.i64.wrap ((p : Int) + 1) = ((p + 1 : Nat) : Int) := by rw [IntKind.wrap_i64]; omega
    have HI0 := hid (show (fil rest (L.take (p + 1))).length = p by rw [HK0.out, ← HPL.out])
    clear hp hLe hP hz
    go_wp2
    go_loopw [5, 6] (fun x y wr => ∃ (i j : Nat) (xs : List Value), x = .int .i64 (i : Int) ∧ y = .int .i64 (j : Int) ∧ i < j ∧ j ≤ n ∧ Hid ((fil rest (L.take j)).length = i) ∧ Hid (DlR rest L j xs) ∧ Hid (wr.ownsRow B 36 3 (.slice (some ⟨q, 0, none⟩) n cap) n xs) ∧ Hid (Below B w wr)) (fun _ y _ => n - (intOf y).toNat)
    case atStart => exact ⟨p, p + 1, rks L, rfl, by go_num, by omega, by omega, HI0, HD0, HO1, HB1⟩
    case round =>
      obtain ⟨i, j, xs, rfl, rfl, hij, hj, HIJ, HDJ, HOJ, HBJ⟩ := hrel
      have hqr : B ≤ q ∧ q < wr.heap.size := HOJ.out.lt q rfl
      have hwB : B ≤ wr.heap.size := by omega
      have hxl : xs.length = n * 3 := HOJ.out.1
      have hLn : L.length = n := HN.out.symm
      by_cases hjt : j < n
      · have hjL : j < L.length := by omega
        have y0 : wr.cell? ⟨q, j * 3, none⟩ = some (.int .i32 (L[j].1 : Int)) := by rw [HOJ.out.cellAt _ (by omega)]; exact HDJ.out.elem hxl hLn hjt 0 _ rfl
        have y1 : wr.cell? ⟨q, j * 3 + 1, none⟩ = some (.int .i32 (L[j].2.1 : Int)) := by rw [HOJ.out.cellAt _ (by omega)]; exact HDJ.out.elem hxl hLn hjt 1 _ rfl
        have y2 : wr.cell? ⟨q, j * 3 + 2, none⟩ = some (.int .i64 (L[j].2.2 : Int)) := by rw [HOJ.out.cellAt _ (by omega)]; exact HDJ.out.elem hxl hLn hjt 2 _ rfl
        have HSK := hid (fun hc => HDJ.out.skip hLn hjt hc)
        have HTA := hid (fun hc => HDJ.out.take hxl hLn hjt (by rw [HIJ.out]; exact hij) hc)
        rw [HIJ.out] at HTA
        obtain ⟨gx, hgx⟩ : ∃ gx, gx = L[j] := ⟨_, rfl⟩
        rw [← hgx] at y0 y1 y2 HSK HTA
        obtain ⟨lo, hi', cl⟩ := gx
        dsimp only at y0 y1 y2 HSK HTA
        have HBA := hid (HBJ.out.alloc hwB (.cells #[.int .i32 (lo : Int), .int .i32 (hi' : Int), .int .i64 (cl : Int)] 36))
        have HDL := hid (del_any X T rest (lo, hi', cl) (wr.alloc (.cells #[.int .i32 (lo : Int), .int .i32 (hi' : Int), .int .i64 (cl : Int)] 36)) ((HBA.out.cell (p := ⟨X, 0, none⟩) hXB).trans HXW.out) ((HBA.out.cell (p := ⟨T, 8705, none⟩) hTB).trans HTW.out) hr)
        have HGA := hid (heap_alloc_new wr (.cells #[.int .i32 (lo : Int), .int .i32 (hi' : Int), .int .i64 (cl : Int)] 36))
        have HOA := hid (HOJ.out.alloc (.cells #[.int .i32 (lo : Int), .int .i32 (hi' : Int), .int .i64 (cl : Int)] 36))
        unfold rkv rkT at HDL
        dsimp only at HDL
        have j3 : (j : Int) < (n : Int) := by omega
        have j0 : (0 : Int) ≤ (j : Int) := by omega
        have ej : IntKind.i64.wrap ((j : Int) + 1) = ((j + 1 : Nat) : Int) := by rw [IntKind.wrap_i64]; omega
        have ei : IntKind.i64.wrap ((i : Int) + 1) = ((i + 1 : Nat) : Int) := by rw [IntKind.wrap_i64]; omega
        have i3 : (i : Int) < (n : Int) := by omega
        have i0 : (0 : Int) ≤ (i : Int) := by omega
        clear hgx hLn HOJ HDJ
        by_cases hc : cl = rest
        · rw [decide_eq_true hc] at HDL
          have HS2 := hid (HSK.out hc)
          have HI2 := hid (show (fil rest (L.take (j + 1))).length = i by rw [HS2.out.2]; exact HIJ.out)
          clear hc
          go_wp2_with fail
          refine HDL.out.mono ?_
          rintro e w2 ⟨rfl, hb2⟩
          have HB2 := hid (HBA.out.trans (hb2.mono (by simp; omega)))
          have HO2 := hid (own_keep HOA.out hb2)
          clear hb2 HDL
          go_wp2
          go_roundw
          case rel => exact ⟨i, j + 1, xs, rfl, by go_num, by omega, by omega, HI2, HS2.out.1, HO2, HB2⟩
          case measure => simp [intOf]; omega
        · rw [decide_eq_false hc] at HDL
          have HS2 := hid (HTA.out hc)
          clear hc
          go_wp2_with fail
          refine HDL.out.mono ?_
          rintro e w2 ⟨rfl, hb2⟩
          have HB2 := hid (HBA.out.trans (hb2.mono (by simp; omega)))
          have HO2 := hid (own_keep HOA.out hb2)
          have hG2 := (hb2.block wr.heap.size (by simp)).trans HGA.out
          have x0 : w2.cell? ⟨wr.heap.size, 0, none⟩ = some (.int .i32 (lo : Int)) := by rw [cell_of_row w2 wr.heap.size 0 _ 36 (0, 0) hG2]; rfl
          have x1 : w2.cell? ⟨wr.heap.size, 1, none⟩ = some (.int .i32 (hi' : Int)) := by rw [cell_of_row w2 wr.heap.size 1 _ 36 (0, 0) hG2]; rfl
          have x2 : w2.cell? ⟨wr.heap.size, 2, none⟩ = some (.int .i64 (cl : Int)) := by rw [cell_of_row w2 wr.heap.size 2 _ 36 (0, 0) hG2]; rfl
          have HTH := hid (show w2.there q (i * 3) 3 from fun t ht => ⟨by rw [HO2.out.cellAt _ (by omega), List.getElem?_eq_getElem (by omega)]; rfl, HO2.out.frozenAt _⟩)
          obtain ⟨o3, b3⟩ := own_sets (rkc (rkT (lo, hi', cl))) (i * 3) xs w2 HO2.out
          have HO3 := hid o3
          have HB3 := hid (HB2.out.trans b3)
          unfold rkc rkT at HO3 HB3
          dsimp only at HO3 HB3
          have HLI := hid HS2.out.2
          have HDI := hid HS2.out.1
          unfold rkc rkT at HDI
          dsimp only at HDI
          have HALL := hid (show (#[.int .i32 (lo : Int), .int .i32 (hi' : Int), .int .i64 (cl : Int)] : Array Value).all (·.oneCell') = true from all_oneCell_toArray (rkc_one ((lo : Int), (hi' : Int), (cl : Int))))
          clear hb2 HDL o3 b3 hG2 HS2
          go_wp2_with (refine wpList_store_mid rfl 36 _ _ rfl q (i * 3) #[.int .i32 (lo : Int), .int .i32 (hi' : Int), .int .i64 (cl : Int)] rfl rfl HTH.out size36 HALL.out ?_)
          go_roundw
          case rel => exact ⟨i + 1, j + 1, _, by go_num, by go_num, by omega, by omega, HLI, HDI, HO3, HB3⟩
          case measure => simp [intOf]; omega
      · have j3 : ¬ (j : Int) < (n : Int) := by omega
        have hje : j = n := by omega
        have HTE := hid (show L.take j = L by rw [List.take_of_length_le (by omega)])
        rw [HTE.out] at HIJ
        have HXT := hid (show xs.take (i * 3) = rks (fil rest L) by
          obtain ⟨m, hm⟩ := HDJ.out
          rw [HTE.out] at hm
          rw [hm, List.append_assoc, List.take_left' (by rw [rks_len, HIJ.out])])
        have hcl : ∀ ty c, (Builtin.clear_ #[25] ty #[.slice (some ⟨q, i * 3, none⟩) (n - i) c]).run Try.prog wr = .ok (.tuple #[]) (wr.setCells q (i * 3) (Builtin.zeroCells (Value.agg #[.int .i32 0, .int .i32 0, .int .i64 0]).cells (n - i)).toList) := fun ty c =>
          run_clear36 wr ty q (i * 3) (n - i) c (by omega) (fun t ht => by rw [HOJ.out.cellAt _ (by omega), List.getElem?_eq_getElem (by omega)]; rfl) (fun t ht => HOJ.out.frozenAt _)
        obtain ⟨o3, b3⟩ := own_sets (Builtin.zeroCells (Value.agg #[.int .i32 0, .int .i32 0, .int .i64 0]).cells (n - i)).toList (i * 3) xs wr HOJ.out
        have hcap := own_cap HOJ.out
        have HO3 := hid (own_less o3 (show i ≤ n by omega))
        rw [lset_take, HXT.out] at HO3
        have HB3 := hid (HBJ.out.trans b3)
        have hci : ¬ (cap = i) := by omega
        have i3 : (i : Int) ≤ (n : Int) := by omega
        have i0 : (0 : Int) ≤ (i : Int) := by omega
        have i4 : i ≤ n := by omega
        have i5 : (i : Int) ≤ (cap : Int) := by omega
        have HCP := hid hcap
        clear o3 b3 hje hcap hLn
        go_wp2
        go_ret
        exact ⟨_, rfl, by rw [HIJ.out]; exact HO3.out, HB3.out⟩
  · have HE := hid (fil_nor hnor)
    clear hnor
    go_wp2
    go_ret
    exact ⟨_, rfl, by rw [HE.out, ← HN.out]; exact HO1.out, HB1.out⟩
end Go.Proofs.Ytljlhlcoaajggaa
