/- The contracts of inForm, Fold, Great and Equal (package fold). -/
import Derived.Test.YtdcfflnjkjnodaaGreatDoorFoForm2
import Derived.Test.YtdcfflnjkjnodaaGreatDoorFoLet
import Derived.Test.YtdcfflnjkjnodaaGreatDoorRMath
import Derived.Laws.IdiomStrings
import Derived.Laws.RangeAny
namespace Go.Proofs.YtdcfflnjkjnodaaGreatDoor
open Go.RowKit Ev
namespace Fo
/-- A text in its forms of one kind, rune by rune. -/
def wrtF (k : Nat) : Nat → List UInt8 → List UInt8
  | 0, _ => []
  | n + 1, l => if l = [] then [] else fbs l ((dec l).1 : Int) k ++ wrtF k n (l.drop (dec l).2)
theorem wrtF_any (k : Nat) : ∀ (f g : Nat) (l : List UInt8), l.length ≤ f → l.length ≤ g → wrtF k f l = wrtF k g l
  | 0, 0, l, _, _ => rfl
  | 0, g + 1, l, hf, _ => by
    have : l = [] := List.length_eq_zero_iff.1 (by omega)
    subst this; rfl
  | f + 1, 0, l, _, hg => by
    have : l = [] := List.length_eq_zero_iff.1 (by omega)
    subst this; rfl
  | f + 1, g + 1, l, hf, hg => by
    unfold wrtF
    by_cases h : l = []
    · rw [if_pos h, if_pos h]
    · have := dec_ge l h
      rw [if_neg h, if_neg h, wrtF_any k f g _ (by simp; omega) (by simp; omega)]
def wrt (k : Nat) (l : List UInt8) : List UInt8 := wrtF k l.length l
theorem wrt_nil (k : Nat) : wrt k [] = [] := rfl
theorem wrt_cons (k : Nat) (l : List UInt8) (h : l ≠ []) : wrt k l = fbs l ((dec l).1 : Int) k ++ wrt k (l.drop (dec l).2) := by
  have h1 : 0 < l.length := List.length_pos_iff.2 h
  have := dec_ge l h
  unfold wrt
  rw [wrtF_any k l.length (l.length - 1 + 1) l (Nat.le_refl _) (by omega)]
  conv => lhs; unfold wrtF
  rw [if_neg h, wrtF_any k _ (l.drop (dec l).2).length _ (by simp; omega) (Nat.le_refl _)]
def okD (x : Ln4) : Bool := decide (0 ≤ x.1 + x.2.2.1)
theorem prT_okD : ∀ x ∈ prT, okD x = true := List.all_eq_true.1 (show prT.all okD = true by kernel_rfl)
theorem ofL_bd (r : Int) (h0 : 0 ≤ r) (h1 : r ≤ 1114111) : ∀ (L : List Ln4), (∀ x ∈ L, okL x = true) → (∀ x ∈ L, okD x = true) → (0 ≤ (ofL L r).1 ∧ (ofL L r).1 ≤ 1114111) ∧ (0 ≤ (ofL L r).2 ∧ (ofL L r).2 ≤ 1114111)
  | [], _, _ => ⟨⟨h0, h1⟩, h0, h1⟩
  | x :: t, hx, hd => by
    have k1 := okL_is (hx x (List.mem_cons_self ..))
    have k2 : 0 ≤ x.1 + x.2.2.1 := by simpa [okD] using hd x (List.mem_cons_self ..)
    unfold ofL
    by_cases e1 : nmB x r = true
    · rw [if_pos e1]
      simp only [nmB, Bool.and_eq_true, decide_eq_true_eq] at e1
      exact ⟨⟨by show 0 ≤ r + x.2.2.1; omega, by show r + x.2.2.1 ≤ 1114111; omega⟩, h0, h1⟩
    · rw [if_neg e1]
      by_cases e2 : nmB x (r - x.2.2.1) = true
      · rw [if_pos e2]
        simp only [nmB, Bool.and_eq_true, decide_eq_true_eq] at e2
        exact ⟨⟨h0, h1⟩, by show 0 ≤ r - x.2.2.1; omega, by show r - x.2.2.1 ≤ 1114111; omega⟩
      · rw [if_neg e2]
        exact ofL_bd r h0 h1 t (fun y hy => hx y (List.mem_cons_of_mem _ hy)) (fun y hy => hd y (List.mem_cons_of_mem _ hy))
theorem ofR_bd (r : Int) (h0 : 0 ≤ r) (h1 : r ≤ 1114111) : (0 ≤ (ofR r).1 ∧ (ofR r).1 ≤ 1114111) ∧ (0 ≤ (ofR r).2 ∧ (ofR r).2 ≤ 1114111) := ofL_bd r h0 h1 prT prT_ok prT_okD
theorem er_len (r : Int) : (Lib.encodeRune r).length ≤ 4 := by
  have := (Lib.runeCells_le r).2
  rwa [Lib.runeCells_length] at this
theorem fbs_len (l : List UInt8) (r : Int) (k : Nat) : (fbs l r k).length ≤ 12 := by
  unfold fbs
  cases hx : spF r with
  | some x =>
    have h1 := (fm_at (spF_ok hx k)).1
    have h2 := ens_len (f := pk x k)
    show (ens (pk x k)).length ≤ 12
    omega
  | none =>
    show (arn l r _).length ≤ 12
    unfold arn
    split
    · simp
    · have := er_len (if k = 0 ∨ k = 3 then (ofR r).1 else (ofR r).2)
      omega
theorem conv_own {w : World} {B : Nat} {v : Value} {T : List UInt8} (h : OwB B v T w) : (convert 41 9 v).run Tryz.prog w = .ok (.string ⟨T.toArray⟩) w := by
  have hc := fun g hg => World.ownsRow.cells h (g := g) hg
  rcases h.2 with ⟨h0, h1⟩ | ⟨g, cap, cur, hv, h1, hg, h2⟩
  · subst h0
    have : T = [] := List.length_eq_zero_iff.1 h1
    subst this
    rw [run_convert_bytes_string w _ _ _ none 0 0 Tryz.underlying41 Tryz.underlying5 Tryz.underlying9]
    rfl
  · subst hv
    refine run_convert_bytes_back w _ _ _ ⟨g, 0, none⟩ cap T Tryz.underlying41 Tryz.underlying5 Tryz.underlying9 (fun j hj => ?_)
    refine hc g rfl j _ ?_
    simp [u8s, hj]
theorem run_next_at {P : Program} (w : World) (it : Nat) (s : ByteArray) (pos : Nat) (ty : TypeId) (hit : w.heap[it]? = some (.stringIter s pos)) (h : pos < s.size) :
    (Instr.next (.pointer (some ⟨it, 0, none⟩)) true ty).run P w = .ok (.tuple #[.bool true, .int .i64 pos, .int .i32 (Utf8.decode s pos).1]) (w.putObj it (.stringIter s (pos + (Utf8.decode s pos).2))) := by
  simp [Instr.next, getObj, setObj, Sem.run_bind, Sem.run, hit, Result.andThen, h, goInt, World.putObj]
theorem run_next_stop {P : Program} (w : World) (it : Nat) (s : ByteArray) (pos : Nat) (ty : TypeId) (hit : w.heap[it]? = some (.stringIter s pos)) (h : ¬ pos < s.size) :
    (Instr.next (.pointer (some ⟨it, 0, none⟩)) true ty).run P w = .ok (.tuple #[.bool false]) w := by
  simp [Instr.next, getObj, Sem.run, hit, h]
theorem wrt_step (k : Nat) (l : List UInt8) (t : Nat) (h : t < l.length) : wrt k (l.drop t) = fbs (l.drop t) ((dec (l.drop t)).1 : Int) k ++ wrt k (l.drop (t + (dec (l.drop t)).2)) := by
  rw [wrt_cons k _ (drop_ne l t h), List.drop_drop]
set_option maxHeartbeats 8000000 in
set_option maxRecDepth 100000 in
theorem in_any (l : List UInt8) (k : Nat) (w : World) (hw : Tbs tabs w) (hl : l.length ≤ 1000000) (hk : k < 4) :
    Calls Tryz.prog 19 #[.string ⟨l.toArray⟩, .int .i64 k] w fun e w' => e = .returned (.string ⟨(wrt k l).toArray⟩) ∧ Below w.heap.size w w' := by
  have HW := hid hw
  have HSZ := hid (show (⟨l.toArray⟩ : ByteArray).size = l.length by show l.toArray.size = _; simp)
  clear hw
  go_enter Tryz.func19, Tryz.ntmps19
  go_wp2_with fail
  refine (letters_any w HW.out).mono ?_
  rintro e w1 ⟨be, g, K, rfl, hg, hK, _, _, _⟩
  obtain ⟨W2, hW2⟩ : ∃ W2, W2 = w1.alloc (.cells #[.slice (some ⟨g, 0, none⟩) 23 23, .map (some K)] 50) := ⟨_, rfl⟩
  have hL2 : LtAt W2 w1.heap.size g K := by
    have kb : Below w1.heap.size w1 W2 := by rw [hW2]; exact below_box
    refine ⟨by rw [hW2]; exact World.alloc_heap_new _ _, ?_, ?_⟩
    · exact (kb.block g (Array.getElem?_eq_some_iff.1 hg).1).trans hg
    · exact (kb.block K (Array.getElem?_eq_some_iff.1 hK).1).trans hK
  have hB2 : Below w.heap.size w W2 := by rw [hW2]; exact be.alloc be.size _
  obtain ⟨i0, hi, hz0, hz1, hz2⟩ := info_parts (show (Tryz.prog.info? 5).map (fun i => (i.zero, i.size, i.bytes)) = some (some (.int .u8 0), 1, 1) by kernel_rfl)
  obtain ⟨w3, hms, hown, hgr⟩ := run_makeSlice_owned (P := Tryz.prog) W2 W2.heap.size 41 5 i0 (.int .u8 0) 1 Tryz.underlying41 hi hz0 hz1 .i64 .i64 l.length (by omega) (by rw [hz2]; omega) (by unfold maxLen; omega) (Nat.le_refl _)
  have hb3 : Below W2.heap.size W2 w3 := (Below.refl _ _).grown hgr (Nat.le_refl _) (fun k hk => by cases hk)
  obtain ⟨B, hBd⟩ : ∃ B, B = W2.heap.size := ⟨_, rfl⟩
  have hs3 : W2.heap.size ≤ w3.heap.size := hb3.size
  have HL4 := hid (show LtAt (w3.alloc (.stringIter ⟨l.toArray⟩ 0)) w1.heap.size g K from hL2.keep ((KO.of_below hb3).trans (KO.alloc _ _)))
  have HO4 := hid (show OwB B (.slice (some ⟨W2.heap.size, 0, none⟩) 0 l.length) [] (w3.alloc (.stringIter ⟨l.toArray⟩ 0)) from World.ownsRow.alloc (by rw [hBd]; exact hown) _)
  have HB4 := hid (show Below w.heap.size w (w3.alloc (.stringIter ⟨l.toArray⟩ 0)) from (hB2.trans (hb3.mono hB2.size)).alloc (Nat.le_trans hB2.size hs3) _)
  have HI4 := hid (World.iter_heap w3 ⟨l.toArray⟩ 0)
  have HBW := hid (show w.heap.size ≤ B by rw [hBd]; exact hB2.size)
  have HB3 := hid (show B ≤ w3.heap.size by rw [hBd]; exact hs3)
  rw [hW2] at hms
  have e2 : W2.heap.size = w1.heap.size + 1 := by rw [hW2]; simp
  rw [e2] at HO4
  rw [World.size_alloc] at hms
  clear hL2 hB2 hown hgr hb3 hs3 hi hz0 hz1 hz2 be hg hK hBd e2 hW2
  go_wp2
  go_loopw [6] (fun v6 wr => ∃ (t : Nat) (T : List UInt8), t ≤ l.length ∧ Hid (wrt k l = T ++ wrt k (l.drop t)) ∧ Hid (T.length ≤ 12 * t) ∧ Hid (OwB B v6 T wr) ∧ Hid (wr.heap[w3.heap.size]? = some (.stringIter ⟨l.toArray⟩ t)) ∧ Hid (LtAt wr w1.heap.size g K) ∧ Hid (Below w.heap.size w wr) ∧ Hid (B ≤ wr.heap.size)) (fun _ wr => l.length - wr.iterPos w3.heap.size)
  case atStart => exact ⟨0, [], Nat.zero_le _, (by show _ = _; simp), (by show _ ≤ _; simp), HO4, HI4, HL4, HB4, (by show _ ≤ _; have h5 := HB3.out; have h6 := (Array.getElem?_eq_some_iff.1 HI4.out).1; omega)⟩
  case round =>
    obtain ⟨t, T, ht, HP, HT, HO, HI, HL, HB, HBr⟩ := hrel
    have hin : w3.heap.size < wr.heap.size := (Array.getElem?_eq_some_iff.1 HI.out).1
    by_cases hlt : t < l.length
    · have hnx := run_next_at (P := Tryz.prog) wr w3.heap.size ⟨l.toArray⟩ t 0 HI.out (by rw [HSZ.out]; exact hlt)
      rw [decode_place l t hlt] at hnx
      have d1 := dec_ge _ (drop_ne l t hlt)
      have d2 := dec_rune _ (drop_ne l t hlt)
      have d3 := dec_le _ (drop_ne l t hlt)
      have hst := wrt_step k l t hlt
      obtain ⟨nn, hnn⟩ : ∃ nn, nn = (dec (l.drop t)).2 := ⟨_, rfl⟩
      obtain ⟨rr, hrr⟩ : ∃ rr, rr = (dec (l.drop t)).1 := ⟨_, rfl⟩
      rw [← hnn] at hnx d1 d3 hst
      rw [← hrr] at hnx d2 hst
      have d4 : t + nn ≤ l.length := by simp at d3; omega
      have HST := hid hst
      obtain ⟨w4, hw4⟩ : ∃ w4, w4 = wr.putObj w3.heap.size (.stringIter ⟨l.toArray⟩ (t + nn)) := ⟨_, rfl⟩
      rw [← hw4] at hnx
      have HI1 := hid (show w4.heap[w3.heap.size]? = some (.stringIter ⟨l.toArray⟩ (t + nn)) by rw [hw4]; exact World.putObj_heap_same hin)
      have hoth : ∀ j, j ≠ w3.heap.size → w4.heap[j]? = wr.heap[j]? := fun j hj => by rw [hw4]; exact World.putObj_heap_other hj
      have hsz4 : w4.heap.size = wr.heap.size := by rw [hw4]; simp [World.putObj]
      have HL1 := hid (show LtAt w4 w1.heap.size g K by
        have h := HL.out
        have hi := HI.out
        refine ⟨(hoth _ (fun e => ?_)).trans h.box, (hoth _ (fun e => ?_)).trans h.prs, (hoth _ (fun e => ?_)).trans h.map⟩
        · have := h.box; rw [e, hi] at this; cases this
        · have := h.prs; unfold RdL at this; rw [e, hi] at this; cases this
        · have := h.map; rw [e, hi] at this; cases this)
      have HO1 := hid (show OwB B u6 T w4 by
        refine ⟨HO.out.1, ?_⟩
        rcases HO.out.2 with h0 | ⟨g', cap, cur, hv, h1, hg', h2⟩
        · exact .inl h0
        · refine .inr ⟨g', cap, cur, hv, h1, (hoth g' (fun e => ?_)).trans hg', h2⟩
          have hi := HI.out
          rw [e, hi] at hg'; cases hg')
      have HB1 := hid (show Below w.heap.size w w4 by
        have h5 := HBW.out
        have h6 := HB3.out
        rw [hw4]; exact HB.out.trans ⟨rfl, rfl, rfl, by simp [World.putObj], fun j hj => World.putObj_heap_other (by omega)⟩)
      have HM := hid (show l.length - wr.iterPos w3.heap.size = l.length - t by unfold World.iterPos; rw [HI.out])
      have hB5 : B ≤ w4.heap.size := by have := HBr.out; omega
      have hT9 : T.length ≤ 900000000 := by have := HT.out; omega
      have hdl : (l.drop t).length ≤ 1000000000 := by simp; omega
      have hdn := drop_ne l t hlt
      obtain ⟨q0, q1⟩ := ofR_bd (rr : Int) (by omega) (by omega)
      have HQ := hid (And.intro q0 q1)
      clear hnn hrr hw4 HI HB HL HO hst hoth q0 q1 d3
      go_wp2_with fail
      rw [ext_drop]
      refine (form_any B w1.heap.size g K k u6 T (l.drop t) (rr : Int) _ hk HL1.out HO1.out hT9 hdl hdn (by omega) (by omega) HQ.out.1 HQ.out.2 hB5).mono ?_
      rintro e w5 ⟨v', rfl, h2, h3⟩
      have HP5 := hid (show wrt k l = (T ++ fbs (l.drop t) (rr : Int) k) ++ wrt k (l.drop (t + nn)) by rw [HP.out, HST.out, List.append_assoc])
      have HT5 := hid (show (T ++ fbs (l.drop t) (rr : Int) k).length ≤ 12 * (t + nn) by
        have := fbs_len (l.drop t) (rr : Int) k
        have := HT.out
        simp only [List.length_append]; omega)
      have HO5 := hid h2
      have HI5 := hid (h3.others _ _ HI1.out (fun _ _ e => by cases e))
      have HL5 := hid (HL1.out.keep h3.others)
      have HB5 := hid (HB1.out.trans (h3.below.mono HBW.out))
      have HBr5 := hid (Nat.le_trans hB5 h3.below.size)
      clear h2 h3 hdl hdn hnx
      go_wp2
      go_roundw
      case rel => exact ⟨t + nn, _, d4, HP5, HT5, HO5, HI5, HL5, HB5, HBr5⟩
      case measure =>
        rw [HM.out]
        unfold World.iterPos
        rw [HI5.out]
        show l.length - (t + nn) < l.length - t
        omega
    · have hnx := run_next_stop (P := Tryz.prog) wr w3.heap.size ⟨l.toArray⟩ t 0 HI.out (by rw [HSZ.out]; exact hlt)
      have hcv := conv_own HO.out
      have HE := hid (show wrt k l = T by rw [HP.out, List.drop_of_length_le (by omega), wrt_nil, List.append_nil])
      clear hlt
      go_wp2
      go_ret
      exact ⟨by rw [HE.out]; rfl, HB.out⟩
theorem fold_any (l : List UInt8) (w : World) (hw : Tbs tabs w) (hl : l.length ≤ 1000000) : Calls Tryz.prog 6 #[.string ⟨l.toArray⟩] w fun e w' => e = .returned (.string ⟨(wrt 3 l).toArray⟩) ∧ Below w.heap.size w w' := by
  go_enter Tryz.func6, Tryz.ntmps6
  go_wp2_with fail
  refine (in_any l 3 w hw hl (by omega)).mono ?_
  rintro e w1 ⟨rfl, be⟩
  go_wp2
  go_ret
  exact ⟨rfl, be⟩
theorem great_any (l : List UInt8) (w : World) (hw : Tbs tabs w) (hl : l.length ≤ 1000000) : Calls Tryz.prog 10 #[.string ⟨l.toArray⟩] w fun e w' => e = .returned (.string ⟨(wrt 1 l).toArray⟩) ∧ Below w.heap.size w w' := by
  go_enter Tryz.func10, Tryz.ntmps10
  go_wp2_with fail
  refine (in_any l 1 w hw hl (by omega)).mono ?_
  rintro e w1 ⟨rfl, be⟩
  go_wp2
  go_ret
  exact ⟨rfl, be⟩
theorem tbs_below {w w' : World} (hw : Tbs tabs w) (hB : Below w.heap.size w w') : Tbs tabs w' := fun x hx => by
  obtain ⟨c, h1, h2⟩ := hw x hx
  exact ⟨c, (hB.block _ (Array.getElem?_eq_some_iff.1 h1).1).trans h1, h2⟩
theorem equal_any (l m : List UInt8) (w : World) (hw : Tbs tabs w) (hl : l.length ≤ 1000000) (hm : m.length ≤ 1000000) : Calls Tryz.prog 15 #[.string ⟨l.toArray⟩, .string ⟨m.toArray⟩] w fun e w' => e = .returned (.bool (wrt 3 l == wrt 3 m)) ∧ Below w.heap.size w w' := by
  go_enter Tryz.func15, Tryz.ntmps15
  go_wp2_with fail
  refine (fold_any l w hw hl).mono ?_
  rintro e w1 ⟨rfl, be⟩
  have HB := hid be
  go_wp2_with fail
  refine (fold_any m w1 (tbs_below hw be) hm).mono ?_
  rintro e w2 ⟨rfl, be2⟩
  have HB2 := hid (HB.out.trans (be2.mono HB.out.size))
  clear be be2
  go_wp2
  go_ret
  exact ⟨by simp, HB2.out⟩
end Fo
end Go.Proofs.YtdcfflnjkjnodaaGreatDoor
