/- The walk of UtfRange: a range over the string, then the iterator of Each, twice, nested, left early, each held against the document's marks. -/
import Derived.Test.YtflehkdijfhmgaaDoorNest
import Derived.Test.YtflehkdijfhmgaaDoorRunesRef
import Derived.Test.YtflehkdijfhmgaaDoorLaid
import Derived.Test.YtflehkdijfhmgaaDoorTie
import Derived.Test.YtflehkdijfhmgaaDoorCards
import Derived.OpenShut
import Derived.ShutString
import Derived.Lay
import Derived.SevenTiedAt
import Derived.Laws.EntriesVeiled
namespace Go.Proofs.YtflehkdijfhmgaaDoor
open Go.ChangeShapes Go.WideShapes Go.ChangeAt Go.RowKit Go.Shelf
open Go.ChangeMaps (open_string shut_string)
attribute [local go_sem] Oper.semAt_some

theorem eq_nilf (lb : Array Value) (w : World) : (binOp .eql 37 (.func (.func 53) #[] lb) .nilFunc).run Tryd.prog w = .ok (.bool false) w := by kernel_rfl
attribute [local go_sem] eq_nilf

/-- What lies below when the loops begin: the boxes of stop, of the answer, of the text, of the iterator, of the list of marks; and the marks. -/
structure Kit (B m1 : Nat) (stop : Int) (l : List UInt8) (ao : Option Addr) (cap : Nat) (ms : List Mk) (W : World) : Prop where
  lt : B + 3 < m1
  stop : Boxed W B 3 (.int .i64 stop)
  res : Boxed W (B + 1) 4 (.bool false)
  str : Boxed W (B + 1 + 1) 9 (.string ⟨l.toArray⟩)
  fn : Boxed W (B + 1 + 1 + 1) 37 (.func (.func 53) #[] #[.pointer (some ⟨B + 1 + 1, 0, none⟩)])
  marks : Boxed W m1 39 (.slice ao ms.length cap)
  cells : ∀ (k : Nat) (m : Mk), ms[k]? = some m → ∃ g, ao = some ⟨g, 0, none⟩ ∧ g < m1 ∧ W.cell? ⟨g, k * 4, none⟩ = some (.int .i64 m.pl) ∧ W.cell? ⟨g, k * 4 + 2, none⟩ = some (.int .i32 m.ru)
theorem boxed_below {n B : Nat} {t : TypeId} {v : Value} {W W' : World} (h : Boxed W B t v) (hB : Below n W W') (hlt : B < n) : Boxed W' B t v := (hB.block B hlt).trans h
theorem Kit.below {B m1 : Nat} {stop : Int} {l : List UInt8} {ao : Option Addr} {cap : Nat} {ms : List Mk} {W W' : World} (h : Kit B m1 stop l ao cap ms W) (hB : Below (m1 + 1) W W') : Kit B m1 stop l ao cap ms W' := by
  have h0 := h.lt
  refine ⟨h0, boxed_below h.stop hB (by omega), boxed_below h.res hB (by omega), boxed_below h.str hB (by omega), boxed_below h.fn hB (by omega), boxed_below h.marks hB (by omega), fun k m hk => ?_⟩
  obtain ⟨g, h1, h2, h3, h4⟩ := h.cells k m hk
  exact ⟨g, h1, h2, (hB.cell (p := ⟨g, k * 4, none⟩) (show g < m1 + 1 by omega)).trans h3, (hB.cell (p := ⟨g, k * 4 + 2, none⟩) (show g < m1 + 1 by omega)).trans h4⟩

theorem drop_step {ms : List Mk} {k : Nat} {m : Mk} {r : List Mk} (h : m :: r = ms.drop k) : ms[k]? = some m ∧ k < ms.length ∧ r = ms.drop (k + 1) := by
  have h1 : k < ms.length := by
    have := congrArg List.length h
    simp at this; omega
  have h2 := List.drop_eq_getElem_cons h1
  rw [h2] at h
  obtain ⟨e1, e2⟩ := List.cons.inj h
  exact ⟨by rw [e1]; exact List.getElem?_eq_getElem h1, h1, e2⟩

theorem bad_next {L pre : List (Int × Int)} {n : Nat} {x y : Int × Int} (hn : n = pre.length) (h : L[n]? = some y) (hne : ¬ y = x) : ¬ pre ++ [x] <+: L := by
  rintro ⟨r, rfl⟩
  subst hn
  simp at h
  exact hne h.symm

set_option maxHeartbeats 4000000 in
theorem range_in (l : List UInt8) (stop : Int) (w : World) (hT : Lib.Utf8Tabs 0 1 w) (h2 : 2 ≤ w.heap.size) (hl : l.length ≤ 300) :
    CallsIn Fence.wide 9 Tryd.prog 5 #[.string ⟨l.toArray⟩, .int .i64 stop] w fun e W' => e = .returned (.bool true) ∧ Below w.heap.size w W' := by
  have HT := hid hT
  clear hT
  obtain ⟨ms, hms0⟩ : ∃ ms, ms = mks 0 l := ⟨_, rfl⟩
  have HMS := hid hms0
  have hmsl : ms.length ≤ 300 := by rw [hms0]; exact Nat.le_trans (mks_le l) hl
  have HPL := hid (show (prs l).length = ms.length by rw [hms0]; unfold prs; simp)
  have HPR := hid (show ∀ (k : Nat) (m : Mk), ms[k]? = some m → (prs l)[k]? = some (m.pl, m.ru) by intro k m hk; unfold prs; rw [← hms0, List.getElem?_map, hk]; rfl)
  clear hms0
  have HSZ := hid (show (⟨l.toArray⟩ : ByteArray).size = l.length by show l.toArray.size = _; simp)
  refine callsIn_of_wp_marks Tryd.func5 rfl trivial ?_ rfl
  simp only [Tryd.ntmps5, List.size_toArray, List.length_cons, List.length_nil, Nat.reduceAdd, Nat.reduceSub, Array.replicate_succ, Array.replicate_zero, List.push_toArray, List.append_toArray, List.nil_append, List.cons_append]
  gi_wp2_with (first | (refine ⟨trivial, ?_⟩; gi_at_call 26; refine (callsIn_wide.2 (each_any l _)).mono ?_; rintro e w' ⟨rfl, rfl⟩) | (refine ⟨trivial, ?_⟩; gi_at_call 27; refine (callsIn_wide.2 (marks_any l _ (by omega))).mono ?_; rintro e w1 ⟨v, rfl, hown1, hb1⟩; rw [← HMS.out] at hown1; obtain ⟨ao, cap, rfl, hcell⟩ := marks_cells hown1; clear hown1; have HCELL := hid hcell; clear hcell; have HB1 := hid hb1; clear hb1))
  have hs1 : w.heap.size + 4 ≤ w1.heap.size := by have := HB1.out.size; simpa using this
  obtain ⟨m1, hm1⟩ : ∃ m1, m1 = w1.heap.size := ⟨_, rfl⟩
  obtain ⟨Wb, hWb⟩ : ∃ Wb, Wb = w1.alloc (.cells #[.slice ao ms.length cap] 39) := ⟨_, rfl⟩
  have hWbs : Wb.heap.size = m1 + 1 := by rw [hWb, hm1]; simp
  have hK : Kit w.heap.size m1 stop l ao cap ms Wb := by
    have hb1 := HB1.out
    have e0 := ((((Boxed.new w 3 (.int .i64 stop)).alloc (.cells #[.bool false] 4)).alloc (.cells #[.string ⟨l.toArray⟩] 9)).alloc (.cells #[.func (.func 53) #[] #[.pointer (some ⟨w.heap.size + 1 + 1, 0, none⟩)]] 37))
    have e1 := (((Boxed.new (w.alloc (.cells #[.int .i64 stop] 3)) 4 (.bool false)).alloc (.cells #[.string ⟨l.toArray⟩] 9)).alloc (.cells #[.func (.func 53) #[] #[.pointer (some ⟨w.heap.size + 1 + 1, 0, none⟩)]] 37))
    have e2 := ((Boxed.new ((w.alloc (.cells #[.int .i64 stop] 3)).alloc (.cells #[.bool false] 4)) 9 (.string ⟨l.toArray⟩)).alloc (.cells #[.func (.func 53) #[] #[.pointer (some ⟨w.heap.size + 1 + 1, 0, none⟩)]] 37))
    have e3 := Boxed.new (((w.alloc (.cells #[.int .i64 stop] 3)).alloc (.cells #[.bool false] 4)).alloc (.cells #[.string ⟨l.toArray⟩] 9)) 37 (.func (.func 53) #[] #[.pointer (some ⟨w.heap.size + 1 + 1, 0, none⟩)])
    simp only [World.size_alloc] at e1 e2 e3
    rw [hWb, hm1]
    refine ⟨by omega, (boxed_below e0 hb1 (by simp; omega)).alloc _, (boxed_below e1 hb1 (by simp)).alloc _, (boxed_below e2 hb1 (by simp)).alloc _, (boxed_below e3 hb1 (by simp)).alloc _, Boxed.new _ _ _, fun k m hk => ?_⟩
    obtain ⟨g, c0, c1, c2, _, c3, _⟩ := HCELL.out k m hk
    have ha := (Below.refl w1.heap.size w1).alloc (Nat.le_refl _) (.cells #[.slice ao ms.length cap] 39)
    exact ⟨g, c0, c1, (ha.cell (p := ⟨g, k * 4, none⟩) c1).trans c2, (ha.cell (p := ⟨g, k * 4 + 2, none⟩) c1).trans c3⟩
  have hB0 : Below w.heap.size w Wb := by
    rw [hWb]
    have h4 : Below w.heap.size w ((((w.alloc (.cells #[.int .i64 stop] 3)).alloc (.cells #[.bool false] 4)).alloc (.cells #[.string ⟨l.toArray⟩] 9)).alloc (.cells #[.func (.func 53) #[] #[.pointer (some ⟨w.heap.size + 1 + 1, 0, none⟩)]] 37)) :=
      ((((Below.refl _ w).alloc (Nat.le_refl _) _).alloc (by simp) _).alloc (by simp; omega) _).alloc (by simp; omega) _
    exact (h4.trans (HB1.out.mono (by simp; omega))).alloc (by omega) _
  have HK := hid hK
  have HB0 := hid hB0
  have HWS := hid hWbs
  rw [← hWb, ← hm1]
  rw [← hm1] at hs1
  clear HB1 HCELL hK hB0 hWbs hm1 hWb
  gi_loopw [8] (fun _ wr => ∃ (t k : Nat), t ≤ l.length ∧ k ≤ ms.length ∧ Hid (mks t (l.drop t) = ms.drop k) ∧ Hid (wr.heap[m1 + 1 + 1]? = some (.stringIter ⟨l.toArray⟩ t)) ∧ Hid (Boxed wr (m1 + 1) 3 (.int .i64 k)) ∧ Hid (Below (m1 + 1) Wb wr)) (fun _ wr => l.length - wr.iterPos (m1 + 1 + 1))
  case atStart =>
    have b1 := Boxed.new Wb 3 (.int .i64 0)
    rw [HWS.out] at b1
    refine ⟨0, 0, by omega, by omega, by show _ = _; rw [HMS.out]; rfl, ?_, b1.kept (World.grownBy_alloc _ _ none) (by simp), ?_⟩
    · have h := World.iter_heap (Wb.alloc (.cells #[.int .i64 0] 3)) ⟨l.toArray⟩ 0
      simp only [World.size_alloc, HWS.out] at h
      exact h
    · exact ((Below.refl _ Wb).alloc (by rw [HWS.out]; omega) _).alloc (by simp [HWS.out]) _
  case round =>
    obtain ⟨t, k, htl, hkl, HD, HI, HN, HB⟩ := hrel
    have hKw := HK.out.below HB.out
    by_cases hlt : t < l.length
    · have hnx := run_next_at (P := Tryd.prog) wr (m1 + 1 + 1) ⟨l.toArray⟩ t 0 HI.out (by rw [HSZ.out]; exact hlt)
      rw [decode_place l t hlt] at hnx
      have hne : l.drop t ≠ [] := fun e => by have := congrArg List.length e; simp at this; omega
      have hD := HD.out
      rw [mks_cons t (l.drop t) hne] at hD
      obtain ⟨hmk, hkm, hD2⟩ := drop_step hD
      have d1 := dec_ge _ hne
      have d2 := dec_le _ hne
      simp only [List.length_drop, List.drop_drop] at d2 hD2
      obtain ⟨g, rfl, hg1, c0, c2⟩ := hKw.cells k _ hmk
      have HPL : (mk1 t (l.drop t)).pl = t := rfl
      have HRU : (mk1 t (l.drop t)).ru = (dec (l.drop t)).1 := rfl
      rw [HPL] at c0
      rw [HRU] at c2
      obtain ⟨nn, hnn⟩ : ∃ nn, nn = (dec (l.drop t)).2 := ⟨_, rfl⟩
      obtain ⟨rr, hrr⟩ : ∃ rr, rr = (dec (l.drop t)).1 := ⟨_, rfl⟩
      rw [← hnn] at hnx hD2 d1 d2
      rw [← hrr] at hnx c2
      obtain ⟨w2, hw2⟩ : ∃ w2, w2 = wr.putObj (m1 + 1 + 1) (.stringIter ⟨l.toArray⟩ (t + nn)) := ⟨_, rfl⟩
      rw [← hw2] at hnx
      have hin : m1 + 1 + 1 < wr.heap.size := (Array.getElem?_eq_some_iff.1 HI.out).1
      have hI2 : w2.heap[m1 + 1 + 1]? = some (.stringIter ⟨l.toArray⟩ (t + nn)) := by rw [hw2]; exact World.putObj_heap_same hin
      have hB12 : Below (m1 + 1) wr w2 := by rw [hw2]; exact ⟨rfl, rfl, rfl, by simp [World.putObj], fun j hj => World.putObj_heap_other (by omega)⟩
      have hN2 : Boxed w2 (m1 + 1) 3 (.int .i64 k) := by rw [hw2]; exact (World.putObj_heap_other (by omega)).trans HN.out
      have hB2 := HB.out.trans hB12
      have hK2 := hKw.below hB12
      have c0' := (hB12.cell (p := ⟨g, k * 4, none⟩) (show g < m1 + 1 by omega)).trans c0
      have c2' := (hB12.cell (p := ⟨g, k * 4 + 2, none⟩) (show g < m1 + 1 by omega)).trans c2
      have cN := hN2.cell
      have fN := hN2.frozen
      have cM := hK2.marks.cell
      have hmes : l.length - wr.iterPos (m1 + 1 + 1) = l.length - t := by unfold World.iterPos; rw [HI.out]
      have HM := hid hmes
      have HI2 := hid hI2
      have HB2 := hid hB2
      have HN2 := hid hN2
      have HD2 := hid hD2
      clear hmes hI2 hB2 hN2 hD2 hD hmk hne hnn hrr hw2 hin hB12 hK2 hKw c0 c2 HPL HRU HD HI HN HB
      gi_wp2
      go_roundw
      case rel =>
        refine ⟨t + nn, k + 1, by omega, by omega, HD2, ?_, ?_, ?_⟩
        · exact (Below.heap_setCell _ _ _ _ (by simp)).trans HI2.out
        · exact HN2.out.set _
        · exact HB2.out.setCell (p := ⟨m1 + 1, 0, none⟩) (by simp) _
      case measure =>
        rw [HM.out]
        unfold World.iterPos
        rw [Below.heap_setCell _ _ _ _ (by simp), HI2.out]
        simp only []
        omega
    · have hnx := run_next_stop (P := Tryd.prog) wr (m1 + 1 + 1) ⟨l.toArray⟩ t 0 HI.out (by rw [HSZ.out]; exact hlt)
      have hke : k = ms.length := by
        have h := HD.out
        rw [List.drop_of_length_le (by omega), mks_nil] at h
        have h2 := congrArg List.length h
        simp at h2
        omega
      subst hke
      have cN := HN.out.cell
      have cM := hKw.marks.cell
      have HKW := hid hKw
      clear hKw
      gi_wp2
      clear cN cM hnx hlt
      obtain ⟨W0, hW0⟩ : ∃ W0, W0 = wr.alloc (.cells #[.int .i64 0] 3) := ⟨_, rfl⟩
      have HBT := hid (show Boxed W0 wr.heap.size 3 (.int .i64 0) by rw [hW0]; exact Boxed.new _ _ _)
      have HN0 := hid (show Boxed W0 (m1 + 1) 3 (.int .i64 ms.length) by rw [hW0]; exact HN.out.alloc _)
      have hwrs : m1 + 1 < wr.heap.size := HN.out.lt
      have HBW := hid (show Below (m1 + 1) Wb W0 by rw [hW0]; exact HB.out.alloc (by omega) _)
      rw [← hW0]
      obtain ⟨bt, hbt⟩ : ∃ bt, bt = wr.heap.size := ⟨_, rfl⟩
      rw [← hbt] at HBT hwrs ⊢
      clear hW0 hbt HKW HN HB HD HI htl hkl
      refine wpIn_loop_rounds 3 ?_
      rw [roundsIn_succ]
      -- the turn number 0
      have HK0 := hid (HK.out.below HBW.out)
      have cT := HBT.out.cell
      have cN := HN0.out.cell
      have fN := HN0.out.frozen
      have cE : (W0.setCell ⟨m1 + 1, 0, none⟩ (.int .i64 0)).cell? ⟨w.heap.size + 1 + 1 + 1, 0, none⟩ = some (.func (.func 53) #[] #[.pointer (some ⟨w.heap.size + 1 + 1, 0, none⟩)]) := (HK0.out.fn.other (by omega) _).cell
      gi_wp2
      clear cT cN fN cE
      obtain ⟨X0, hX⟩ : ∃ X, X = W0.setCell ⟨m1 + 1, 0, none⟩ (.int .i64 0) := ⟨_, rfl⟩
      have HBTX := hid (show Boxed X0 bt 3 (.int .i64 0) by rw [hX]; exact HBT.out.other (by omega) _)
      have HNX := hid (show Boxed X0 (m1 + 1) 3 (.int .i64 0) by rw [hX]; exact HN0.out.set _)
      have HBX := hid (show Below (m1 + 1) Wb X0 by rw [hX]; exact HBW.out.setCell (p := ⟨m1 + 1, 0, none⟩) (by simp) _)
      have hXs : bt < X0.heap.size := HBTX.out.lt
      have HKX := hid (HK.out.below HBX.out)
      rw [← hX]
      clear hX HBT HN0 HBW HK0
      refine rf_H rfl (by omega) (gf := 53) (lb := #[.pointer (some ⟨w.heap.size + 1 + 1, 0, none⟩)]) rfl trivial (enters_of Tryd.func53 (by kernel_rfl) rfl)
        (each_stops Fence.wide _ trivial rfl (by omega) (w.heap.size + 1 + 1) l X0 (by omega) HKX.out.str.cell) (Below.refl _ _) rfl 4 11 12
        (fun pre W' => (Boxed W' (m1 + 1) 3 (.int .i64 pre.length) ∧ Boxed W' bt 3 (.int .i64 0)) ∧ (Below (m1 + 1) Wb W' ∧ KeepsFrom 0 X0 W'))
        (fun _ W' => ((∃ q : Int, Boxed W' (m1 + 1) 3 (.int .i64 q)) ∧ Boxed W' bt 3 (.int .i64 0)) ∧ (Below (m1 + 1) Wb W' ∧ KeepsFrom 0 X0 W'))
        (OwnFrom.and (OwnFrom.and (Own.from (boxed_own _ _ (fun pre : List (Int × Int) => Value.int .i64 pre.length)) _) (Own.from (boxed_own _ _ _) _)) (OwnFrom.and (ownFrom_below (by rw [HWS.out]; omega) (by omega)) (ownFrom_keepsFrom (Nat.le_refl _))))
        (OwnFrom.and (OwnFrom.and (fun _ A B row hs hg hr => by obtain ⟨q, hq⟩ := hs; exact ⟨q, boxed_own (m1 + 1) 3 (fun (_ : Unit) => Value.int .i64 q) () A B row hq hg (fun r e => (hr r e).2)⟩) (Own.from (boxed_own _ _ _) _)) (OwnFrom.and (ownFrom_below (by rw [HWS.out]; omega) (by omega)) (ownFrom_keepsFrom (Nat.le_refl _))))
        ⟨⟨HNX.out, HBTX.out⟩, HBX.out, KeepsFrom.refl _ _⟩ ?assign0 ?body0
        (fun W' => ((∃ q : Int, Boxed W' (m1 + 1) 3 (.int .i64 q)) ∧ Boxed W' bt 3 (.int .i64 0)) ∧ (Below (m1 + 1) Wb W' ∧ KeepsFrom 0 X0 W')) (fun _ h => ⟨⟨⟨_, h.1.1⟩, h.1.2⟩, h.2⟩) (fun _ _ _ h => h) (fun _ _ h => h) ?fin0
      case assign0 =>
        intro lp x W K hK
        dsimp only [encs2]
        gi_wp2
        simpa [fr, encs2] using hK
      case body0 =>
        rintro lp pre ⟨xi, xr⟩ W hlp ⟨r, hr⟩ ⟨⟨bN, bT⟩, hB, hKF⟩ hlt
        have hKw := HK.out.below hB
        rw [HPL.out] at hlt
        obtain ⟨m, hm⟩ : ∃ m, ms[pre.length]? = some m := ⟨_, List.getElem?_eq_getElem hlt⟩
        obtain ⟨g, rfl, hg1, c0, c2⟩ := hKw.cells pre.length m hm
        have HX := hid (HPR.out pre.length m hm)
        obtain ⟨mp, hmp⟩ : ∃ mp, mp = m.pl := ⟨_, rfl⟩
        obtain ⟨mr, hmr⟩ : ∃ mr, mr = m.ru := ⟨_, rfl⟩
        rw [← hmp] at c0 HX
        rw [← hmr] at c2 HX
        clear hmp hmr hm
        obtain ⟨n, hn⟩ : ∃ n, n = pre.length := ⟨_, rfl⟩
        rw [← hn] at hlt c0 c2 bN HX
        have HN1 := hid hn
        clear hn
        have cN := bN.cell
        have fN := bN.frozen
        have cM := hKw.marks.cell
        have cE : (W.alloc (.cells #[.int .i64 0] 3)).cell? ⟨w.heap.size + 1 + 1 + 1, 0, none⟩ = some (.func (.func 53) #[] #[.pointer (some ⟨w.heap.size + 1 + 1, 0, none⟩)]) := (hKw.fn.alloc _).cell
        have cR := hKw.res.cell
        have fR := hKw.res.frozen
        have HBN := hid bN
        have HBT1 := hid bT
        have HB1 := hid hB
        have HKF1 := hid hKF
        have HKW1 := hid hKw
        have HR := hid hr
        clear bN bT hB hKF hKw hr
        dsimp only [fr, encs2]
        by_cases e1 : mp = xi
        · by_cases e2 : mr = xr
          · subst e1 e2
            gi_wp2
            clear c0 c2 cN fN cM cE cR fR
            have hWs : bt < W.heap.size := HBT1.out.lt
            obtain ⟨Y, hY⟩ : ∃ Y, Y = W.alloc (.cells #[.int .i64 0] 3) := ⟨_, rfl⟩
            obtain ⟨bk, hbk⟩ : ∃ bk, bk = W.heap.size := ⟨_, rfl⟩
            have HBK := hid (show Boxed Y bk 3 (.int .i64 0) by rw [hY, hbk]; exact Boxed.new _ _ _)
            have HKFY := hid (show KeepsFrom 0 W Y by rw [hY]; exact (KeepsOthers.alloc _ _).from _)
            have HBY := hid (show Below (m1 + 1) Wb Y by rw [hY]; exact HB1.out.alloc (by omega) _)
            have HNY := hid (show Boxed Y (m1 + 1) 3 (.int .i64 n) by rw [hY]; exact HBN.out.alloc _)
            have HTY := hid (show Boxed Y bt 3 (.int .i64 0) by rw [hY]; exact HBT1.out.alloc _)
            have hrY : Y.heap[lp]? = some (.loop r) := by rw [hY]; exact (Below.heap_alloc W _ lp (Array.getElem?_eq_some_iff.1 HR.out).1).trans HR.out
            have hYs : W.heap.size ≤ Y.heap.size := HKFY.out.size
            have HKY := hid (HK.out.below HBY.out)
            rw [← hY, ← hbk]
            rw [← hbk] at hWs
            clear hY hbk
            refine rf_N (l₀ := lp) (r₀ := r) rfl hrY (by omega) (gf := 53) (lb := #[.pointer (some ⟨w.heap.size + 1 + 1, 0, none⟩)]) rfl trivial (enters_of Tryd.func53 (by kernel_rfl) rfl)
              (stopsA_round lp (each_stops Fence.wide _ trivial rfl (by omega) (w.heap.size + 1 + 1) l Y (by have := HKY.out.str.lt; omega) HKY.out.str.cell)) (Below.refl _ _) rfl 6 14 15
              (fun pre' W' => ((Boxed W' bk 3 (.int .i64 pre'.length) ∧ Boxed W' (m1 + 1) 3 (.int .i64 n)) ∧ Boxed W' bt 3 (.int .i64 0)) ∧ (Below (m1 + 1) Wb W' ∧ KeepsFrom 0 W W'))
              (fun _ W' => (Boxed W' (m1 + 1) 3 (.int .i64 n) ∧ Boxed W' bt 3 (.int .i64 0)) ∧ (Below (m1 + 1) Wb W' ∧ KeepsFrom 0 W W'))
              (OwnFrom.and (OwnFrom.and (OwnFrom.and (Own.from (boxed_own _ _ (fun pre : List (Int × Int) => Value.int .i64 pre.length)) _) (Own.from (boxed_own _ _ _) _)) (Own.from (boxed_own _ _ _) _)) (OwnFrom.and (ownFrom_below (by rw [HWS.out]; omega) (by have := HBK.out.lt; omega)) (ownFrom_keepsFrom hYs)))
              (OwnFrom.and (OwnFrom.and (Own.from (boxed_own _ _ _) _) (Own.from (boxed_own _ _ _) _)) (OwnFrom.and (ownFrom_below (by rw [HWS.out]; omega) (by have := HBK.out.lt; omega)) (ownFrom_keepsFrom hYs)))
              ⟨⟨⟨HBK.out, HNY.out⟩, HTY.out⟩, HBY.out, HKFY.out⟩ ?assign2 ?body2
              (fun W' => (Boxed W' (m1 + 1) 3 (.int .i64 n) ∧ Boxed W' bt 3 (.int .i64 0)) ∧ (Below (m1 + 1) Wb W' ∧ KeepsFrom 0 W W')) (fun _ h => ⟨⟨h.1.1.2, h.1.2⟩, h.2⟩) (fun _ _ _ h => h) (fun _ _ h => h) ?fin2
            case assign2 =>
              intro lp2 x W' K hK
              dsimp only [encs2]
              gi_wp2
              refine Eq.mp (congrArg (fun a => K a W') ?_) hK
              simp [fr, encs2]
              exact hlt
            case body2 =>
              rintro lp2 pre2 ⟨yi, yr⟩ W' hlp2 ⟨r2, hr2⟩ ⟨⟨⟨bK, bN2⟩, bT2⟩, hB2, hKF2⟩ hlt2
              have hK2 := HK.out.below hB2
              rw [HPL.out] at hlt2
              obtain ⟨m2, hm2⟩ : ∃ m2, ms[pre2.length]? = some m2 := ⟨_, List.getElem?_eq_getElem hlt2⟩
              obtain ⟨g2, hg2, hg12, c0, c2⟩ := hK2.cells pre2.length m2 hm2
              obtain rfl : g = g2 := by simpa using hg2
              have HX2 := hid (HPR.out pre2.length m2 hm2)
              obtain ⟨mq, hmq⟩ : ∃ mq, mq = m2.pl := ⟨_, rfl⟩
              obtain ⟨ms2, hms2⟩ : ∃ ms2, ms2 = m2.ru := ⟨_, rfl⟩
              rw [← hmq] at c0 HX2
              rw [← hms2] at c2 HX2
              clear hmq hms2 hm2 hg2
              obtain ⟨k, hk⟩ : ∃ k, k = pre2.length := ⟨_, rfl⟩
              rw [← hk] at hlt2 c0 c2 bK HX2
              have HK1 := hid hk
              clear hk
              have cK := bK.cell
              have fK := bK.frozen
              have cM := hK2.marks.cell
              have cS : (W'.setCell ⟨bk, 0, none⟩ (.int .i64 (k + 1))).cell? ⟨w.heap.size, 0, none⟩ = some (.int .i64 stop) := (hK2.stop.other (by omega) _).cell
              have cR := hK2.res.cell
              have fR := hK2.res.frozen
              have HBK2 := hid bK
              have HBN2 := hid bN2
              have HBT2 := hid bT2
              have HB2 := hid hB2
              have HKF2 := hid hKF2
              clear bK bN2 bT2 hB2 hKF2 hK2 hr2
              dsimp only [fr, encs2]
              by_cases e1 : mq = yi
              · by_cases e2 : ms2 = yr
                · subst e1 e2
                  by_cases hst : (k : Int) + 1 = stop
                  · have ts : ((k : Int) + 1 == stop) = true := beq_iff_eq.2 hst
                    clear hst
                    gi_wp2
                    refine ⟨(KeepsOthers.setCell _ _ _).from _, .inr ⟨rfl, ⟨HBN2.out.other (by omega) _, HBT2.out.other (by omega) _⟩, HB2.out.setCell (p := ⟨bk, 0, none⟩) (show m1 + 1 ≤ bk by omega) _, HKF2.out.trans ((KeepsOthers.setCell _ _ _).from _)⟩⟩
                  · have ts : ((k : Int) + 1 == stop) = false := beq_eq_false_iff_ne.2 hst
                    clear hst
                    gi_wp2
                    refine ⟨(KeepsOthers.setCell _ _ _).from _, keepsWalks_of ((KeepsOthers.setCell _ _ _).from _), ⟨⟨⟨by rw [List.length_append, ← HK1.out]; exact HBK2.out.set _, HBN2.out.other (by omega) _⟩, HBT2.out.other (by omega) _⟩, HB2.out.setCell (p := ⟨bk, 0, none⟩) (show m1 + 1 ≤ bk by omega) _, HKF2.out.trans ((KeepsOthers.setCell _ _ _).from _)⟩⟩
                · have t2 : (ms2 != yr) = true := bne_iff_ne.2 e2
                  gi_wp2
                  exact ⟨(KeepsOthers.setCell _ _ _).from _, .inl ⟨rfl, bad_next HK1.out HX2.out (fun h => e2 (Prod.mk.inj h).2)⟩⟩
              · have t1 : (mq != yi) = true := bne_iff_ne.2 e1
                gi_wp2
                exact ⟨(KeepsOthers.setCell _ _ _).from _, .inl ⟨rfl, bad_next HK1.out HX2.out (fun h => e1 (Prod.mk.inj h).1)⟩⟩
            case fin2 =>
              rintro W' ⟨⟨bN2, bT2⟩, hB2, hKF2⟩
              have hK2 := HK.out.below hB2
              have cN2 := bN2.cell
              have fN2 := bN2.frozen
              have cT : (W'.setCell ⟨m1 + 1, 0, none⟩ (.int .i64 (n + 1))).cell? ⟨bt, 0, none⟩ = some (.int .i64 0) := (bT2.other (by omega) _).cell
              have cS : (W'.setCell ⟨m1 + 1, 0, none⟩ (.int .i64 (n + 1))).cell? ⟨w.heap.size, 0, none⟩ = some (.int .i64 stop) := (hK2.stop.other (by omega) _).cell
              have HNF := hid (show KeepsFrom 0 W (W'.setCell ⟨m1 + 1, 0, none⟩ (.int .i64 (n + 1))) from hKF2.trans ((KeepsOthers.setCell _ _ _).from _))
              have HBF := hid (show Below (m1 + 1) Wb (W'.setCell ⟨m1 + 1, 0, none⟩ (.int .i64 (n + 1))) from hB2.setCell (p := ⟨m1 + 1, 0, none⟩) (by simp) _)
              have HBN2 := hid (bN2.set (.int .i64 (n + 1)))
              have HBT2 := hid (bT2.other (B' := m1 + 1) (by omega) (.int .i64 (n + 1)))
              clear bN2 bT2 hB2 hKF2 hK2
              by_cases hst : (n : Int) + 1 = stop
              · have ts : ((n : Int) + 1 == stop) = true := beq_iff_eq.2 hst
                clear hst
                gi_wp2
                exact ⟨keepsFrom_of _ HNF.out, .inr ⟨rfl, ⟨⟨_, HBN2.out⟩, HBT2.out⟩, HBF.out, HKF1.out.trans HNF.out⟩⟩
              · have ts : ((n : Int) + 1 == stop) = false := beq_eq_false_iff_ne.2 hst
                clear hst
                gi_wp2
                exact ⟨keepsFrom_of _ HNF.out, keepsWalks_of HNF.out, ⟨by rw [List.length_append, ← HN1.out]; exact HBN2.out, HBT2.out⟩, HBF.out, HKF1.out.trans HNF.out⟩
          · have t2 : (mr != xr) = true := bne_iff_ne.2 e2
            gi_wp2
            exact ⟨(KeepsOthers.setCell _ _ _).from _, .inl ⟨rfl, bad_next HN1.out HX.out (fun h => e2 (Prod.mk.inj h).2)⟩⟩
        · have t1 : (mp != xi) = true := bne_iff_ne.2 e1
          gi_wp2
          exact ⟨(KeepsOthers.setCell _ _ _).from _, .inl ⟨rfl, bad_next HN1.out HX.out (fun h => e1 (Prod.mk.inj h).1)⟩⟩
      case fin0 =>
        rintro D W hD ⟨⟨⟨q, bN⟩, bT⟩, hB, _⟩ hDK
        have cT := bT.cell
        have hWs : bt < W.heap.size := bT.lt
        have HBN := hid bN
        have HB2 := hid hB
        have HDK := hid hDK
        clear bN bT hB hDK HKX HBX HNX HBTX
        gi_wp2
        clear cT
        obtain ⟨V0, hV0⟩ : ∃ V0, V0 = W.alloc (.cells #[.int .i64 1] 3) := ⟨_, rfl⟩
        have HBT := hid (show Boxed V0 W.heap.size 3 (.int .i64 1) by rw [hV0]; exact Boxed.new _ _ _)
        have HN0 := hid (show Boxed V0 (m1 + 1) 3 (.int .i64 q) by rw [hV0]; exact HBN.out.alloc _)
        have HBW := hid (show Below (m1 + 1) Wb V0 by rw [hV0]; exact HB2.out.alloc (by omega) _)
        have HDV := hid (show V0.heap[D]? = some (.deferred (some [])) by rw [hV0]; exact (Below.heap_alloc W _ D (Array.getElem?_eq_some_iff.1 HDK.out).1).trans HDK.out)
        rw [← hV0]
        obtain ⟨bt1, hbt1⟩ : ∃ bt1, bt1 = W.heap.size := ⟨_, rfl⟩
        rw [← hbt1] at HBT hWs ⊢
        have hDne : m1 + 1 < D := by omega
        clear hV0 hbt1 HBN HB2 HDK hD hXs
        rw [roundsIn_succ]
        -- the turn number 1
        have HK1 := hid (HK.out.below HBW.out)
        have cT := HBT.out.cell
        have cN := HN0.out.cell
        have fN := HN0.out.frozen
        have cE : (V0.setCell ⟨m1 + 1, 0, none⟩ (.int .i64 0)).cell? ⟨w.heap.size + 1 + 1 + 1, 0, none⟩ = some (.func (.func 53) #[] #[.pointer (some ⟨w.heap.size + 1 + 1, 0, none⟩)]) := (HK1.out.fn.other (by omega) _).cell
        gi_wp2
        clear cT cN fN cE
        obtain ⟨X1, hX⟩ : ∃ X, X = V0.setCell ⟨m1 + 1, 0, none⟩ (.int .i64 0) := ⟨_, rfl⟩
        have HBTX := hid (show Boxed X1 bt1 3 (.int .i64 1) by rw [hX]; exact HBT.out.other (by omega) _)
        have HNX := hid (show Boxed X1 (m1 + 1) 3 (.int .i64 0) by rw [hX]; exact HN0.out.set _)
        have HBX := hid (show Below (m1 + 1) Wb X1 by rw [hX]; exact HBW.out.setCell (p := ⟨m1 + 1, 0, none⟩) (by simp) _)
        have hXs : bt1 < X1.heap.size := HBTX.out.lt
        have HKX := hid (HK.out.below HBX.out)
        rw [← hX]
        have HDX := hid (show X1.heap[D]? = some (.deferred (some [])) by rw [hX]; exact (Below.heap_setCell _ _ _ _ (show D ≠ m1 + 1 by omega)).trans HDV.out)
        clear hX HBT HN0 HBW HK1 HDV
        refine rf_H rfl (by omega) (gf := 53) (lb := #[.pointer (some ⟨w.heap.size + 1 + 1, 0, none⟩)]) rfl trivial (enters_of Tryd.func53 (by kernel_rfl) rfl)
          (each_stops Fence.wide _ trivial rfl (by omega) (w.heap.size + 1 + 1) l X1 (by omega) HKX.out.str.cell) (Below.refl _ _) rfl 4 11 12
          (fun pre W' => (Boxed W' (m1 + 1) 3 (.int .i64 pre.length) ∧ Boxed W' bt1 3 (.int .i64 1)) ∧ (Below (m1 + 1) Wb W' ∧ KeepsFrom 0 X1 W'))
          (fun _ _ => False)
          (OwnFrom.and (OwnFrom.and (Own.from (boxed_own _ _ (fun pre : List (Int × Int) => Value.int .i64 pre.length)) _) (Own.from (boxed_own _ _ _) _)) (OwnFrom.and (ownFrom_below (by rw [HWS.out]; omega) (by omega)) (ownFrom_keepsFrom (Nat.le_refl _))))
          (fun _ _ _ _ h _ _ => h)
          ⟨⟨HNX.out, HBTX.out⟩, HBX.out, KeepsFrom.refl _ _⟩ ?assign1 ?body1
          (fun W' => (Boxed W' (m1 + 1) 3 (.int .i64 (prs l).length) ∧ Boxed W' bt1 3 (.int .i64 1)) ∧ (Below (m1 + 1) Wb W' ∧ KeepsFrom 0 X1 W')) (fun _ h => h) (fun _ _ _ h => h.elim) (fun _ _ h => h) ?fin1
        case assign1 =>
          intro lp x W K hK
          dsimp only [encs2]
          gi_wp2
          simpa [fr, encs2] using hK
        case body1 =>
          rintro lp pre ⟨xi, xr⟩ W hlp ⟨r, hr⟩ ⟨⟨bN, bT⟩, hB, hKF⟩ hlt
          have hKw := HK.out.below hB
          rw [HPL.out] at hlt
          obtain ⟨m, hm⟩ : ∃ m, ms[pre.length]? = some m := ⟨_, List.getElem?_eq_getElem hlt⟩
          obtain ⟨g, rfl, hg1, c0, c2⟩ := hKw.cells pre.length m hm
          have HX := hid (HPR.out pre.length m hm)
          obtain ⟨mp, hmp⟩ : ∃ mp, mp = m.pl := ⟨_, rfl⟩
          obtain ⟨mr, hmr⟩ : ∃ mr, mr = m.ru := ⟨_, rfl⟩
          rw [← hmp] at c0 HX
          rw [← hmr] at c2 HX
          clear hmp hmr hm
          obtain ⟨n, hn⟩ : ∃ n, n = pre.length := ⟨_, rfl⟩
          rw [← hn] at hlt c0 c2 bN HX
          have HN1 := hid hn
          clear hn
          have cN := bN.cell
          have fN := bN.frozen
          have cM := hKw.marks.cell
          have cE : (W.alloc (.cells #[.int .i64 0] 3)).cell? ⟨w.heap.size + 1 + 1 + 1, 0, none⟩ = some (.func (.func 53) #[] #[.pointer (some ⟨w.heap.size + 1 + 1, 0, none⟩)]) := (hKw.fn.alloc _).cell
          have cR := hKw.res.cell
          have fR := hKw.res.frozen
          have HBN := hid bN
          have HBT1 := hid bT
          have HB1 := hid hB
          have HKF1 := hid hKF
          have HKW1 := hid hKw
          have HR := hid hr
          clear bN bT hB hKF hKw hr
          dsimp only [fr, encs2]
          by_cases e1 : mp = xi
          · by_cases e2 : mr = xr
            · subst e1 e2
              gi_wp2
              clear c0 c2 cN fN cM cE cR fR
              have hWs : bt1 < W.heap.size := HBT1.out.lt
              obtain ⟨Y, hY⟩ : ∃ Y, Y = W.alloc (.cells #[.int .i64 0] 3) := ⟨_, rfl⟩
              obtain ⟨bk, hbk⟩ : ∃ bk, bk = W.heap.size := ⟨_, rfl⟩
              have HBK := hid (show Boxed Y bk 3 (.int .i64 0) by rw [hY, hbk]; exact Boxed.new _ _ _)
              have HKFY := hid (show KeepsFrom 0 W Y by rw [hY]; exact (KeepsOthers.alloc _ _).from _)
              have HBY := hid (show Below (m1 + 1) Wb Y by rw [hY]; exact HB1.out.alloc (by omega) _)
              have HNY := hid (show Boxed Y (m1 + 1) 3 (.int .i64 n) by rw [hY]; exact HBN.out.alloc _)
              have HTY := hid (show Boxed Y bt1 3 (.int .i64 1) by rw [hY]; exact HBT1.out.alloc _)
              have hrY : Y.heap[lp]? = some (.loop r) := by rw [hY]; exact (Below.heap_alloc W _ lp (Array.getElem?_eq_some_iff.1 HR.out).1).trans HR.out
              have hYs : W.heap.size ≤ Y.heap.size := HKFY.out.size
              have HKY := hid (HK.out.below HBY.out)
              rw [← hY, ← hbk]
              rw [← hbk] at hWs
              clear hY hbk
              refine rf_N (l₀ := lp) (r₀ := r) rfl hrY (by omega) (gf := 53) (lb := #[.pointer (some ⟨w.heap.size + 1 + 1, 0, none⟩)]) rfl trivial (enters_of Tryd.func53 (by kernel_rfl) rfl)
                (stopsA_round lp (each_stops Fence.wide _ trivial rfl (by omega) (w.heap.size + 1 + 1) l Y (by have := HKY.out.str.lt; omega) HKY.out.str.cell)) (Below.refl _ _) rfl 6 14 15
                (fun pre' W' => ((Boxed W' bk 3 (.int .i64 pre'.length) ∧ Boxed W' (m1 + 1) 3 (.int .i64 n)) ∧ Boxed W' bt1 3 (.int .i64 1)) ∧ (Below (m1 + 1) Wb W' ∧ KeepsFrom 0 W W'))
                (fun _ W' => (Boxed W' (m1 + 1) 3 (.int .i64 n) ∧ Boxed W' bt1 3 (.int .i64 1)) ∧ (Below (m1 + 1) Wb W' ∧ KeepsFrom 0 W W'))
                (OwnFrom.and (OwnFrom.and (OwnFrom.and (Own.from (boxed_own _ _ (fun pre : List (Int × Int) => Value.int .i64 pre.length)) _) (Own.from (boxed_own _ _ _) _)) (Own.from (boxed_own _ _ _) _)) (OwnFrom.and (ownFrom_below (by rw [HWS.out]; omega) (by have := HBK.out.lt; omega)) (ownFrom_keepsFrom hYs)))
                (OwnFrom.and (OwnFrom.and (Own.from (boxed_own _ _ _) _) (Own.from (boxed_own _ _ _) _)) (OwnFrom.and (ownFrom_below (by rw [HWS.out]; omega) (by have := HBK.out.lt; omega)) (ownFrom_keepsFrom hYs)))
                ⟨⟨⟨HBK.out, HNY.out⟩, HTY.out⟩, HBY.out, HKFY.out⟩ ?assign2 ?body2
                (fun W' => (Boxed W' (m1 + 1) 3 (.int .i64 n) ∧ Boxed W' bt1 3 (.int .i64 1)) ∧ (Below (m1 + 1) Wb W' ∧ KeepsFrom 0 W W')) (fun _ h => ⟨⟨h.1.1.2, h.1.2⟩, h.2⟩) (fun _ _ _ h => h) (fun _ _ h => h) ?fin2
              case assign2 =>
                intro lp2 x W' K hK
                dsimp only [encs2]
                gi_wp2
                refine Eq.mp (congrArg (fun a => K a W') ?_) hK
                simp [fr, encs2]
                exact hlt
              case body2 =>
                rintro lp2 pre2 ⟨yi, yr⟩ W' hlp2 ⟨r2, hr2⟩ ⟨⟨⟨bK, bN2⟩, bT2⟩, hB2, hKF2⟩ hlt2
                have hK2 := HK.out.below hB2
                rw [HPL.out] at hlt2
                obtain ⟨m2, hm2⟩ : ∃ m2, ms[pre2.length]? = some m2 := ⟨_, List.getElem?_eq_getElem hlt2⟩
                obtain ⟨g2, hg2, hg12, c0, c2⟩ := hK2.cells pre2.length m2 hm2
                obtain rfl : g = g2 := by simpa using hg2
                have HX2 := hid (HPR.out pre2.length m2 hm2)
                obtain ⟨mq, hmq⟩ : ∃ mq, mq = m2.pl := ⟨_, rfl⟩
                obtain ⟨ms2, hms2⟩ : ∃ ms2, ms2 = m2.ru := ⟨_, rfl⟩
                rw [← hmq] at c0 HX2
                rw [← hms2] at c2 HX2
                clear hmq hms2 hm2 hg2
                obtain ⟨k, hk⟩ : ∃ k, k = pre2.length := ⟨_, rfl⟩
                rw [← hk] at hlt2 c0 c2 bK HX2
                have HK1 := hid hk
                clear hk
                have cK := bK.cell
                have fK := bK.frozen
                have cM := hK2.marks.cell
                have cS : (W'.setCell ⟨bk, 0, none⟩ (.int .i64 (k + 1))).cell? ⟨w.heap.size, 0, none⟩ = some (.int .i64 stop) := (hK2.stop.other (by omega) _).cell
                have cR := hK2.res.cell
                have fR := hK2.res.frozen
                have HBK2 := hid bK
                have HBN2 := hid bN2
                have HBT2 := hid bT2
                have HB2 := hid hB2
                have HKF2 := hid hKF2
                clear bK bN2 bT2 hB2 hKF2 hK2 hr2
                dsimp only [fr, encs2]
                by_cases e1 : mq = yi
                · by_cases e2 : ms2 = yr
                  · subst e1 e2
                    by_cases hst : (k : Int) + 1 = stop
                    · have ts : ((k : Int) + 1 == stop) = true := beq_iff_eq.2 hst
                      clear hst
                      gi_wp2
                      refine ⟨(KeepsOthers.setCell _ _ _).from _, .inr ⟨rfl, ⟨HBN2.out.other (by omega) _, HBT2.out.other (by omega) _⟩, HB2.out.setCell (p := ⟨bk, 0, none⟩) (show m1 + 1 ≤ bk by omega) _, HKF2.out.trans ((KeepsOthers.setCell _ _ _).from _)⟩⟩
                    · have ts : ((k : Int) + 1 == stop) = false := beq_eq_false_iff_ne.2 hst
                      clear hst
                      gi_wp2
                      refine ⟨(KeepsOthers.setCell _ _ _).from _, keepsWalks_of ((KeepsOthers.setCell _ _ _).from _), ⟨⟨⟨by rw [List.length_append, ← HK1.out]; exact HBK2.out.set _, HBN2.out.other (by omega) _⟩, HBT2.out.other (by omega) _⟩, HB2.out.setCell (p := ⟨bk, 0, none⟩) (show m1 + 1 ≤ bk by omega) _, HKF2.out.trans ((KeepsOthers.setCell _ _ _).from _)⟩⟩
                  · have t2 : (ms2 != yr) = true := bne_iff_ne.2 e2
                    gi_wp2
                    exact ⟨(KeepsOthers.setCell _ _ _).from _, .inl ⟨rfl, bad_next HK1.out HX2.out (fun h => e2 (Prod.mk.inj h).2)⟩⟩
                · have t1 : (mq != yi) = true := bne_iff_ne.2 e1
                  gi_wp2
                  exact ⟨(KeepsOthers.setCell _ _ _).from _, .inl ⟨rfl, bad_next HK1.out HX2.out (fun h => e1 (Prod.mk.inj h).1)⟩⟩
              case fin2 =>
                rintro W' ⟨⟨bN2, bT2⟩, hB2, hKF2⟩
                have hK2 := HK.out.below hB2
                have cN2 := bN2.cell
                have fN2 := bN2.frozen
                have cT : (W'.setCell ⟨m1 + 1, 0, none⟩ (.int .i64 (n + 1))).cell? ⟨bt1, 0, none⟩ = some (.int .i64 1) := (bT2.other (by omega) _).cell
                have cS : (W'.setCell ⟨m1 + 1, 0, none⟩ (.int .i64 (n + 1))).cell? ⟨w.heap.size, 0, none⟩ = some (.int .i64 stop) := (hK2.stop.other (by omega) _).cell
                have HNF := hid (show KeepsFrom 0 W (W'.setCell ⟨m1 + 1, 0, none⟩ (.int .i64 (n + 1))) from hKF2.trans ((KeepsOthers.setCell _ _ _).from _))
                have HBF := hid (show Below (m1 + 1) Wb (W'.setCell ⟨m1 + 1, 0, none⟩ (.int .i64 (n + 1))) from hB2.setCell (p := ⟨m1 + 1, 0, none⟩) (by simp) _)
                have HBN2 := hid (bN2.set (.int .i64 (n + 1)))
                have HBT2 := hid (bT2.other (B' := m1 + 1) (by omega) (.int .i64 (n + 1)))
                clear bN2 bT2 hB2 hKF2 hK2
                gi_wp2
                exact ⟨keepsFrom_of _ HNF.out, keepsWalks_of HNF.out, ⟨by rw [List.length_append, ← HN1.out]; exact HBN2.out, HBT2.out⟩, HBF.out, HKF1.out.trans HNF.out⟩
            · have t2 : (mr != xr) = true := bne_iff_ne.2 e2
              gi_wp2
              exact ⟨(KeepsOthers.setCell _ _ _).from _, .inl ⟨rfl, bad_next HN1.out HX.out (fun h => e2 (Prod.mk.inj h).2)⟩⟩
          · have t1 : (mp != xi) = true := bne_iff_ne.2 e1
            gi_wp2
            exact ⟨(KeepsOthers.setCell _ _ _).from _, .inl ⟨rfl, bad_next HN1.out HX.out (fun h => e1 (Prod.mk.inj h).1)⟩⟩
        case fin1 =>
          rintro D1 Z hD1 ⟨⟨bN, bT⟩, hB, hKF⟩ hDK1
          rw [HPL.out] at bN
          have hKz := HK.out.below hB
          have cT := bT.cell
          have cN := bN.cell
          have cM := hKz.marks.cell
          have hZs : bt1 < Z.heap.size := bT.lt
          have HDZ := hid (hKF.same D _ (Nat.zero_le _) HDX.out rfl)
          have hDlt : D < X1.heap.size := (Array.getElem?_eq_some_iff.1 HDX.out).1
          have HDZ1 := hid hDK1
          have HBZ := hid hB
          clear bN bT hB hKF hDK1 hKz HKX HBX HNX HBTX HDX
          gi_wp2
          clear cT cN cM
          obtain ⟨U, hU⟩ : ∃ U, U = Z.alloc (.cells #[.int .i64 2] 3) := ⟨_, rfl⟩
          have HBU := hid (show Below (m1 + 1) Wb U by rw [hU]; exact HBZ.out.alloc (by omega) _)
          have hDU : U.heap[D]? = some (.deferred (some [])) := by rw [hU]; exact (Below.heap_alloc Z _ D (Array.getElem?_eq_some_iff.1 HDZ.out).1).trans HDZ.out
          have hDU1 : U.heap[D1]? = some (.deferred (some [])) := by rw [hU]; exact (Below.heap_alloc Z _ D1 (Array.getElem?_eq_some_iff.1 HDZ1.out).1).trans HDZ1.out
          have cT : U.cell? ⟨Z.heap.size, 0, none⟩ = some (.int .i64 2) := by rw [hU]; exact (Boxed.new _ _ _).cell
          have HBU0 := hid (HB0.out.trans (HBU.out.mono (show w.heap.size ≤ m1 + 1 by omega)))
          have HTU := hid (tabs_below HT.out h2 HBU0.out)
          have hUs : 2 ≤ U.heap.size := by have := HBU0.out.size; omega
          have HDU := hid hDU
          have HDU1 := hid hDU1
          rw [← hU]
          clear hU hDU hDU1 HDZ HDZ1 HBZ
          rw [roundsIn_succ]
          gi_wp2_with (refine ⟨trivial, ?_⟩; gi_at_call 9; refine (callsIn_wide.2 (live_any _ (by exact HTU.out) (by exact hUs))).mono ?_; rintro e w9 ⟨rfl, hb9⟩; have hB9 := HBU.out.trans (hb9.mono (by have := HBU.out.size; rw [HWS.out] at this; exact this)); have cR := (HK.out.below hB9).res.cell; have fR := (HK.out.below hB9).res.frozen; have HB9 := hid hb9; have HBW9 := hid hB9; clear hb9 hB9)
          have hq1 : (w9.setCell ⟨w.heap.size + 1, 0, none⟩ (.bool true)).heap[D1]? = some (.deferred (some [])) := (Below.heap_setCell _ _ _ _ (show D1 ≠ w.heap.size + 1 by omega)).trans ((HB9.out.block D1 (Array.getElem?_eq_some_iff.1 HDU1.out).1).trans HDU1.out)
          have hq0 : (w9.setCell ⟨w.heap.size + 1, 0, none⟩ (.bool true)).heap[D]? = some (.deferred (some [])) := (Below.heap_setCell _ _ _ _ (show D ≠ w.heap.size + 1 by omega)).trans ((HB9.out.block D (Array.getElem?_eq_some_iff.1 HDU.out).1).trans HDU.out)
          have hq2 : ((w9.setCell ⟨w.heap.size + 1, 0, none⟩ (.bool true)).putObj D1 (.deferred none)).heap[D]? = some (.deferred (some [])) := (World.putObj_heap_other (by omega)).trans hq0
          have hc5 := ((((HK.out.below HBW9.out).res.set (.bool true)).kept (grownBy_putObj' _ D1 (.deferred none)) (fun e => by cases e; omega)).kept (grownBy_putObj' _ D (.deferred none)) (fun e => by cases e; omega)).cell
          have hbf : Below w.heap.size w (((w9.setCell ⟨w.heap.size + 1, 0, none⟩ (.bool true)).putObj D1 (.deferred none)).putObj D (.deferred none)) :=
            (((HBU0.out.trans (HB9.out.mono (by have := HBU0.out.size; omega))).setCell (p := ⟨w.heap.size + 1, 0, none⟩) (by simp) _).trans (belowK_b (w := w) (Nat.le_refl _) _ D1 _ _ (by omega) hq1 rfl rfl)).trans (belowK_b (w := w) (Nat.le_refl _) _ D _ _ (by omega) hq2 rfl rfl)
          refine ⟨by simp, .inl ⟨_, _, rfl, run_takeDeferred hq1, ⟨by simp, .inl ⟨_, _, rfl, run_takeDeferred hq2, ?_⟩⟩⟩⟩
          refine ⟨.bool true, ?_, rfl, hbf⟩
          simp [results, Tryd.f5, go_sem, hc5]
end Go.Proofs.YtflehkdijfhmgaaDoor
