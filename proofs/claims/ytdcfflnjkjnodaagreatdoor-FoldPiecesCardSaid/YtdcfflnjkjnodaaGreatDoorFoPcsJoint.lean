/- Count (package utf) answers some number that is small. -/
import Derived.Test.YtdcfflnjkjnodaaGreatDoorFoIn
import Derived.Test.YtdcfflnjkjnodaaGreatDoorEncM
import Derived.Test.YtdcfflnjkjnodaaGreatDoorPlVal
import Derived.Test.YtdcfflnjkjnodaaGreatDoorUBeg
import Derived.Test.YtdcfflnjkjnodaaGreatDoorFoLive
namespace Go.Proofs.YtdcfflnjkjnodaaGreatDoor
open Go.RowKit
namespace Fo
set_option maxHeartbeats 2000000 in
theorem rcnt_any (l : List UInt8) (w : World) (hl : l.length ≤ 1000000) : Calls Tryz.prog 29 #[.string ⟨l.toArray⟩] w fun e w' => (∃ n : Nat, n ≤ l.length ∧ e = .returned (.int .i64 n)) ∧ Below w.heap.size w w' := by
  have HSZ := hid (show (⟨l.toArray⟩ : ByteArray).size = l.length by show l.toArray.size = _; simp)
  have HB0 := hid ((Below.refl w.heap.size w).alloc (Nat.le_refl _) (.stringIter ⟨l.toArray⟩ 0))
  have HIT0 := hid (World.iter_heap w ⟨l.toArray⟩ 0)
  go_enter Tryz.func29, Tryz.ntmps29
  go_wp2
  go_loopw [2] (fun v wr => ∃ t n : Nat, v = .int .i64 n ∧ n ≤ t ∧ t ≤ l.length ∧ Hid (wr.heap[w.heap.size]? = some (.stringIter ⟨l.toArray⟩ t)) ∧ Hid (Below w.heap.size w wr)) (fun _ wr => l.length - wr.iterPos w.heap.size)
  case atStart => exact ⟨0, 0, rfl, Nat.le_refl _, Nat.zero_le _, HIT0, HB0⟩
  case round =>
    obtain ⟨t, n, rfl, hn, ht, HI, HB⟩ := hrel
    have hin : w.heap.size < wr.heap.size := (Array.getElem?_eq_some_iff.1 HI.out).1
    by_cases hlt : t < l.length
    · have hnx := run_next_at (P := Tryz.prog) wr w.heap.size ⟨l.toArray⟩ t 0 HI.out (by rw [HSZ.out]; exact hlt)
      rw [decode_place l t hlt] at hnx
      have d1 := dec_ge _ (drop_ne l t hlt)
      have d3 := dec_le _ (drop_ne l t hlt)
      obtain ⟨nn, hnn⟩ : ∃ nn, nn = (dec (l.drop t)).2 := ⟨_, rfl⟩
      obtain ⟨rr, hrr⟩ : ∃ rr, rr = (dec (l.drop t)).1 := ⟨_, rfl⟩
      rw [← hnn] at hnx d1 d3
      rw [← hrr] at hnx
      have d4 : t + nn ≤ l.length := by simp at d3; omega
      obtain ⟨w1, hw1⟩ : ∃ w1, w1 = wr.putObj w.heap.size (.stringIter ⟨l.toArray⟩ (t + nn)) := ⟨_, rfl⟩
      rw [← hw1] at hnx
      have HI1 := hid (show w1.heap[w.heap.size]? = some (.stringIter ⟨l.toArray⟩ (t + nn)) by rw [hw1]; exact World.putObj_heap_same hin)
      have HB1 := hid (show Below w.heap.size w w1 by rw [hw1]; exact HB.out.trans ⟨rfl, rfl, rfl, by simp [World.putObj], fun j hj => World.putObj_heap_other (by omega)⟩)
      have HM := hid (show l.length - wr.iterPos w.heap.size = l.length - t by unfold World.iterPos; rw [HI.out])
      clear hnn hrr hw1 HI HB d3
      go_wp2
      go_roundw
      case rel => exact ⟨t + nn, n + 1, by go_num, by omega, d4, HI1, HB1⟩
      case measure =>
        rw [HM.out]
        unfold World.iterPos
        rw [HI1.out]
        show l.length - (t + nn) < l.length - t
        omega
    · have hnx := run_next_stop (P := Tryz.prog) wr w.heap.size ⟨l.toArray⟩ t 0 HI.out (by rw [HSZ.out]; exact hlt)
      clear hlt
      go_wp2
      go_ret
      exact ⟨⟨n, by omega, rfl⟩, HB.out⟩
theorem cnt_any (l : List UInt8) (w : World) (hl : l.length ≤ 1000000) : Calls Tryz.prog 13 #[.string ⟨l.toArray⟩] w fun e w' => (∃ n : Nat, n ≤ l.length ∧ e = .returned (.int .i64 n)) ∧ Below w.heap.size w w' := by
  go_enter Tryz.func13, Tryz.ntmps13
  go_wp2_with fail
  refine (rcnt_any l w hl).mono ?_
  rintro e w1 ⟨⟨n, hn, rfl⟩, be⟩
  have HB := hid be
  clear be
  go_wp2
  go_ret
  exact ⟨⟨n, hn, rfl⟩, HB.out⟩
end Fo
end Go.Proofs.YtdcfflnjkjnodaaGreatDoor
/- Texts in forms, rune by rune: put together at an edge. -/
namespace Go.Proofs.YtdcfflnjkjnodaaGreatDoor
open Go.RowKit
namespace Fo
theorem rpl_dec (l : List UInt8) (h : l.take 3 = rpl) : dec l = (65533, 3) := by
  match l, h with
  | a :: b :: c :: t, h =>
    have h' : [a, b, c] = rpl := h
    unfold rpl at h'
    simp only [List.cons.injEq, and_true] at h'
    obtain ⟨rfl, rfl, rfl⟩ := h'
    rw [dec_numbers _ (by simp)]
    simp [Lib.decodeN]
  | [a, b], h => cases h
  | [a], h => cases h
  | [], h => cases h
theorem rpl_is (l : List UInt8) (h : l ≠ []) (h1 : (dec l).1 = 65533) : (l.take 3 == rpl) = !decide ((dec l).2 = 1) := by
  by_cases e : l.take 3 = rpl
  · rw [rpl_dec l e, e]; rfl
  · rw [beq_eq_false_iff_ne.2 e]
    by_cases e2 : (dec l).2 = 1
    · simp [e2]
    · exfalso
      have h3 := enc_dec l h (fun h => e2 h.2)
      rw [h1] at h3
      have h4 : enc ((65533 : Nat) : Int) = rpl := by
        rw [enc_rune 65533 (by rw [isR_iff]; omega)]; rfl
      rw [h4] at h3
      have h5 := congrArg List.length h3
      have h6 := dec_le l h
      simp only [List.length_take, rpl, List.length_cons, List.length_nil] at h5
      have h7 : (dec l).2 = 3 := by omega
      rw [h7] at h3
      exact e h3.symm
/-- A rune's form by its mark. -/
def fbm (l : List UInt8) (k : Nat) (m : Mk) : List UInt8 := match spF m.ru with
  | some x => ens (pk x k)
  | none => if m.bad = true then [l.getD m.pl.toNat 0] else Lib.encodeRune (if k = 0 ∨ k = 3 then (ofR m.ru).1 else (ofR m.ru).2)
theorem fbs_fbm (l : List UInt8) (k t : Nat) (h : t < l.length) : fbs (l.drop t) ((dec (l.drop t)).1 : Int) k = fbm l k (mk1 t (l.drop t)) := by
  unfold fbs fbm
  show (match spF ((dec (l.drop t)).1 : Int) with
    | some x => ens (pk x k)
    | none => arn (l.drop t) ((dec (l.drop t)).1 : Int) (if k = 0 ∨ k = 3 then (ofR ((dec (l.drop t)).1 : Int)).1 else (ofR ((dec (l.drop t)).1 : Int)).2)) = (match spF ((dec (l.drop t)).1 : Int) with
    | some x => ens (pk x k)
    | none => if (decide ((dec (l.drop t)).2 = 1) && decide ((dec (l.drop t)).1 = 65533)) = true then [l.getD ((t : Int)).toNat 0] else Lib.encodeRune (if k = 0 ∨ k = 3 then (ofR ((dec (l.drop t)).1 : Int)).1 else (ofR ((dec (l.drop t)).1 : Int)).2))
  cases spF ((dec (l.drop t)).1 : Int) with
  | some x => rfl
  | none =>
    generalize (if k = 0 ∨ k = 3 then (ofR ((dec (l.drop t)).1 : Int)).1 else (ofR ((dec (l.drop t)).1 : Int)).2) = z
    show arn (l.drop t) ((dec (l.drop t)).1 : Int) z = (if (decide ((dec (l.drop t)).2 = 1) && decide ((dec (l.drop t)).1 = 65533)) = true then [l.getD ((t : Int)).toNat 0] else Lib.encodeRune z)
    unfold arn
    by_cases e : (dec (l.drop t)).1 = 65533
    · have h1 := rpl_is (l.drop t) (drop_ne l t h) e
      rw [h1]
      by_cases e2 : (dec (l.drop t)).2 = 1
      · rw [if_pos ⟨by rw [e]; rfl, by simp [e2]⟩, if_pos (by simp [e, e2])]
        rw [get_drop]; simp
      · rw [if_neg (by simp [e2]), if_neg (by simp [e2])]
    · rw [if_neg (fun hh => e (by have := hh.1; omega)), if_neg (by simp [e])]
theorem wrt_mks (l : List UInt8) (k : Nat) : ∀ (n t : Nat), l.length - t ≤ n → wrt k (l.drop t) = (mks t (l.drop t)).flatMap (fbm l k)
  | 0, t, hn => by
    have h : ¬ t < l.length := by omega
    rw [mks_end l t h, List.drop_of_length_le (by omega)]; rfl
  | n + 1, t, hn => by
    by_cases h : t < l.length
    · have h1 := wid_ge l t h
      rw [mks_at l t h, List.flatMap_cons, wrt_step k l t h, fbs_fbm l k t h]
      show _ ++ wrt k (l.drop (t + wid l t)) = _
      rw [wrt_mks l k n (t + wid l t) (by omega)]
    · rw [mks_end l t h, List.drop_of_length_le (by omega)]; rfl
theorem wrt_is (l : List UInt8) (k : Nat) : wrt k l = (mks 0 l).flatMap (fbm l k) := wrt_mks l k l.length 0 (by omega)
theorem flatMap_congr' {α β : Type} {f g : α → List β} : ∀ {l : List α}, (∀ x ∈ l, f x = g x) → l.flatMap f = l.flatMap g
  | [], _ => rfl
  | x :: l, h => by
    rw [List.flatMap_cons, List.flatMap_cons, h x (List.mem_cons_self ..), flatMap_congr' fun y hy => h y (List.mem_cons_of_mem _ hy)]
theorem flatMap_map' {α β γ : Type} (f : β → List γ) (g : α → β) : ∀ (l : List α), (l.map g).flatMap f = l.flatMap fun x => f (g x)
  | [] => rfl
  | x :: l => by rw [List.map_cons, List.flatMap_cons, List.flatMap_cons, flatMap_map' f g l]
/-- Put together where the second begins at an edge. -/
theorem wrt_app (s t : List UInt8) (k : Nat) (h : isE (s ++ t) (s.length : Int) = true) : wrt k (s ++ t) = wrt k s ++ wrt k t := by
  have h1 := cut_mks (s ++ t) s.length h
  rw [List.take_left, List.drop_left] at h1
  rw [wrt_is, wrt_is s, wrt_is t, h1, List.flatMap_append, flatMap_map']
  congr 1
  · refine flatMap_congr' fun m hm => ?_
    have hp := pl_ge s m hm
    unfold fbm
    cases spF m.ru with
    | some x => rfl
    | none =>
      show (if m.bad = true then [(s ++ t).getD m.pl.toNat 0] else _) = (if m.bad = true then [s.getD m.pl.toNat 0] else _)
      have : (s ++ t).getD m.pl.toNat 0 = s.getD m.pl.toNat 0 := by
        simp only [List.getD]
        rw [List.getElem?_append_left (by omega)]
      rw [this]
  · refine flatMap_congr' fun m hm => ?_
    have hp := pl_ge t m hm
    unfold fbm Mk.on
    show (match spF m.ru with
      | some x => _
      | none => if m.bad = true then [(s ++ t).getD (m.pl + (s.length : Int)).toNat 0] else _) = _
    cases spF m.ru with
    | some x => rfl
    | none =>
      show (if m.bad = true then [(s ++ t).getD (m.pl + (s.length : Int)).toNat 0] else _) = (if m.bad = true then [t.getD m.pl.toNat 0] else _)
      have : (s ++ t).getD (m.pl + (s.length : Int)).toNat 0 = t.getD m.pl.toNat 0 := by
        simp only [List.getD]
        rw [List.getElem?_append_right (by omega)]
        congr 2
        omega
      rw [this]
/-- A valid text begins with a rune's start. -/
theorem valid_start (u : List UInt8) (h : flt u = []) : u = [] ∨ Lib.runeStart (byt u 0) = true := by
  by_cases hu : u = []
  · exact .inl hu
  · right
    cases hr : Lib.runeStart (byt u 0) with
    | true => rfl
    | false =>
      exfalso
      have hb : byt u 0 / 64 = 2 := by simpa [Lib.runeStart] using hr
      have hd : dec u = (65533, 1) := by
        rw [dec_numbers u hu]
        unfold byt at hb
        unfold Lib.decodeN
        rw [if_neg (by omega), if_neg (by omega), if_neg (by omega), if_neg (by omega)]
      unfold flt at h
      rw [mks_cons 0 u hu] at h
      have : (mk1 0 u).bad = true := by simp [mk1, hd]
      rw [List.filter_cons_of_pos this] at h
      cases h
theorem end_edge (s : List UInt8) : isE (s ++ []) (s.length : Int) = true := by
  unfold isE
  by_cases e : (s.length : Int) ≤ 0
  · rw [if_pos e]; have : (s.length : Int) = 0 := by omega
    simp [this]
  · rw [if_neg e, if_pos (by simp)]; simp
theorem start_edge (s t : List UInt8) (h : t = [] ∨ Lib.runeStart (byt t 0) = true) : isE (s ++ t) (s.length : Int) = true := by
  rcases h with rfl | h
  · exact end_edge s
  · by_cases ht : t = []
    · subst ht
      exact end_edge s
    · have htl : 0 < t.length := List.length_pos_iff.2 ht
      unfold isE
      by_cases e : (s.length : Int) ≤ 0
      · rw [if_pos e]; have : (s.length : Int) = 0 := by omega
        simp [this]
      · rw [if_neg e, if_neg (by simp; omega)]
        have h0 : Lib.runeStart (byt (s ++ t) s.length) = true := by
          rw [← h]; congr 1
          simp only [byt, List.getD]
          rw [List.getElem?_append_right (Nat.le_refl _), Nat.sub_self]
        have hne : (s ++ t).drop s.length ≠ [] := by rw [List.drop_left]; exact ht
        have h1 := bgF_in (s ++ t) s.length 3 s.length (by omega) h0 (by have := dec_ge _ hne; omega)
        simp only [Int.toNat_natCast]
        rw [h1]
        simp
theorem valid_app (s t : List UInt8) (k : Nat) (h : flt t = []) : wrt k (s ++ t) = wrt k s ++ wrt k t := wrt_app s t k (start_edge s t (valid_start t h))
end Fo
end Go.Proofs.YtdcfflnjkjnodaaGreatDoor
/- FoldPieces' walk. -/
namespace Go.Proofs.YtdcfflnjkjnodaaGreatDoor
open Go.RowKit Ev
namespace Fo
theorem utabs {w : World} (h : Tbs tabs w) : Lib.Utf8Tabs 0 1 w ∧ 2 ≤ w.heap.size := by
  obtain ⟨c, h1, h2⟩ := h ⟨0, 79, 1, firstL⟩ (by simp [tabs])
  obtain ⟨d, h3, h4⟩ := h ⟨1, 82, 2, acceptL⟩ (by simp [tabs])
  simp only at h1 h2 h3 h4
  have hc : ∀ j, w.cell? ⟨0, j, none⟩ = firstL[j]? := fun j => by
    rw [← h2]; simp [World.cell?, h1]
  have hd : ∀ j, w.cell? ⟨1, j, none⟩ = acceptL[j]? := fun j => by
    rw [← h4]; simp [World.cell?, h3]
  refine ⟨⟨fun c hc' => ?_, fun i hi => ⟨?_, ?_⟩⟩, ?_⟩
  · rw [hc]; simp [firstL, hc']
  · rw [hd]
    have e1 : 2 * i < 32 := by omega
    have e2 : 2 * i % 2 = 0 := by omega
    have e3 : 2 * i / 2 = i := by omega
    simp [acceptL, e1, e2, e3]
  · rw [hd]
    have e1 : 2 * i + 1 < 32 := by omega
    have e2 : (2 * i + 1) % 2 = 1 := by omega
    have e3 : (2 * i + 1) / 2 = i := by omega
    simp [acceptL, e1, e2, e3]
  · have := (Array.getElem?_eq_some_iff.1 h3).1; omega
theorem wrtF_len (k : Nat) : ∀ (n : Nat) (l : List UInt8), (wrtF k n l).length ≤ 12 * l.length
  | 0, l => by simp [wrtF]
  | n + 1, l => by
    unfold wrtF
    by_cases h : l = []
    · simp [h]
    · rw [if_neg h, List.length_append]
      have h1 := dec_ge l h
      have h2 := dec_le l h
      have h3 := fbs_len l ((dec l).1 : Int) k
      have h4 := wrtF_len k n (l.drop (dec l).2)
      rw [List.length_drop] at h4
      omega
theorem wrt_len (k : Nat) (l : List UInt8) : (wrt k l).length ≤ 12 * l.length := wrtF_len k _ l
theorem cat_eq (s t : List UInt8) : (⟨s.toArray⟩ : ByteArray) ++ ⟨t.toArray⟩ = ⟨(s ++ t).toArray⟩ := by
  apply ByteArray.ext
  simp
set_option maxHeartbeats 8000000 in
set_option maxRecDepth 100000 in
theorem pieces_main (s t u : List UInt8) (w : World) (hw : Tbs tabs w) (hs : s.length ≤ 1000000000000000) (ht : t.length ≤ 1000000000000000) (hu : u.length ≤ 1000000000000000) : Calls Tryz.prog 4 #[.string ⟨s.toArray⟩, .string ⟨t.toArray⟩, .string ⟨u.toArray⟩] w fun e w' => e = .returned (.bool true) ∧ Below w.heap.size w w' := by
  have HW := hid hw
  clear hw
  by_cases h80 : s.length + t.length + u.length ≤ 80
  · have i1 : ¬ (80 : Int) < (s.length : Int) + (t.length : Int) + (u.length : Int) := by omega
    go_enter Tryz.func4, Tryz.ntmps4
    go_wp2_with fail
    rw [cat_eq]
    refine (is_any (s ++ t) (s.length : Int) w (by simp; omega) (utabs HW.out).1 (utabs HW.out).2).mono ?_
    rintro e w1 ⟨rfl, be⟩
    have HB1 := hid be
    have HW1 := hid (tbs_below HW.out be)
    clear be
    obtain ⟨c, hc⟩ : ∃ c, c = isE (s ++ t) (s.length : Int) := ⟨_, rfl⟩
    rw [← hc]
    cases c with
    | false =>
      clear hc
      go_wp2_with fail
      refine (valid_any s w1 (by omega) (utabs HW1.out).1).mono ?_
      rintro e w2 ⟨rfl, be⟩
      have HB2 := hid (HB1.out.trans (be.mono HB1.out.size))
      have HW2 := hid (tbs_below HW1.out be)
      clear be HB1 HW1
      by_cases v1 : flt s = []
      · rw [decide_eq_true v1]
        have Hv1 := hid v1
        clear v1
        go_wp2_with fail
        refine (valid_any t w2 (by omega) (utabs HW2.out).1).mono ?_
        rintro e w3 ⟨rfl, be⟩
        have HB3 := hid (HB2.out.trans (be.mono HB2.out.size))
        have HW3 := hid (tbs_below HW2.out be)
        clear be HB2 HW2
        by_cases v2 : flt t = []
        · rw [decide_eq_true v2]
          have Hv2 := hid v2
          clear v2
          go_wp2_with fail
          refine (valid_any u w3 (by omega) (utabs HW3.out).1).mono ?_
          rintro e w4 ⟨rfl, be⟩
          have HB4 := hid (HB3.out.trans (be.mono HB3.out.size))
          have HW4 := hid (tbs_below HW3.out be)
          clear be HB3 HW3
          by_cases v3 : flt u = []
          · rw [decide_eq_true v3]
            have Hv3 := hid v3
            clear v3
            go_wp2_with fail
            refine (equal_any s t w4 HW4.out (by omega) (by omega)).mono ?_
            rintro e w5 ⟨rfl, be⟩
            have HB5 := hid (HB4.out.trans (be.mono HB4.out.size))
            have HW5 := hid (tbs_below HW4.out be)
            clear be HB4 HW4
            obtain ⟨c4, hc4⟩ : ∃ c4, c4 = (wrt 3 s == wrt 3 t) := ⟨_, rfl⟩
            rw [← hc4]
            cases c4 with
            | false =>
              clear hc4
              go_wp2_with fail
              refine (equal_any s s w5 HW5.out (by omega) (by omega)).mono ?_
              rintro e w6 ⟨rfl, be⟩
              have HB6 := hid (HB5.out.trans (be.mono HB5.out.size))
              have HW6 := hid (tbs_below HW5.out be)
              clear be HB5 HW5
              rw [beq_self_eq_true]
              go_wp2_with fail
              refine (live_any w6 HW6.out).mono ?_
              rintro e w7 ⟨rfl, be⟩
              have HB7 := hid (HB6.out.trans (be.mono HB6.out.size))
              have HW7 := hid (tbs_below HW6.out be)
              clear be HB6 HW6
              go_wp2
              go_ret
              exact ⟨rfl, HB7.out⟩
            | true =>
              have hst : wrt 3 s = wrt 3 t := by simpa using hc4.symm
              have HE1 := hid (show (wrt 3 (s ++ u) == wrt 3 (t ++ u)) = true by rw [valid_app s u 3 Hv3.out, valid_app t u 3 Hv3.out, hst]; simp)
              have HE2 := hid (show (wrt 3 (u ++ s) == wrt 3 (u ++ t)) = true by rw [valid_app u s 3 Hv1.out, valid_app u t 3 Hv2.out, hst]; simp)
              have HE3 := hid (show (wrt 3 t == wrt 3 s) = true by rw [hst]; simp)
              clear hst hc4
              go_wp2_with fail
              rw [cat_eq, cat_eq]
              refine (equal_any (s ++ u) (t ++ u) w5 HW5.out (by simp; omega) (by simp; omega)).mono ?_
              rintro e w6 ⟨rfl, be⟩
              have HB6 := hid (HB5.out.trans (be.mono HB5.out.size))
              have HW6 := hid (tbs_below HW5.out be)
              clear be HB5 HW5
              rw [HE1.out]
              go_wp2_with fail
              rw [cat_eq, cat_eq]
              refine (equal_any (u ++ s) (u ++ t) w6 HW6.out (by simp; omega) (by simp; omega)).mono ?_
              rintro e w7 ⟨rfl, be⟩
              have HB7 := hid (HB6.out.trans (be.mono HB6.out.size))
              have HW7 := hid (tbs_below HW6.out be)
              clear be HB6 HW6
              rw [HE2.out]
              go_wp2_with fail
              refine (equal_any t s w7 HW7.out (by omega) (by omega)).mono ?_
              rintro e w8 ⟨rfl, be⟩
              have HB8 := hid (HB7.out.trans (be.mono HB7.out.size))
              have HW8 := hid (tbs_below HW7.out be)
              clear be HB7 HW7
              rw [HE3.out]
              go_wp2_with fail
              refine (equal_any s s w8 HW8.out (by omega) (by omega)).mono ?_
              rintro e w9 ⟨rfl, be⟩
              have HB9 := hid (HB8.out.trans (be.mono HB8.out.size))
              have HW9 := hid (tbs_below HW8.out be)
              clear be HB8 HW8
              rw [beq_self_eq_true]
              go_wp2_with fail
              refine (live_any w9 HW9.out).mono ?_
              rintro e w10 ⟨rfl, be⟩
              have HB10 := hid (HB9.out.trans (be.mono HB9.out.size))
              have HW10 := hid (tbs_below HW9.out be)
              clear be HB9 HW9
              go_wp2
              go_ret
              exact ⟨rfl, HB10.out⟩
          · rw [decide_eq_false v3]
            clear v3
            go_wp2_with fail
            refine (equal_any s s w4 HW4.out (by omega) (by omega)).mono ?_
            rintro e w5 ⟨rfl, be⟩
            have HB5 := hid (HB4.out.trans (be.mono HB4.out.size))
            have HW5 := hid (tbs_below HW4.out be)
            clear be HB4 HW4
            rw [beq_self_eq_true]
            go_wp2_with fail
            refine (live_any w5 HW5.out).mono ?_
            rintro e w6 ⟨rfl, be⟩
            have HB6 := hid (HB5.out.trans (be.mono HB5.out.size))
            have HW6 := hid (tbs_below HW5.out be)
            clear be HB5 HW5
            go_wp2
            go_ret
            exact ⟨rfl, HB6.out⟩
        · rw [decide_eq_false v2]
          clear v2
          go_wp2_with fail
          refine (equal_any s s w3 HW3.out (by omega) (by omega)).mono ?_
          rintro e w4 ⟨rfl, be⟩
          have HB4 := hid (HB3.out.trans (be.mono HB3.out.size))
          have HW4 := hid (tbs_below HW3.out be)
          clear be HB3 HW3
          rw [beq_self_eq_true]
          go_wp2_with fail
          refine (live_any w4 HW4.out).mono ?_
          rintro e w5 ⟨rfl, be⟩
          have HB5 := hid (HB4.out.trans (be.mono HB4.out.size))
          have HW5 := hid (tbs_below HW4.out be)
          clear be HB4 HW4
          go_wp2
          go_ret
          exact ⟨rfl, HB5.out⟩
      · rw [decide_eq_false v1]
        clear v1
        go_wp2_with fail
        refine (equal_any s s w2 HW2.out (by omega) (by omega)).mono ?_
        rintro e w3 ⟨rfl, be⟩
        have HB3 := hid (HB2.out.trans (be.mono HB2.out.size))
        have HW3 := hid (tbs_below HW2.out be)
        clear be HB2 HW2
        rw [beq_self_eq_true]
        go_wp2_with fail
        refine (live_any w3 HW3.out).mono ?_
        rintro e w4 ⟨rfl, be⟩
        have HB4 := hid (HB3.out.trans (be.mono HB3.out.size))
        have HW4 := hid (tbs_below HW3.out be)
        clear be HB3 HW3
        go_wp2
        go_ret
        exact ⟨rfl, HB4.out⟩
    | true =>
      have HA3 := hid (wrt_app s t 3 hc.symm)
      have HA1 := hid (wrt_app s t 1 hc.symm)
      have l1 := wrt_len 3 s
      have l2 := wrt_len 3 t
      have l3 := wrt_len 1 s
      have l4 := wrt_len 1 t
      clear hc
      go_wp2_with fail
      rw [cat_eq]
      refine (cnt_any (s ++ t) w1 (by simp; omega)).mono ?_
      rintro e w2 ⟨⟨n1, hn1, rfl⟩, be⟩
      have HB2 := hid (HB1.out.trans (be.mono HB1.out.size))
      have HW2 := hid (tbs_below HW1.out be)
      clear be HB1 HW1
      rw [List.length_append] at hn1
      go_wp2_with fail
      refine (cnt_any s w2 (by omega)).mono ?_
      rintro e w3 ⟨⟨n2, hn2, rfl⟩, be⟩
      have HB3 := hid (HB2.out.trans (be.mono HB2.out.size))
      have HW3 := hid (tbs_below HW2.out be)
      clear be HB2 HW2
      go_wp2_with fail
      refine (cnt_any t w3 (by omega)).mono ?_
      rintro e w4 ⟨⟨n3, hn3, rfl⟩, be⟩
      have HB4 := hid (HB3.out.trans (be.mono HB3.out.size))
      have HW4 := hid (tbs_below HW3.out be)
      clear be HB3 HW3
      by_cases hc : n1 = n2 + n3
      · subst hc
        go_wp2_with fail
        rw [cat_eq]
        refine (fold_any (s ++ t) w4 HW4.out (by simp; omega)).mono ?_
        rintro e w5 ⟨rfl, be⟩
        have HB5 := hid (HB4.out.trans (be.mono HB4.out.size))
        have HW5 := hid (tbs_below HW4.out be)
        clear be HB4 HW4
        rw [HA3.out, ← cat_eq]
        go_wp2_with fail
        refine (fold_any s w5 HW5.out (by omega)).mono ?_
        rintro e w6 ⟨rfl, be⟩
        have HB6 := hid (HB5.out.trans (be.mono HB5.out.size))
        have HW6 := hid (tbs_below HW5.out be)
        clear be HB5 HW5
        go_wp2_with fail
        refine (fold_any t w6 HW6.out (by omega)).mono ?_
        rintro e w7 ⟨rfl, be⟩
        have HB7 := hid (HB6.out.trans (be.mono HB6.out.size))
        have HW7 := hid (tbs_below HW6.out be)
        clear be HB6 HW6
        go_wp2_with fail
        rw [cat_eq s t]
        refine (great_any (s ++ t) w7 HW7.out (by simp; omega)).mono ?_
        rintro e w8 ⟨rfl, be⟩
        have HB8 := hid (HB7.out.trans (be.mono HB7.out.size))
        have HW8 := hid (tbs_below HW7.out be)
        clear be HB7 HW7
        rw [HA1.out, ← cat_eq]
        go_wp2_with fail
        refine (great_any s w8 HW8.out (by omega)).mono ?_
        rintro e w9 ⟨rfl, be⟩
        have HB9 := hid (HB8.out.trans (be.mono HB8.out.size))
        have HW9 := hid (tbs_below HW8.out be)
        clear be HB8 HW8
        go_wp2_with fail
        refine (great_any t w9 HW9.out (by omega)).mono ?_
        rintro e w10 ⟨rfl, be⟩
        have HB10 := hid (HB9.out.trans (be.mono HB9.out.size))
        have HW10 := hid (tbs_below HW9.out be)
        clear be HB9 HW9
        go_wp2_with fail
        refine (valid_any s w10 (by omega) (utabs HW10.out).1).mono ?_
        rintro e w11 ⟨rfl, be⟩
        have HB11 := hid (HB10.out.trans (be.mono HB10.out.size))
        have HW11 := hid (tbs_below HW10.out be)
        clear be HB10 HW10
        by_cases v1 : flt s = []
        · rw [decide_eq_true v1]
          have Hv1 := hid v1
          clear v1
          go_wp2_with fail
          refine (valid_any t w11 (by omega) (utabs HW11.out).1).mono ?_
          rintro e w12 ⟨rfl, be⟩
          have HB12 := hid (HB11.out.trans (be.mono HB11.out.size))
          have HW12 := hid (tbs_below HW11.out be)
          clear be HB11 HW11
          by_cases v2 : flt t = []
          · rw [decide_eq_true v2]
            have Hv2 := hid v2
            clear v2
            go_wp2_with fail
            refine (valid_any u w12 (by omega) (utabs HW12.out).1).mono ?_
            rintro e w13 ⟨rfl, be⟩
            have HB13 := hid (HB12.out.trans (be.mono HB12.out.size))
            have HW13 := hid (tbs_below HW12.out be)
            clear be HB12 HW12
            by_cases v3 : flt u = []
            · rw [decide_eq_true v3]
              have Hv3 := hid v3
              clear v3
              go_wp2_with fail
              refine (equal_any s t w13 HW13.out (by omega) (by omega)).mono ?_
              rintro e w14 ⟨rfl, be⟩
              have HB14 := hid (HB13.out.trans (be.mono HB13.out.size))
              have HW14 := hid (tbs_below HW13.out be)
              clear be HB13 HW13
              obtain ⟨c4, hc4⟩ : ∃ c4, c4 = (wrt 3 s == wrt 3 t) := ⟨_, rfl⟩
              rw [← hc4]
              cases c4 with
              | false =>
                clear hc4
                go_wp2_with fail
                refine (equal_any s s w14 HW14.out (by omega) (by omega)).mono ?_
                rintro e w15 ⟨rfl, be⟩
                have HB15 := hid (HB14.out.trans (be.mono HB14.out.size))
                have HW15 := hid (tbs_below HW14.out be)
                clear be HB14 HW14
                rw [beq_self_eq_true]
                go_wp2_with fail
                refine (live_any w15 HW15.out).mono ?_
                rintro e w16 ⟨rfl, be⟩
                have HB16 := hid (HB15.out.trans (be.mono HB15.out.size))
                have HW16 := hid (tbs_below HW15.out be)
                clear be HB15 HW15
                go_wp2
                go_ret
                exact ⟨rfl, HB16.out⟩
              | true =>
                have hst : wrt 3 s = wrt 3 t := by simpa using hc4.symm
                have HE1 := hid (show (wrt 3 (s ++ u) == wrt 3 (t ++ u)) = true by rw [valid_app s u 3 Hv3.out, valid_app t u 3 Hv3.out, hst]; simp)
                have HE2 := hid (show (wrt 3 (u ++ s) == wrt 3 (u ++ t)) = true by rw [valid_app u s 3 Hv1.out, valid_app u t 3 Hv2.out, hst]; simp)
                have HE3 := hid (show (wrt 3 t == wrt 3 s) = true by rw [hst]; simp)
                clear hst hc4
                go_wp2_with fail
                rw [cat_eq, cat_eq]
                refine (equal_any (s ++ u) (t ++ u) w14 HW14.out (by simp; omega) (by simp; omega)).mono ?_
                rintro e w15 ⟨rfl, be⟩
                have HB15 := hid (HB14.out.trans (be.mono HB14.out.size))
                have HW15 := hid (tbs_below HW14.out be)
                clear be HB14 HW14
                rw [HE1.out]
                go_wp2_with fail
                rw [cat_eq, cat_eq]
                refine (equal_any (u ++ s) (u ++ t) w15 HW15.out (by simp; omega) (by simp; omega)).mono ?_
                rintro e w16 ⟨rfl, be⟩
                have HB16 := hid (HB15.out.trans (be.mono HB15.out.size))
                have HW16 := hid (tbs_below HW15.out be)
                clear be HB15 HW15
                rw [HE2.out]
                go_wp2_with fail
                refine (equal_any t s w16 HW16.out (by omega) (by omega)).mono ?_
                rintro e w17 ⟨rfl, be⟩
                have HB17 := hid (HB16.out.trans (be.mono HB16.out.size))
                have HW17 := hid (tbs_below HW16.out be)
                clear be HB16 HW16
                rw [HE3.out]
                go_wp2_with fail
                refine (equal_any s s w17 HW17.out (by omega) (by omega)).mono ?_
                rintro e w18 ⟨rfl, be⟩
                have HB18 := hid (HB17.out.trans (be.mono HB17.out.size))
                have HW18 := hid (tbs_below HW17.out be)
                clear be HB17 HW17
                rw [beq_self_eq_true]
                go_wp2_with fail
                refine (live_any w18 HW18.out).mono ?_
                rintro e w19 ⟨rfl, be⟩
                have HB19 := hid (HB18.out.trans (be.mono HB18.out.size))
                have HW19 := hid (tbs_below HW18.out be)
                clear be HB18 HW18
                go_wp2
                go_ret
                exact ⟨rfl, HB19.out⟩
            · rw [decide_eq_false v3]
              clear v3
              go_wp2_with fail
              refine (equal_any s s w13 HW13.out (by omega) (by omega)).mono ?_
              rintro e w14 ⟨rfl, be⟩
              have HB14 := hid (HB13.out.trans (be.mono HB13.out.size))
              have HW14 := hid (tbs_below HW13.out be)
              clear be HB13 HW13
              rw [beq_self_eq_true]
              go_wp2_with fail
              refine (live_any w14 HW14.out).mono ?_
              rintro e w15 ⟨rfl, be⟩
              have HB15 := hid (HB14.out.trans (be.mono HB14.out.size))
              have HW15 := hid (tbs_below HW14.out be)
              clear be HB14 HW14
              go_wp2
              go_ret
              exact ⟨rfl, HB15.out⟩
          · rw [decide_eq_false v2]
            clear v2
            go_wp2_with fail
            refine (equal_any s s w12 HW12.out (by omega) (by omega)).mono ?_
            rintro e w13 ⟨rfl, be⟩
            have HB13 := hid (HB12.out.trans (be.mono HB12.out.size))
            have HW13 := hid (tbs_below HW12.out be)
            clear be HB12 HW12
            rw [beq_self_eq_true]
            go_wp2_with fail
            refine (live_any w13 HW13.out).mono ?_
            rintro e w14 ⟨rfl, be⟩
            have HB14 := hid (HB13.out.trans (be.mono HB13.out.size))
            have HW14 := hid (tbs_below HW13.out be)
            clear be HB13 HW13
            go_wp2
            go_ret
            exact ⟨rfl, HB14.out⟩
        · rw [decide_eq_false v1]
          clear v1
          go_wp2_with fail
          refine (equal_any s s w11 HW11.out (by omega) (by omega)).mono ?_
          rintro e w12 ⟨rfl, be⟩
          have HB12 := hid (HB11.out.trans (be.mono HB11.out.size))
          have HW12 := hid (tbs_below HW11.out be)
          clear be HB11 HW11
          rw [beq_self_eq_true]
          go_wp2_with fail
          refine (live_any w12 HW12.out).mono ?_
          rintro e w13 ⟨rfl, be⟩
          have HB13 := hid (HB12.out.trans (be.mono HB12.out.size))
          have HW13 := hid (tbs_below HW12.out be)
          clear be HB12 HW12
          go_wp2
          go_ret
          exact ⟨rfl, HB13.out⟩
      · have hc2 : ((n1 : Int) == (n2 : Int) + (n3 : Int)) = false := beq_eq_false_iff_ne.2 (by omega)
        clear hc
        go_wp2_with fail
        refine (valid_any s w4 (by omega) (utabs HW4.out).1).mono ?_
        rintro e w5 ⟨rfl, be⟩
        have HB5 := hid (HB4.out.trans (be.mono HB4.out.size))
        have HW5 := hid (tbs_below HW4.out be)
        clear be HB4 HW4
        by_cases v1 : flt s = []
        · rw [decide_eq_true v1]
          have Hv1 := hid v1
          clear v1
          go_wp2_with fail
          refine (valid_any t w5 (by omega) (utabs HW5.out).1).mono ?_
          rintro e w6 ⟨rfl, be⟩
          have HB6 := hid (HB5.out.trans (be.mono HB5.out.size))
          have HW6 := hid (tbs_below HW5.out be)
          clear be HB5 HW5
          by_cases v2 : flt t = []
          · rw [decide_eq_true v2]
            have Hv2 := hid v2
            clear v2
            go_wp2_with fail
            refine (valid_any u w6 (by omega) (utabs HW6.out).1).mono ?_
            rintro e w7 ⟨rfl, be⟩
            have HB7 := hid (HB6.out.trans (be.mono HB6.out.size))
            have HW7 := hid (tbs_below HW6.out be)
            clear be HB6 HW6
            by_cases v3 : flt u = []
            · rw [decide_eq_true v3]
              have Hv3 := hid v3
              clear v3
              go_wp2_with fail
              refine (equal_any s t w7 HW7.out (by omega) (by omega)).mono ?_
              rintro e w8 ⟨rfl, be⟩
              have HB8 := hid (HB7.out.trans (be.mono HB7.out.size))
              have HW8 := hid (tbs_below HW7.out be)
              clear be HB7 HW7
              obtain ⟨c4, hc4⟩ : ∃ c4, c4 = (wrt 3 s == wrt 3 t) := ⟨_, rfl⟩
              rw [← hc4]
              cases c4 with
              | false =>
                clear hc4
                go_wp2_with fail
                refine (equal_any s s w8 HW8.out (by omega) (by omega)).mono ?_
                rintro e w9 ⟨rfl, be⟩
                have HB9 := hid (HB8.out.trans (be.mono HB8.out.size))
                have HW9 := hid (tbs_below HW8.out be)
                clear be HB8 HW8
                rw [beq_self_eq_true]
                go_wp2_with fail
                refine (live_any w9 HW9.out).mono ?_
                rintro e w10 ⟨rfl, be⟩
                have HB10 := hid (HB9.out.trans (be.mono HB9.out.size))
                have HW10 := hid (tbs_below HW9.out be)
                clear be HB9 HW9
                go_wp2
                go_ret
                exact ⟨rfl, HB10.out⟩
              | true =>
                have hst : wrt 3 s = wrt 3 t := by simpa using hc4.symm
                have HE1 := hid (show (wrt 3 (s ++ u) == wrt 3 (t ++ u)) = true by rw [valid_app s u 3 Hv3.out, valid_app t u 3 Hv3.out, hst]; simp)
                have HE2 := hid (show (wrt 3 (u ++ s) == wrt 3 (u ++ t)) = true by rw [valid_app u s 3 Hv1.out, valid_app u t 3 Hv2.out, hst]; simp)
                have HE3 := hid (show (wrt 3 t == wrt 3 s) = true by rw [hst]; simp)
                clear hst hc4
                go_wp2_with fail
                rw [cat_eq, cat_eq]
                refine (equal_any (s ++ u) (t ++ u) w8 HW8.out (by simp; omega) (by simp; omega)).mono ?_
                rintro e w9 ⟨rfl, be⟩
                have HB9 := hid (HB8.out.trans (be.mono HB8.out.size))
                have HW9 := hid (tbs_below HW8.out be)
                clear be HB8 HW8
                rw [HE1.out]
                go_wp2_with fail
                rw [cat_eq, cat_eq]
                refine (equal_any (u ++ s) (u ++ t) w9 HW9.out (by simp; omega) (by simp; omega)).mono ?_
                rintro e w10 ⟨rfl, be⟩
                have HB10 := hid (HB9.out.trans (be.mono HB9.out.size))
                have HW10 := hid (tbs_below HW9.out be)
                clear be HB9 HW9
                rw [HE2.out]
                go_wp2_with fail
                refine (equal_any t s w10 HW10.out (by omega) (by omega)).mono ?_
                rintro e w11 ⟨rfl, be⟩
                have HB11 := hid (HB10.out.trans (be.mono HB10.out.size))
                have HW11 := hid (tbs_below HW10.out be)
                clear be HB10 HW10
                rw [HE3.out]
                go_wp2_with fail
                refine (equal_any s s w11 HW11.out (by omega) (by omega)).mono ?_
                rintro e w12 ⟨rfl, be⟩
                have HB12 := hid (HB11.out.trans (be.mono HB11.out.size))
                have HW12 := hid (tbs_below HW11.out be)
                clear be HB11 HW11
                rw [beq_self_eq_true]
                go_wp2_with fail
                refine (live_any w12 HW12.out).mono ?_
                rintro e w13 ⟨rfl, be⟩
                have HB13 := hid (HB12.out.trans (be.mono HB12.out.size))
                have HW13 := hid (tbs_below HW12.out be)
                clear be HB12 HW12
                go_wp2
                go_ret
                exact ⟨rfl, HB13.out⟩
            · rw [decide_eq_false v3]
              clear v3
              go_wp2_with fail
              refine (equal_any s s w7 HW7.out (by omega) (by omega)).mono ?_
              rintro e w8 ⟨rfl, be⟩
              have HB8 := hid (HB7.out.trans (be.mono HB7.out.size))
              have HW8 := hid (tbs_below HW7.out be)
              clear be HB7 HW7
              rw [beq_self_eq_true]
              go_wp2_with fail
              refine (live_any w8 HW8.out).mono ?_
              rintro e w9 ⟨rfl, be⟩
              have HB9 := hid (HB8.out.trans (be.mono HB8.out.size))
              have HW9 := hid (tbs_below HW8.out be)
              clear be HB8 HW8
              go_wp2
              go_ret
              exact ⟨rfl, HB9.out⟩
          · rw [decide_eq_false v2]
            clear v2
            go_wp2_with fail
            refine (equal_any s s w6 HW6.out (by omega) (by omega)).mono ?_
            rintro e w7 ⟨rfl, be⟩
            have HB7 := hid (HB6.out.trans (be.mono HB6.out.size))
            have HW7 := hid (tbs_below HW6.out be)
            clear be HB6 HW6
            rw [beq_self_eq_true]
            go_wp2_with fail
            refine (live_any w7 HW7.out).mono ?_
            rintro e w8 ⟨rfl, be⟩
            have HB8 := hid (HB7.out.trans (be.mono HB7.out.size))
            have HW8 := hid (tbs_below HW7.out be)
            clear be HB7 HW7
            go_wp2
            go_ret
            exact ⟨rfl, HB8.out⟩
        · rw [decide_eq_false v1]
          clear v1
          go_wp2_with fail
          refine (equal_any s s w5 HW5.out (by omega) (by omega)).mono ?_
          rintro e w6 ⟨rfl, be⟩
          have HB6 := hid (HB5.out.trans (be.mono HB5.out.size))
          have HW6 := hid (tbs_below HW5.out be)
          clear be HB5 HW5
          rw [beq_self_eq_true]
          go_wp2_with fail
          refine (live_any w6 HW6.out).mono ?_
          rintro e w7 ⟨rfl, be⟩
          have HB7 := hid (HB6.out.trans (be.mono HB6.out.size))
          have HW7 := hid (tbs_below HW6.out be)
          clear be HB6 HW6
          go_wp2
          go_ret
          exact ⟨rfl, HB7.out⟩
  · have i1 : (80 : Int) < (s.length : Int) + (t.length : Int) + (u.length : Int) := by omega
    go_enter Tryz.func4, Tryz.ntmps4
    go_wp2_with fail
    refine (live_any w HW.out).mono ?_
    rintro e w1 ⟨rfl, be⟩
    have HB := hid be
    clear be
    go_wp2
    go_ret
    exact ⟨rfl, HB.out⟩
end Fo
end Go.Proofs.YtdcfflnjkjnodaaGreatDoor
