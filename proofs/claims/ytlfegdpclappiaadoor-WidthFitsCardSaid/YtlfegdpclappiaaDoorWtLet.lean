/- The contracts of endsLine, isTab and letterCells (package width). -/
import Derived.Test.YtlfegdpclappiaaDoorWtFun
namespace Go.Proofs.YtlfegdpclappiaaDoor
open Go.RowKit

/-- Runes that end a line. -/
def elR (r : Int) : Bool := if r = 10 then true else if r = 11 then true else if r = 12 then true else if r = 13 then true else if r = 133 then true else if r = 8232 then true else if r = 8233 then true else false
set_option maxHeartbeats 1000000 in
theorem wends_any (l : List UInt8) (w : World) (ht : TbW w) : Calls Tryd.prog 65 #[.string ⟨l.toArray⟩] w fun e w' => e = .returned (.bool (elR (dec l).1)) ∧ Below w.heap.size w w' := by
  have HT := hid ht
  clear ht
  obtain ⟨r, hr⟩ : ∃ r : Int, r = ((dec l).1 : Int) := ⟨_, rfl⟩
  have HR := hid hr
  obtain ⟨n, hn⟩ : ∃ n : Nat, n = (dec l).2 := ⟨_, rfl⟩
  rw [← hr]
  go_enter Tryd.func65, Tryd.ntmps65
  go_wp2_with fail
  refine (decode_any l w HT.out.tabs).mono ?_
  rintro e w1 ⟨rfl, be⟩
  have HB := hid be
  rw [← hr, ← hn]
  clear be hr hn HR
  by_cases h0 : r = 10
  · subst h0
    go_wp2
    go_ret
    exact ⟨rfl, HB.out⟩
  have b0 : (r == 10) = false := beq_eq_false_iff_ne.2 h0
  by_cases h1 : r = 11
  · subst h1
    go_wp2
    go_ret
    exact ⟨rfl, HB.out⟩
  have b1 : (r == 11) = false := beq_eq_false_iff_ne.2 h1
  by_cases h2 : r = 12
  · subst h2
    go_wp2
    go_ret
    exact ⟨rfl, HB.out⟩
  have b2 : (r == 12) = false := beq_eq_false_iff_ne.2 h2
  by_cases h3 : r = 13
  · subst h3
    go_wp2
    go_ret
    exact ⟨rfl, HB.out⟩
  have b3 : (r == 13) = false := beq_eq_false_iff_ne.2 h3
  by_cases h4 : r = 133
  · subst h4
    go_wp2
    go_ret
    exact ⟨rfl, HB.out⟩
  have b4 : (r == 133) = false := beq_eq_false_iff_ne.2 h4
  by_cases h5 : r = 8232
  · subst h5
    go_wp2
    go_ret
    exact ⟨rfl, HB.out⟩
  have b5 : (r == 8232) = false := beq_eq_false_iff_ne.2 h5
  by_cases h6 : r = 8233
  · subst h6
    go_wp2
    go_ret
    exact ⟨rfl, HB.out⟩
  have b6 : (r == 8233) = false := beq_eq_false_iff_ne.2 h6
  have HV := hid (show elR r = false by unfold elR; rw [if_neg h0, if_neg h1, if_neg h2, if_neg h3, if_neg h4, if_neg h5, if_neg h6])
  clear h0 h1 h2 h3 h4 h5 h6
  go_wp2
  go_ret
  exact ⟨by rw [HV.out]; rfl, HB.out⟩
theorem wtab_any (l : List UInt8) (w : World) (hne : 0 < l.length) : Calls Tryd.prog 49 #[.string ⟨l.toArray⟩] w fun e w' => e = .returned (.bool (byt l 0 == 9)) ∧ w' = w := by
  have hsz : 0 < (⟨l.toArray⟩ : ByteArray).size := by show 0 < l.toArray.size; simpa using hne
  have HV := hid (byt_eq l 0 hsz)
  go_enter Tryd.func49, Tryd.ntmps49
  go_wp2
  go_ret
  exact ⟨by rw [← HV.out]; rfl, rfl⟩
/-- One rune more. -/
def stp (f a m : Int) (r : Nat) : Int := if (r : Int) = 65039 ∧ f = 12 then max (max m (rcel a r)) 2 else max m (rcel a r)
def mfl (f a m : Int) (X : List (Nat × Nat)) : Int := X.foldl (fun m x => stp f a m x.1) m
theorem mfl_cons (f a m : Int) (x : Nat × Nat) (X : List (Nat × Nat)) : mfl f a m (x :: X) = mfl f a (stp f a m x.1) X := rfl
/-- The cells of a letter, by its runes. -/
def lcR (a : Int) (X : List (Nat × Nat)) : Int := if gc (X.headD (0, 0)) = 13 ∧ gc (X.tail.headD (0, 0)) = 13 then 2 else mfl (gc (X.headD (0, 0))) a 0 X
theorem dec_hd (l : List UInt8) : dec l = (rl l).headD (0, 0) := by
  by_cases h : l = []
  · subst h; rfl
  · rw [rl_cons l h]; rfl
theorem dec_tl (l : List UInt8) : dec (l.drop (dec l).2) = (rl l).tail.headD (0, 0) := by
  by_cases h : l = []
  · subst h; rfl
  · rw [dec_hd (l.drop (dec l).2), rl_cons l h]; rfl
set_option maxHeartbeats 4000000 in
theorem wletter_any (l : List UInt8) (a t s : Int) (w : World) (ht : TbW w) (hl : l.length ≤ 1000000000) :
    Calls Tryd.prog 66 #[.string ⟨l.toArray⟩, .agg #[.int .i64 a, .int .i64 t, .int .i64 s]] w fun e w' => e = .returned (.int .i64 (lcR a (rl l))) ∧ Below w.heap.size w w' := by
  have HT := hid ht
  clear ht
  have hB0 : Below w.heap.size w (w.alloc (.cells #[.int .i64 a, .int .i64 t, .int .i64 s] 36)) := (Below.refl _ _).alloc (Nat.le_refl _) _
  have hbx : (w.alloc (.cells #[.int .i64 a, .int .i64 t, .int .i64 s] 36)).heap[w.heap.size]? = some (.cells #[.int .i64 a, .int .i64 t, .int .i64 s] 36 (0, 0)) := World.alloc_heap_new w _
  have hsz0 : (w.alloc (.cells #[.int .i64 a, .int .i64 t, .int .i64 s] 36)).heap.size = w.heap.size + 1 := by simp
  obtain ⟨b, hb⟩ : ∃ b, b = w.heap.size := ⟨_, rfl⟩
  obtain ⟨r, hr⟩ : ∃ r : Int, r = ((dec l).1 : Int) := ⟨_, rfl⟩
  obtain ⟨n, hn⟩ : ∃ n : Nat, n = (dec l).2 := ⟨_, rfl⟩
  obtain ⟨r2, hr2⟩ : ∃ r : Int, r = ((dec (l.drop (dec l).2)).1 : Int) := ⟨_, rfl⟩
  obtain ⟨n2, hn2⟩ : ∃ n : Nat, n = (dec (l.drop (dec l).2)).2 := ⟨_, rfl⟩
  have hnl : n ≤ l.length := by
    rw [hn]
    by_cases h : l = []
    · subst h; exact Nat.le_refl _
    · exact dec_le l h
  have HF := hid (show gpcls r = gc ((rl l).headD (0, 0)) by rw [hr, dec_hd]; rfl)
  have HF2 := hid (show gpcls r2 = gc ((rl l).tail.headD (0, 0)) by rw [hr2, dec_tl]; rfl)
  rw [← hn] at hr2 hn2
  obtain ⟨f, hf⟩ : ∃ f, f = gpcls r := ⟨_, rfl⟩
  obtain ⟨f2, hf2⟩ : ∃ f, f = gpcls r2 := ⟨_, rfl⟩
  rw [← hf] at HF
  rw [← hf2] at HF2
  have HSZ := hid (show (⟨l.toArray⟩ : ByteArray).size = l.length by show l.toArray.size = _; simp)
  have HR := hid hr
  have HN := hid hn
  have HR2 := hid hr2
  have HN2 := hid hn2
  have HFF := hid hf
  have HFF2 := hid hf2
  have HBB := hid hb
  clear hr hn hr2 hn2 hf hf2 hb
  go_enter Tryd.func66, Tryd.ntmps66
  go_wp2_with fail
  obtain ⟨w0, hw0⟩ : ∃ w0, w0 = w.alloc (.cells #[.int .i64 a, .int .i64 t, .int .i64 s] 36) := ⟨_, rfl⟩
  rw [← hw0] at hB0 hbx hsz0 ⊢
  have HT0 := hid (HT.out.below hB0)
  clear hw0
  refine (decode_any l w0 HT0.out.tabs).mono ?_
  rintro e w1 ⟨rfl, be1⟩
  have HT1 := hid (HT0.out.below be1)
  rw [← HR.out, ← HN.out]
  go_wp2_with fail
  rw [ext_drop]
  refine (decode_any (l.drop n) w1 HT1.out.tabs).mono ?_
  rintro e w2 ⟨rfl, be2⟩
  have hb02 := be1.trans (be2.mono be1.size)
  rw [← HR2.out, ← HN2.out]
  rw [← HBB.out] at hbx hsz0
  have hbx2 : w2.heap[b]? = some (.cells #[.int .i64 a, .int .i64 t, .int .i64 s] 36 (0, 0)) := (hb02.block b (by omega)).trans hbx
  have HB2 := hid (show Below b w w2 by rw [HBB.out]; exact hB0.trans (hb02.mono hB0.size))
  have HBX2 := hid hbx2
  rw [← HBB.out]
  have hbs : b < w2.heap.size := (Array.getElem?_eq_some_iff.1 hbx2).1
  clear be1 be2 hb02 hbx hbx2 hB0 hsz0 HT1 HT0
  go_wp2_with fail
  refine (gpcls_any r w2).mono ?_
  rintro e w3 ⟨rfl, hw3⟩
  obtain rfl := hw3.symm
  clear hw3
  rw [← HFF.out]
  by_cases h13 : f = 13 ∧ f2 = 13
  · obtain ⟨e1, e2⟩ := h13
    have HV := hid (show lcR a (rl l) = 2 by unfold lcR; rw [← HF.out, ← HF2.out, if_pos ⟨e1, e2⟩])
    have q1 : (f == 13) = true := beq_iff_eq.2 e1
    have q2 : (f2 == 13) = true := beq_iff_eq.2 e2
    clear e1 e2
    go_wp2_with fail
    refine (gpcls_any r2 _).mono ?_
    rintro e w4 ⟨rfl, hw4⟩
    obtain rfl := hw4.symm
    clear hw4
    rw [← HFF2.out]
    go_wp2
    go_ret
    exact ⟨by rw [HV.out]; rfl, by rw [← HBB.out]; exact HB2.out⟩
  have HV := hid (show lcR a (rl l) = mfl f a 0 (rl l) by unfold lcR; rw [← HF.out, ← HF2.out, if_neg h13])
  by_cases h1 : f = 13
  · have h2 : f2 ≠ 13 := fun h => h13 ⟨h1, h⟩
    have q1 : (f == 13) = true := beq_iff_eq.2 h1
    have q2 : (f2 == 13) = false := beq_eq_false_iff_ne.2 h2
    clear h1 h2 h13
    go_wp2_with fail
    refine (gpcls_any r2 _).mono ?_
    rintro e w4 ⟨rfl, hw4⟩
    obtain rfl := hw4.symm
    clear hw4
    rw [← HFF2.out]
    go_wp2
    obtain ⟨z, hz⟩ : ∃ z, z = w2.heap.size := ⟨_, rfl⟩
    have HIT0 := hid (World.iter_heap w2 ⟨l.toArray⟩ 0)
    have HBi := hid (show Below b w (w2.iter ⟨l.toArray⟩ 0) from HB2.out.trans ((Below.refl b w2).alloc (Nat.le_of_lt hbs) _))
    have HBXi := hid (show (w2.iter ⟨l.toArray⟩ 0).heap[b]? = some (.cells #[.int .i64 a, .int .i64 t, .int .i64 s] 36 (0, 0)) from (((Below.refl (b + 1) w2).alloc (show b + 1 ≤ w2.heap.size by omega) (.stringIter ⟨l.toArray⟩ 0)).block b (by omega)).trans HBX2.out)
    rw [← hz] at HIT0 hbs ⊢
    clear hz HB2 HBX2
    go_loopw [10] (fun m wr => ∃ (t' : Nat) (mv : Int), m = .int .i64 mv ∧ Hid (mfl f a 0 (rl l) = mfl f a mv (rl (l.drop t'))) ∧ Hid (wr.heap[z]? = some (.stringIter ⟨l.toArray⟩ t')) ∧ Hid (Below b w wr) ∧ Hid (wr.heap[b]? = some (.cells #[.int .i64 a, .int .i64 t, .int .i64 s] 36 (0, 0)))) (fun _ wr => l.length - wr.iterPos z)
    case atStart => exact ⟨0, 0, rfl, rfl, HIT0, HBi, HBXi⟩
    case round =>
      obtain ⟨t', mv, rfl, HP, HI, HB, HBX⟩ := hrel
      clear HIT0 HBi HBXi
      have hin : z < wr.heap.size := (Array.getElem?_eq_some_iff.1 HI.out).1
      by_cases hlt : t' < l.length
      · have hnx := wnext_at (P := Tryd.prog) wr z ⟨l.toArray⟩ t' 0 HI.out (by rw [HSZ.out]; exact hlt)
        rw [decode_place l t' hlt] at hnx
        have d1 := dec_ge _ (drop_ne l t' hlt)
        have d2 := dec_le _ (drop_ne l t' hlt)
        rw [List.length_drop] at d2
        have HRL := hid (rl_cons _ (drop_ne l t' hlt))
        obtain ⟨nn, hnn⟩ : ∃ nn, nn = (dec (l.drop t')).2 := ⟨_, rfl⟩
        obtain ⟨rn, hrn⟩ : ∃ rr, rr = (dec (l.drop t')).1 := ⟨_, rfl⟩
        have HMF := hid (show mfl f a 0 (rl l) = mfl f a (stp f a mv rn) (rl (l.drop (t' + nn))) by rw [HP.out, HRL.out, mfl_cons, List.drop_drop, ← hnn, ← hrn])
        rw [← hnn] at hnx d1 d2
        rw [← hrn] at hnx
        clear hnn hrn HRL HP
        obtain ⟨rr, hrr⟩ : ∃ rr : Int, rr = (rn : Int) := ⟨_, rfl⟩
        rw [← hrr] at hnx
        have HST := hid (show stp f a mv rn = if rr = 65039 ∧ f = 12 then max (max mv (rcel a rr)) 2 else max mv (rcel a rr) by rw [hrr]; rfl)
        clear hrr
        obtain ⟨w1, hw1⟩ : ∃ w1, w1 = wr.putObj z (.stringIter ⟨l.toArray⟩ (t' + nn)) := ⟨_, rfl⟩
        rw [← hw1] at hnx
        have HI1 := hid (show w1.heap[z]? = some (.stringIter ⟨l.toArray⟩ (t' + nn)) by rw [hw1]; exact World.putObj_heap_same hin)
        have HB1 := hid (show Below b w w1 by rw [hw1]; exact HB.out.trans ⟨rfl, rfl, rfl, by simp [World.putObj], fun j hj => World.putObj_heap_other (by omega)⟩)
        have hbx1 : w1.heap[b]? = some (.cells #[.int .i64 a, .int .i64 t, .int .i64 s] 36 (0, 0)) := by rw [hw1]; exact (World.putObj_heap_other (by omega)).trans HBX.out
        have HM := hid (show l.length - wr.iterPos z = l.length - t' by unfold World.iterPos; rw [HI.out])
        have hin1 : z < w1.heap.size := (Array.getElem?_eq_some_iff.1 HI1.out).1
        have c0 : w1.cell? ⟨b, 0, none⟩ = some (.int .i64 a) := by simp [World.cell?, hbx1]
        have c1 : w1.cell? ⟨b, 1, none⟩ = some (.int .i64 t) := by simp [World.cell?, hbx1]
        have c2 : w1.cell? ⟨b, 2, none⟩ = some (.int .i64 s) := by simp [World.cell?, hbx1]
        have HBX1 := hid hbx1
        clear hw1 HI HB HBX hbx1
        go_wp2_with fail
        refine (rcel_any rr a t s w1).mono ?_
        rintro e w3 ⟨rfl, be⟩
        have HB3 := hid (HB1.out.trans (be.mono (by have := HB1.out.size; omega)))
        have HI3 := hid (show w3.heap[z]? = some (.stringIter ⟨l.toArray⟩ (t' + nn)) from (be.block _ hin1).trans HI1.out)
        have HBX3 := hid ((be.block b (by omega)).trans HBX1.out)
        obtain ⟨c, hc⟩ : ∃ c, c = rcel a rr := ⟨_, rfl⟩
        rw [← hc] at HST ⊢
        clear be hc HB1 HI1 HBX1 hnx c0 c1 c2
        by_cases hq : rr = 65039
        · subst hq
          by_cases h12 : f = 12
          · have q3 : (f == 12) = true := beq_iff_eq.2 h12
            have HE := hid (show stp f a mv rn = max mv (max c 2) by rw [HST.out, if_pos ⟨rfl, h12⟩, Int.max_assoc])
            clear h12
            go_wp2
            go_roundw
            case rel => exact ⟨t' + nn, _, rfl, (by show _ = _; rw [HMF.out, HE.out]), HI3, HB3, HBX3⟩
            case measure =>
              rw [HM.out]
              unfold World.iterPos
              rw [HI3.out]
              simp only []
              omega
          · have q3 : (f == 12) = false := beq_eq_false_iff_ne.2 h12
            have HE := hid (show stp f a mv rn = max mv c by rw [HST.out, if_neg (fun h => h12 h.2)])
            clear h12
            go_wp2
            go_roundw
            case rel => exact ⟨t' + nn, _, rfl, (by show _ = _; rw [HMF.out, HE.out]), HI3, HB3, HBX3⟩
            case measure =>
              rw [HM.out]
              unfold World.iterPos
              rw [HI3.out]
              simp only []
              omega
        · have q3 : (rr == 65039) = false := beq_eq_false_iff_ne.2 hq
          have HE := hid (show stp f a mv rn = max mv c by rw [HST.out, if_neg (fun h => hq h.1)])
          clear hq
          go_wp2
          go_roundw
          case rel => exact ⟨t' + nn, _, rfl, (by show _ = _; rw [HMF.out, HE.out]), HI3, HB3, HBX3⟩
          case measure =>
            rw [HM.out]
            unfold World.iterPos
            rw [HI3.out]
            simp only []
            omega
      · have hnx := wnext_stop (P := Tryd.prog) wr z ⟨l.toArray⟩ t' 0 HI.out (by rw [HSZ.out]; exact hlt)
        have HE := hid (show mfl f a 0 (rl l) = mv by rw [HP.out, List.drop_of_length_le (by omega)]; rfl)
        go_wp2
        go_ret
        exact ⟨by rw [HV.out, HE.out]; rfl, by rw [← HBB.out]; exact HB.out⟩
  · have q1 : (f == 13) = false := beq_eq_false_iff_ne.2 h1
    clear h1 h13
    go_wp2
    obtain ⟨z, hz⟩ : ∃ z, z = w2.heap.size := ⟨_, rfl⟩
    have HIT0 := hid (World.iter_heap w2 ⟨l.toArray⟩ 0)
    have HBi := hid (show Below b w (w2.iter ⟨l.toArray⟩ 0) from HB2.out.trans ((Below.refl b w2).alloc (Nat.le_of_lt hbs) _))
    have HBXi := hid (show (w2.iter ⟨l.toArray⟩ 0).heap[b]? = some (.cells #[.int .i64 a, .int .i64 t, .int .i64 s] 36 (0, 0)) from (((Below.refl (b + 1) w2).alloc (show b + 1 ≤ w2.heap.size by omega) (.stringIter ⟨l.toArray⟩ 0)).block b (by omega)).trans HBX2.out)
    rw [← hz] at HIT0 hbs ⊢
    clear hz HB2 HBX2
    go_loopw [10] (fun m wr => ∃ (t' : Nat) (mv : Int), m = .int .i64 mv ∧ Hid (mfl f a 0 (rl l) = mfl f a mv (rl (l.drop t'))) ∧ Hid (wr.heap[z]? = some (.stringIter ⟨l.toArray⟩ t')) ∧ Hid (Below b w wr) ∧ Hid (wr.heap[b]? = some (.cells #[.int .i64 a, .int .i64 t, .int .i64 s] 36 (0, 0)))) (fun _ wr => l.length - wr.iterPos z)
    case atStart => exact ⟨0, 0, rfl, rfl, HIT0, HBi, HBXi⟩
    case round =>
      obtain ⟨t', mv, rfl, HP, HI, HB, HBX⟩ := hrel
      clear HIT0 HBi HBXi
      have hin : z < wr.heap.size := (Array.getElem?_eq_some_iff.1 HI.out).1
      by_cases hlt : t' < l.length
      · have hnx := wnext_at (P := Tryd.prog) wr z ⟨l.toArray⟩ t' 0 HI.out (by rw [HSZ.out]; exact hlt)
        rw [decode_place l t' hlt] at hnx
        have d1 := dec_ge _ (drop_ne l t' hlt)
        have d2 := dec_le _ (drop_ne l t' hlt)
        rw [List.length_drop] at d2
        have HRL := hid (rl_cons _ (drop_ne l t' hlt))
        obtain ⟨nn, hnn⟩ : ∃ nn, nn = (dec (l.drop t')).2 := ⟨_, rfl⟩
        obtain ⟨rn, hrn⟩ : ∃ rr, rr = (dec (l.drop t')).1 := ⟨_, rfl⟩
        have HMF := hid (show mfl f a 0 (rl l) = mfl f a (stp f a mv rn) (rl (l.drop (t' + nn))) by rw [HP.out, HRL.out, mfl_cons, List.drop_drop, ← hnn, ← hrn])
        rw [← hnn] at hnx d1 d2
        rw [← hrn] at hnx
        clear hnn hrn HRL HP
        obtain ⟨rr, hrr⟩ : ∃ rr : Int, rr = (rn : Int) := ⟨_, rfl⟩
        rw [← hrr] at hnx
        have HST := hid (show stp f a mv rn = if rr = 65039 ∧ f = 12 then max (max mv (rcel a rr)) 2 else max mv (rcel a rr) by rw [hrr]; rfl)
        clear hrr
        obtain ⟨w1, hw1⟩ : ∃ w1, w1 = wr.putObj z (.stringIter ⟨l.toArray⟩ (t' + nn)) := ⟨_, rfl⟩
        rw [← hw1] at hnx
        have HI1 := hid (show w1.heap[z]? = some (.stringIter ⟨l.toArray⟩ (t' + nn)) by rw [hw1]; exact World.putObj_heap_same hin)
        have HB1 := hid (show Below b w w1 by rw [hw1]; exact HB.out.trans ⟨rfl, rfl, rfl, by simp [World.putObj], fun j hj => World.putObj_heap_other (by omega)⟩)
        have hbx1 : w1.heap[b]? = some (.cells #[.int .i64 a, .int .i64 t, .int .i64 s] 36 (0, 0)) := by rw [hw1]; exact (World.putObj_heap_other (by omega)).trans HBX.out
        have HM := hid (show l.length - wr.iterPos z = l.length - t' by unfold World.iterPos; rw [HI.out])
        have hin1 : z < w1.heap.size := (Array.getElem?_eq_some_iff.1 HI1.out).1
        have c0 : w1.cell? ⟨b, 0, none⟩ = some (.int .i64 a) := by simp [World.cell?, hbx1]
        have c1 : w1.cell? ⟨b, 1, none⟩ = some (.int .i64 t) := by simp [World.cell?, hbx1]
        have c2 : w1.cell? ⟨b, 2, none⟩ = some (.int .i64 s) := by simp [World.cell?, hbx1]
        have HBX1 := hid hbx1
        clear hw1 HI HB HBX hbx1
        go_wp2_with fail
        refine (rcel_any rr a t s w1).mono ?_
        rintro e w3 ⟨rfl, be⟩
        have HB3 := hid (HB1.out.trans (be.mono (by have := HB1.out.size; omega)))
        have HI3 := hid (show w3.heap[z]? = some (.stringIter ⟨l.toArray⟩ (t' + nn)) from (be.block _ hin1).trans HI1.out)
        have HBX3 := hid ((be.block b (by omega)).trans HBX1.out)
        obtain ⟨c, hc⟩ : ∃ c, c = rcel a rr := ⟨_, rfl⟩
        rw [← hc] at HST ⊢
        clear be hc HB1 HI1 HBX1 hnx c0 c1 c2
        by_cases hq : rr = 65039
        · subst hq
          by_cases h12 : f = 12
          · have q3 : (f == 12) = true := beq_iff_eq.2 h12
            have HE := hid (show stp f a mv rn = max mv (max c 2) by rw [HST.out, if_pos ⟨rfl, h12⟩, Int.max_assoc])
            clear h12
            go_wp2
            go_roundw
            case rel => exact ⟨t' + nn, _, rfl, (by show _ = _; rw [HMF.out, HE.out]), HI3, HB3, HBX3⟩
            case measure =>
              rw [HM.out]
              unfold World.iterPos
              rw [HI3.out]
              simp only []
              omega
          · have q3 : (f == 12) = false := beq_eq_false_iff_ne.2 h12
            have HE := hid (show stp f a mv rn = max mv c by rw [HST.out, if_neg (fun h => h12 h.2)])
            clear h12
            go_wp2
            go_roundw
            case rel => exact ⟨t' + nn, _, rfl, (by show _ = _; rw [HMF.out, HE.out]), HI3, HB3, HBX3⟩
            case measure =>
              rw [HM.out]
              unfold World.iterPos
              rw [HI3.out]
              simp only []
              omega
        · have q3 : (rr == 65039) = false := beq_eq_false_iff_ne.2 hq
          have HE := hid (show stp f a mv rn = max mv c by rw [HST.out, if_neg (fun h => hq h.1)])
          clear hq
          go_wp2
          go_roundw
          case rel => exact ⟨t' + nn, _, rfl, (by show _ = _; rw [HMF.out, HE.out]), HI3, HB3, HBX3⟩
          case measure =>
            rw [HM.out]
            unfold World.iterPos
            rw [HI3.out]
            simp only []
            omega
      · have hnx := wnext_stop (P := Tryd.prog) wr z ⟨l.toArray⟩ t' 0 HI.out (by rw [HSZ.out]; exact hlt)
        have HE := hid (show mfl f a 0 (rl l) = mv by rw [HP.out, List.drop_of_length_le (by omega)]; rfl)
        go_wp2
        go_ret
        exact ⟨by rw [HV.out, HE.out]; rfl, by rw [← HBB.out]; exact HB.out⟩
end Go.Proofs.YtlfegdpclappiaaDoor
