/- The contracts of Check, runeCells, endsLine, isTab, letterCells and behind (package width). -/
import Derived.Test.YtlfegdpclappiaaDoorWtCls
import Derived.Test.YtlfegdpclappiaaDoorGrFst
import Derived.Test.YtlfegdpclappiaaDoorMix
import Derived.Test.YtlfegdpclappiaaDoorGrLaw
import Derived.Test.YtlfegdpclappiaaDoorMixIn
namespace Go.Proofs.YtlfegdpclappiaaDoor
open Go.RowKit

/-- Cells, as a value: Ambiguous, Tab, Start. -/
def cel (a t s : Int) : Value := .agg #[.int .i64 a, .int .i64 t, .int .i64 s]
/-- Cells that are taken. -/
structure Okc (a t s : Int) : Prop where
  a : a = 1 ∨ a = 2
  t1 : 1 ≤ t
  t2 : t ≤ 64
  s1 : 0 ≤ s
  s2 : s ≤ 1073741824
def okc (a t s : Int) : Bool := (a == 1 || a == 2) && decide (1 ≤ t) && decide (t ≤ 64) && decide (0 ≤ s) && decide (s ≤ 1073741824)
def chkE (a t s : Int) : Int := if okc a t s = true then 0 else 2
theorem okc_is (a t s : Int) : okc a t s = true ↔ Okc a t s := by
  unfold okc
  simp only [Bool.and_eq_true, Bool.or_eq_true, beq_iff_eq, decide_eq_true_eq]
  constructor
  · rintro ⟨⟨⟨⟨h1, h2⟩, h3⟩, h4⟩, h5⟩
    exact ⟨h1, h2, h3, h4, h5⟩
  · rintro ⟨h1, h2, h3, h4, h5⟩
    exact ⟨⟨⟨⟨h1, h2⟩, h3⟩, h4⟩, h5⟩
set_option maxHeartbeats 2000000 in
theorem wcheck_any (a t s : Int) (w : World) : Calls Tryd.prog 18 #[.agg #[.int .i64 a, .int .i64 t, .int .i64 s]] w fun e w' => e = .returned (.int .i64 (chkE a t s)) ∧ Below w.heap.size w w' := by
  have hB : Below w.heap.size w (w.alloc (.cells #[.int .i64 a, .int .i64 t, .int .i64 s] 36)) := (Below.refl _ _).alloc (Nat.le_refl _) _
  by_cases ha : a = 1 ∨ a = 2
  · by_cases h1 : t < 1
    · have HV := hid (show chkE a t s = 2 by unfold chkE; rw [if_neg]; rw [okc_is]; intro h; have := h.t1; omega)
      rcases ha with rfl | rfl
      all_goals
        go_enter Tryd.func18, Tryd.ntmps18
        go_wp2
        go_ret
        exact ⟨by rw [HV.out]; rfl, hB⟩
    by_cases h2 : 64 < t
    · have HV := hid (show chkE a t s = 2 by unfold chkE; rw [if_neg]; rw [okc_is]; intro h; have := h.t2; omega)
      rcases ha with rfl | rfl
      all_goals
        go_enter Tryd.func18, Tryd.ntmps18
        go_wp2
        go_ret
        exact ⟨by rw [HV.out]; rfl, hB⟩
    by_cases h3 : s < 0
    · have HV := hid (show chkE a t s = 2 by unfold chkE; rw [if_neg]; rw [okc_is]; intro h; have := h.s1; omega)
      rcases ha with rfl | rfl
      all_goals
        go_enter Tryd.func18, Tryd.ntmps18
        go_wp2
        go_ret
        exact ⟨by rw [HV.out]; rfl, hB⟩
    by_cases h4 : 1073741824 < s
    · have HV := hid (show chkE a t s = 2 by unfold chkE; rw [if_neg]; rw [okc_is]; intro h; have := h.s2; omega)
      rcases ha with rfl | rfl
      all_goals
        go_enter Tryd.func18, Tryd.ntmps18
        go_wp2
        go_ret
        exact ⟨by rw [HV.out]; rfl, hB⟩
    have HV := hid (show chkE a t s = 0 by unfold chkE; rw [if_pos]; rw [okc_is]; exact ⟨ha, by omega, by omega, by omega, by omega⟩)
    rcases ha with rfl | rfl
    all_goals
      go_enter Tryd.func18, Tryd.ntmps18
      go_wp2
      go_ret
      exact ⟨by rw [HV.out]; rfl, hB⟩
  · have HV := hid (show chkE a t s = 2 by unfold chkE; rw [if_neg]; rw [okc_is]; intro h; exact ha h.a)
    have b1 : (a != 1) = true := bne_iff_ne.2 (fun h => ha (.inl h))
    have b2 : (a != 2) = true := bne_iff_ne.2 (fun h => ha (.inr h))
    clear ha
    go_enter Tryd.func18, Tryd.ntmps18
    go_wp2
    go_ret
    exact ⟨by rw [HV.out]; rfl, hB⟩
/-- The cells of a rune. -/
def rcel (a r : Int) : Int := if wzero r = true then 0 else if wwide r = true then 2 else if wambi r = true then a else 1
theorem rcel_any (r a t s : Int) (w : World) : Calls Tryd.prog 76 #[.int .i32 r, .agg #[.int .i64 a, .int .i64 t, .int .i64 s]] w fun e w' => e = .returned (.int .i64 (rcel a r)) ∧ Below w.heap.size w w' := by
  have hB : Below w.heap.size w (w.alloc (.cells #[.int .i64 a, .int .i64 t, .int .i64 s] 36)) := (Below.refl _ _).alloc (Nat.le_refl _) _
  cases h1 : wzero r with
  | true =>
    have HV := hid (show rcel a r = 0 by unfold rcel; rw [if_pos h1])
    go_enter Tryd.func76, Tryd.ntmps76
    go_wp2_with fail
    refine (wzero_any r _).mono ?_
    rintro e w1 ⟨rfl, rfl⟩
    rw [h1]
    go_wp2
    go_ret
    exact ⟨by rw [HV.out]; rfl, hB⟩
  | false =>
    have n1 : ¬ wzero r = true := by rw [h1]; simp
    cases h2 : wwide r with
    | true =>
      have HV := hid (show rcel a r = 2 by unfold rcel; rw [if_neg n1, if_pos h2])
      clear n1
      go_enter Tryd.func76, Tryd.ntmps76
      go_wp2_with fail
      refine (wzero_any r _).mono ?_
      rintro e w1 ⟨rfl, rfl⟩
      rw [h1]
      go_wp2_with fail
      refine (wwide_any r _).mono ?_
      rintro e w1 ⟨rfl, rfl⟩
      rw [h2]
      go_wp2
      go_ret
      exact ⟨by rw [HV.out]; rfl, hB⟩
    | false =>
      have n2 : ¬ wwide r = true := by rw [h2]; simp
      cases h3 : wambi r with
      | true =>
        have HV := hid (show rcel a r = a by unfold rcel; rw [if_neg n1, if_neg n2, if_pos h3])
        clear n1 n2
        go_enter Tryd.func76, Tryd.ntmps76
        go_wp2_with fail
        refine (wzero_any r _).mono ?_
        rintro e w1 ⟨rfl, rfl⟩
        rw [h1]
        go_wp2_with fail
        refine (wwide_any r _).mono ?_
        rintro e w1 ⟨rfl, rfl⟩
        rw [h2]
        go_wp2_with fail
        refine (wambi_any r _).mono ?_
        rintro e w1 ⟨rfl, rfl⟩
        rw [h3]
        go_wp2
        go_ret
        exact ⟨by rw [HV.out]; rfl, hB⟩
      | false =>
        have n3 : ¬ wambi r = true := by rw [h3]; simp
        have HV := hid (show rcel a r = 1 by unfold rcel; rw [if_neg n1, if_neg n2, if_neg n3])
        clear n1 n2 n3
        go_enter Tryd.func76, Tryd.ntmps76
        go_wp2_with fail
        refine (wzero_any r _).mono ?_
        rintro e w1 ⟨rfl, rfl⟩
        rw [h1]
        go_wp2_with fail
        refine (wwide_any r _).mono ?_
        rintro e w1 ⟨rfl, rfl⟩
        rw [h2]
        go_wp2_with fail
        refine (wambi_any r _).mono ?_
        rintro e w1 ⟨rfl, rfl⟩
        rw [h3]
        go_wp2
        go_ret
        exact ⟨by rw [HV.out]; rfl, hB⟩
end Go.Proofs.YtlfegdpclappiaaDoor
/- The contracts of endsLine, isTab and letterCells (package width). -/
namespace Go.Proofs.YtlfegdpclappiaaDoor
open Go.RowKit

/-- Runes that end a line. -/
def elR (r : Int) : Bool := if r = 10 then true else if r = 11 then true else if r = 12 then true else if r = 13 then true else if r = 133 then true else if r = 8232 then true else if r = 8233 then true else false
set_option maxHeartbeats 1000000 in
theorem wends_any (l : List UInt8) (w : World) (ht : TbW w) : Calls Tryd.prog 65 #[.string ⟨l.toArray⟩] w fun e w' => e = .returned (.bool (elR (dec l).1)) ∧ Below w.heap.size w w' := by
  have HT := hid ht
  clear ht
  obtain ⟨r, hr⟩ : ∃ r : Int, r = ((dec l).1 : Int) := ⟨_, rfl⟩
  have HR := hid hr
  obtain ⟨n, hn⟩ : ∃ n : Nat, n = (dec l).2 := ⟨_, rfl⟩
  rw [← hr]
  go_enter Tryd.func65, Tryd.ntmps65
  go_wp2_with fail
  refine (decode_any l w HT.out.tabs).mono ?_
  rintro e w1 ⟨rfl, be⟩
  have HB := hid be
  rw [← hr, ← hn]
  clear be hr hn HR
  by_cases h0 : r = 10
  · subst h0
    go_wp2
    go_ret
    exact ⟨rfl, HB.out⟩
  have b0 : (r == 10) = false := beq_eq_false_iff_ne.2 h0
  by_cases h1 : r = 11
  · subst h1
    go_wp2
    go_ret
    exact ⟨rfl, HB.out⟩
  have b1 : (r == 11) = false := beq_eq_false_iff_ne.2 h1
  by_cases h2 : r = 12
  · subst h2
    go_wp2
    go_ret
    exact ⟨rfl, HB.out⟩
  have b2 : (r == 12) = false := beq_eq_false_iff_ne.2 h2
  by_cases h3 : r = 13
  · subst h3
    go_wp2
    go_ret
    exact ⟨rfl, HB.out⟩
  have b3 : (r == 13) = false := beq_eq_false_iff_ne.2 h3
  by_cases h4 : r = 133
  · subst h4
    go_wp2
    go_ret
    exact ⟨rfl, HB.out⟩
  have b4 : (r == 133) = false := beq_eq_false_iff_ne.2 h4
  by_cases h5 : r = 8232
  · subst h5
    go_wp2
    go_ret
    exact ⟨rfl, HB.out⟩
  have b5 : (r == 8232) = false := beq_eq_false_iff_ne.2 h5
  by_cases h6 : r = 8233
  · subst h6
    go_wp2
    go_ret
    exact ⟨rfl, HB.out⟩
  have b6 : (r == 8233) = false := beq_eq_false_iff_ne.2 h6
  have HV := hid (show elR r = false by unfold elR; rw [if_neg h0, if_neg h1, if_neg h2, if_neg h3, if_neg h4, if_neg h5, if_neg h6])
  clear h0 h1 h2 h3 h4 h5 h6
  go_wp2
  go_ret
  exact ⟨by rw [HV.out]; rfl, HB.out⟩
theorem wtab_any (l : List UInt8) (w : World) (hne : 0 < l.length) : Calls Tryd.prog 49 #[.string ⟨l.toArray⟩] w fun e w' => e = .returned (.bool (byt l 0 == 9)) ∧ w' = w := by
  have hsz : 0 < (⟨l.toArray⟩ : ByteArray).size := by show 0 < l.toArray.size; simpa using hne
  have HV := hid (byt_eq l 0 hsz)
  go_enter Tryd.func49, Tryd.ntmps49
  go_wp2
  go_ret
  exact ⟨by rw [← HV.out]; rfl, rfl⟩
/-- One rune more. -/
def stp (f a m : Int) (r : Nat) : Int := if (r : Int) = 65039 ∧ f = 12 then max (max m (rcel a r)) 2 else max m (rcel a r)
def mfl (f a m : Int) (X : List (Nat × Nat)) : Int := X.foldl (fun m x => stp f a m x.1) m
theorem mfl_cons (f a m : Int) (x : Nat × Nat) (X : List (Nat × Nat)) : mfl f a m (x :: X) = mfl f a (stp f a m x.1) X := rfl
/-- The cells of a letter, by its runes. -/
def lcR (a : Int) (X : List (Nat × Nat)) : Int := if gc (X.headD (0, 0)) = 13 ∧ gc (X.tail.headD (0, 0)) = 13 then 2 else mfl (gc (X.headD (0, 0))) a 0 X
theorem dec_hd (l : List UInt8) : dec l = (rl l).headD (0, 0) := by
  by_cases h : l = []
  · subst h; rfl
  · rw [rl_cons l h]; rfl
theorem dec_tl (l : List UInt8) : dec (l.drop (dec l).2) = (rl l).tail.headD (0, 0) := by
  by_cases h : l = []
  · subst h; rfl
  · rw [dec_hd (l.drop (dec l).2), rl_cons l h]; rfl
set_option maxHeartbeats 4000000 in
theorem wletter_any (l : List UInt8) (a t s : Int) (w : World) (ht : TbW w) (hl : l.length ≤ 1000000000) :
    Calls Tryd.prog 66 #[.string ⟨l.toArray⟩, .agg #[.int .i64 a, .int .i64 t, .int .i64 s]] w fun e w' => e = .returned (.int .i64 (lcR a (rl l))) ∧ Below w.heap.size w w' := by
  have HT := hid ht
  clear ht
  have hB0 : Below w.heap.size w (w.alloc (.cells #[.int .i64 a, .int .i64 t, .int .i64 s] 36)) := (Below.refl _ _).alloc (Nat.le_refl _) _
  have hbx : (w.alloc (.cells #[.int .i64 a, .int .i64 t, .int .i64 s] 36)).heap[w.heap.size]? = some (.cells #[.int .i64 a, .int .i64 t, .int .i64 s] 36 (0, 0)) := World.alloc_heap_new w _
  have hsz0 : (w.alloc (.cells #[.int .i64 a, .int .i64 t, .int .i64 s] 36)).heap.size = w.heap.size + 1 := by simp
  obtain ⟨b, hb⟩ : ∃ b, b = w.heap.size := ⟨_, rfl⟩
  obtain ⟨r, hr⟩ : ∃ r : Int, r = ((dec l).1 : Int) := ⟨_, rfl⟩
  obtain ⟨n, hn⟩ : ∃ n : Nat, n = (dec l).2 := ⟨_, rfl⟩
  obtain ⟨r2, hr2⟩ : ∃ r : Int, r = ((dec (l.drop (dec l).2)).1 : Int) := ⟨_, rfl⟩
  obtain ⟨n2, hn2⟩ : ∃ n : Nat, n = (dec (l.drop (dec l).2)).2 := ⟨_, rfl⟩
  have hnl : n ≤ l.length := by
    rw [hn]
    by_cases h : l = []
    · subst h; exact Nat.le_refl _
    · exact dec_le l h
  have HF := hid (show gpcls r = gc ((rl l).headD (0, 0)) by rw [hr, dec_hd]; rfl)
  have HF2 := hid (show gpcls r2 = gc ((rl l).tail.headD (0, 0)) by rw [hr2, dec_tl]; rfl)
  rw [← hn] at hr2 hn2
  obtain ⟨f, hf⟩ : ∃ f, f = gpcls r := ⟨_, rfl⟩
  obtain ⟨f2, hf2⟩ : ∃ f, f = gpcls r2 := ⟨_, rfl⟩
  rw [← hf] at HF
  rw [← hf2] at HF2
  have HSZ := hid (show (⟨l.toArray⟩ : ByteArray).size = l.length by show l.toArray.size = _; simp)
  have HR := hid hr
  have HN := hid hn
  have HR2 := hid hr2
  have HN2 := hid hn2
  have HFF := hid hf
  have HFF2 := hid hf2
  have HBB := hid hb
  clear hr hn hr2 hn2 hf hf2 hb
  go_enter Tryd.func66, Tryd.ntmps66
  go_wp2_with fail
  obtain ⟨w0, hw0⟩ : ∃ w0, w0 = w.alloc (.cells #[.int .i64 a, .int .i64 t, .int .i64 s] 36) := ⟨_, rfl⟩
  rw [← hw0] at hB0 hbx hsz0 ⊢
  have HT0 := hid (HT.out.below hB0)
  clear hw0
  refine (decode_any l w0 HT0.out.tabs).mono ?_
  rintro e w1 ⟨rfl, be1⟩
  have HT1 := hid (HT0.out.below be1)
  rw [← HR.out, ← HN.out]
  go_wp2_with fail
  rw [ext_drop]
  refine (decode_any (l.drop n) w1 HT1.out.tabs).mono ?_
  rintro e w2 ⟨rfl, be2⟩
  have hb02 := be1.trans (be2.mono be1.size)
  rw [← HR2.out, ← HN2.out]
  rw [← HBB.out] at hbx hsz0
  have hbx2 : w2.heap[b]? = some (.cells #[.int .i64 a, .int .i64 t, .int .i64 s] 36 (0, 0)) := (hb02.block b (by omega)).trans hbx
  have HB2 := hid (show Below b w w2 by rw [HBB.out]; exact hB0.trans (hb02.mono hB0.size))
  have HBX2 := hid hbx2
  rw [← HBB.out]
  have hbs : b < w2.heap.size := (Array.getElem?_eq_some_iff.1 hbx2).1
  clear be1 be2 hb02 hbx hbx2 hB0 hsz0 HT1 HT0
  go_wp2_with fail
  refine (gpcls_any r w2).mono ?_
  rintro e w3 ⟨rfl, hw3⟩
  obtain rfl := hw3.symm
  clear hw3
  rw [← HFF.out]
  by_cases h13 : f = 13 ∧ f2 = 13
  · obtain ⟨e1, e2⟩ := h13
    have HV := hid (show lcR a (rl l) = 2 by unfold lcR; rw [← HF.out, ← HF2.out, if_pos ⟨e1, e2⟩])
    have q1 : (f == 13) = true := beq_iff_eq.2 e1
    have q2 : (f2 == 13) = true := beq_iff_eq.2 e2
    clear e1 e2
    go_wp2_with fail
    refine (gpcls_any r2 _).mono ?_
    rintro e w4 ⟨rfl, hw4⟩
    obtain rfl := hw4.symm
    clear hw4
    rw [← HFF2.out]
    go_wp2
    go_ret
    exact ⟨by rw [HV.out]; rfl, by rw [← HBB.out]; exact HB2.out⟩
  have HV := hid (show lcR a (rl l) = mfl f a 0 (rl l) by unfold lcR; rw [← HF.out, ← HF2.out, if_neg h13])
  by_cases h1 : f = 13
  · have h2 : f2 ≠ 13 := fun h => h13 ⟨h1, h⟩
    have q1 : (f == 13) = true := beq_iff_eq.2 h1
    have q2 : (f2 == 13) = false := beq_eq_false_iff_ne.2 h2
    clear h1 h2 h13
    go_wp2_with fail
    refine (gpcls_any r2 _).mono ?_
    rintro e w4 ⟨rfl, hw4⟩
    obtain rfl := hw4.symm
    clear hw4
    rw [← HFF2.out]
    go_wp2
    obtain ⟨z, hz⟩ : ∃ z, z = w2.heap.size := ⟨_, rfl⟩
    have HIT0 := hid (World.iter_heap w2 ⟨l.toArray⟩ 0)
    have HBi := hid (show Below b w (w2.iter ⟨l.toArray⟩ 0) from HB2.out.trans ((Below.refl b w2).alloc (Nat.le_of_lt hbs) _))
    have HBXi := hid (show (w2.iter ⟨l.toArray⟩ 0).heap[b]? = some (.cells #[.int .i64 a, .int .i64 t, .int .i64 s] 36 (0, 0)) from (((Below.refl (b + 1) w2).alloc (show b + 1 ≤ w2.heap.size by omega) (.stringIter ⟨l.toArray⟩ 0)).block b (by omega)).trans HBX2.out)
    rw [← hz] at HIT0 hbs ⊢
    clear hz HB2 HBX2
    go_loopw [10] (fun m wr => ∃ (t' : Nat) (mv : Int), m = .int .i64 mv ∧ Hid (mfl f a 0 (rl l) = mfl f a mv (rl (l.drop t'))) ∧ Hid (wr.heap[z]? = some (.stringIter ⟨l.toArray⟩ t')) ∧ Hid (Below b w wr) ∧ Hid (wr.heap[b]? = some (.cells #[.int .i64 a, .int .i64 t, .int .i64 s] 36 (0, 0)))) (fun _ wr => l.length - wr.iterPos z)
    case atStart => exact ⟨0, 0, rfl, rfl, HIT0, HBi, HBXi⟩
    case round =>
      obtain ⟨t', mv, rfl, HP, HI, HB, HBX⟩ := hrel
      clear HIT0 HBi HBXi
      have hin : z < wr.heap.size := (Array.getElem?_eq_some_iff.1 HI.out).1
      by_cases hlt : t' < l.length
      · have hnx := wnext_at (P := Tryd.prog) wr z ⟨l.toArray⟩ t' 0 HI.out (by rw [HSZ.out]; exact hlt)
        rw [decode_place l t' hlt] at hnx
        have d1 := dec_ge _ (drop_ne l t' hlt)
        have d2 := dec_le _ (drop_ne l t' hlt)
        rw [List.length_drop] at d2
        have HRL := hid (rl_cons _ (drop_ne l t' hlt))
        obtain ⟨nn, hnn⟩ : ∃ nn, nn = (dec (l.drop t')).2 := ⟨_, rfl⟩
        obtain ⟨rn, hrn⟩ : ∃ rr, rr = (dec (l.drop t')).1 := ⟨_, rfl⟩
        have HMF := hid (show mfl f a 0 (rl l) = mfl f a (stp f a mv rn) (rl (l.drop (t' + nn))) by rw [HP.out, HRL.out, mfl_cons, List.drop_drop, ← hnn, ← hrn])
        rw [← hnn] at hnx d1 d2
        rw [← hrn] at hnx
        clear hnn hrn HRL HP
        obtain ⟨rr, hrr⟩ : ∃ rr : Int, rr = (rn : Int) := ⟨_, rfl⟩
        rw [← hrr] at hnx
        have HST := hid (show stp f a mv rn = if rr = 65039 ∧ f = 12 then max (max mv (rcel a rr)) 2 else max mv (rcel a rr) by rw [hrr]; rfl)
        clear hrr
        obtain ⟨w1, hw1⟩ : ∃ w1, w1 = wr.putObj z (.stringIter ⟨l.toArray⟩ (t' + nn)) := ⟨_, rfl⟩
        rw [← hw1] at hnx
        have HI1 := hid (show w1.heap[z]? = some (.stringIter ⟨l.toArray⟩ (t' + nn)) by rw [hw1]; exact World.putObj_heap_same hin)
        have HB1 := hid (show Below b w w1 by rw [hw1]; exact HB.out.trans ⟨rfl, rfl, rfl, by simp [World.putObj], fun j hj => World.putObj_heap_other (by omega)⟩)
        have hbx1 : w1.heap[b]? = some (.cells #[.int .i64 a, .int .i64 t, .int .i64 s] 36 (0, 0)) := by rw [hw1]; exact (World.putObj_heap_other (by omega)).trans HBX.out
        have HM := hid (show l.length - wr.iterPos z = l.length - t' by unfold World.iterPos; rw [HI.out])
        have hin1 : z < w1.heap.size := (Array.getElem?_eq_some_iff.1 HI1.out).1
        have c0 : w1.cell? ⟨b, 0, none⟩ = some (.int .i64 a) := by simp [World.cell?, hbx1]
        have c1 : w1.cell? ⟨b, 1, none⟩ = some (.int .i64 t) := by simp [World.cell?, hbx1]
        have c2 : w1.cell? ⟨b, 2, none⟩ = some (.int .i64 s) := by simp [World.cell?, hbx1]
        have HBX1 := hid hbx1
        clear hw1 HI HB HBX hbx1
        go_wp2_with fail
        refine (rcel_any rr a t s w1).mono ?_
        rintro e w3 ⟨rfl, be⟩
        have HB3 := hid (HB1.out.trans (be.mono (by have := HB1.out.size; omega)))
        have HI3 := hid (show w3.heap[z]? = some (.stringIter ⟨l.toArray⟩ (t' + nn)) from (be.block _ hin1).trans HI1.out)
        have HBX3 := hid ((be.block b (by omega)).trans HBX1.out)
        obtain ⟨c, hc⟩ : ∃ c, c = rcel a rr := ⟨_, rfl⟩
        rw [← hc] at HST ⊢
        clear be hc HB1 HI1 HBX1 hnx c0 c1 c2
        by_cases hq : rr = 65039
        · subst hq
          by_cases h12 : f = 12
          · have q3 : (f == 12) = true := beq_iff_eq.2 h12
            have HE := hid (show stp f a mv rn = max mv (max c 2) by rw [HST.out, if_pos ⟨rfl, h12⟩, Int.max_assoc])
            clear h12
            go_wp2
            go_roundw
            case rel => exact ⟨t' + nn, _, rfl, (by show _ = _; rw [HMF.out, HE.out]), HI3, HB3, HBX3⟩
            case measure =>
              rw [HM.out]
              unfold World.iterPos
              rw [HI3.out]
              simp only []
              omega
          · have q3 : (f == 12) = false := beq_eq_false_iff_ne.2 h12
            have HE := hid (show stp f a mv rn = max mv c by rw [HST.out, if_neg (fun h => h12 h.2)])
            clear h12
            go_wp2
            go_roundw
            case rel => exact ⟨t' + nn, _, rfl, (by show _ = _; rw [HMF.out, HE.out]), HI3, HB3, HBX3⟩
            case measure =>
              rw [HM.out]
              unfold World.iterPos
              rw [HI3.out]
              simp only []
              omega
        · have q3 : (rr == 65039) = false := beq_eq_false_iff_ne.2 hq
          have HE := hid (show stp f a mv rn = max mv c by rw [HST.out, if_neg (fun h => hq h.1)])
          clear hq
          go_wp2
          go_roundw
          case rel => exact ⟨t' + nn, _, rfl, (by show _ = _; rw [HMF.out, HE.out]), HI3, HB3, HBX3⟩
          case measure =>
            rw [HM.out]
            unfold World.iterPos
            rw [HI3.out]
            simp only []
            omega
      · have hnx := wnext_stop (P := Tryd.prog) wr z ⟨l.toArray⟩ t' 0 HI.out (by rw [HSZ.out]; exact hlt)
        have HE := hid (show mfl f a 0 (rl l) = mv by rw [HP.out, List.drop_of_length_le (by omega)]; rfl)
        go_wp2
        go_ret
        exact ⟨by rw [HV.out, HE.out]; rfl, by rw [← HBB.out]; exact HB.out⟩
  · have q1 : (f == 13) = false := beq_eq_false_iff_ne.2 h1
    clear h1 h13
    go_wp2
    obtain ⟨z, hz⟩ : ∃ z, z = w2.heap.size := ⟨_, rfl⟩
    have HIT0 := hid (World.iter_heap w2 ⟨l.toArray⟩ 0)
    have HBi := hid (show Below b w (w2.iter ⟨l.toArray⟩ 0) from HB2.out.trans ((Below.refl b w2).alloc (Nat.le_of_lt hbs) _))
    have HBXi := hid (show (w2.iter ⟨l.toArray⟩ 0).heap[b]? = some (.cells #[.int .i64 a, .int .i64 t, .int .i64 s] 36 (0, 0)) from (((Below.refl (b + 1) w2).alloc (show b + 1 ≤ w2.heap.size by omega) (.stringIter ⟨l.toArray⟩ 0)).block b (by omega)).trans HBX2.out)
    rw [← hz] at HIT0 hbs ⊢
    clear hz HB2 HBX2
    go_loopw [10] (fun m wr => ∃ (t' : Nat) (mv : Int), m = .int .i64 mv ∧ Hid (mfl f a 0 (rl l) = mfl f a mv (rl (l.drop t'))) ∧ Hid (wr.heap[z]? = some (.stringIter ⟨l.toArray⟩ t')) ∧ Hid (Below b w wr) ∧ Hid (wr.heap[b]? = some (.cells #[.int .i64 a, .int .i64 t, .int .i64 s] 36 (0, 0)))) (fun _ wr => l.length - wr.iterPos z)
    case atStart => exact ⟨0, 0, rfl, rfl, HIT0, HBi, HBXi⟩
    case round =>
      obtain ⟨t', mv, rfl, HP, HI, HB, HBX⟩ := hrel
      clear HIT0 HBi HBXi
      have hin : z < wr.heap.size := (Array.getElem?_eq_some_iff.1 HI.out).1
      by_cases hlt : t' < l.length
      · have hnx := wnext_at (P := Tryd.prog) wr z ⟨l.toArray⟩ t' 0 HI.out (by rw [HSZ.out]; exact hlt)
        rw [decode_place l t' hlt] at hnx
        have d1 := dec_ge _ (drop_ne l t' hlt)
        have d2 := dec_le _ (drop_ne l t' hlt)
        rw [List.length_drop] at d2
        have HRL := hid (rl_cons _ (drop_ne l t' hlt))
        obtain ⟨nn, hnn⟩ : ∃ nn, nn = (dec (l.drop t')).2 := ⟨_, rfl⟩
        obtain ⟨rn, hrn⟩ : ∃ rr, rr = (dec (l.drop t')).1 := ⟨_, rfl⟩
        have HMF := hid (show mfl f a 0 (rl l) = mfl f a (stp f a mv rn) (rl (l.drop (t' + nn))) by rw [HP.out, HRL.out, mfl_cons, List.drop_drop, ← hnn, ← hrn])
        rw [← hnn] at hnx d1 d2
        rw [← hrn] at hnx
        clear hnn hrn HRL HP
        obtain ⟨rr, hrr⟩ : ∃ rr : Int, rr = (rn : Int) := ⟨_, rfl⟩
        rw [← hrr] at hnx
        have HST := hid (show stp f a mv rn = if rr = 65039 ∧ f = 12 then max (max mv (rcel a rr)) 2 else max mv (rcel a rr) by rw [hrr]; rfl)
        clear hrr
        obtain ⟨w1, hw1⟩ : ∃ w1, w1 = wr.putObj z (.stringIter ⟨l.toArray⟩ (t' + nn)) := ⟨_, rfl⟩
        rw [← hw1] at hnx
        have HI1 := hid (show w1.heap[z]? = some (.stringIter ⟨l.toArray⟩ (t' + nn)) by rw [hw1]; exact World.putObj_heap_same hin)
        have HB1 := hid (show Below b w w1 by rw [hw1]; exact HB.out.trans ⟨rfl, rfl, rfl, by simp [World.putObj], fun j hj => World.putObj_heap_other (by omega)⟩)
        have hbx1 : w1.heap[b]? = some (.cells #[.int .i64 a, .int .i64 t, .int .i64 s] 36 (0, 0)) := by rw [hw1]; exact (World.putObj_heap_other (by omega)).trans HBX.out
        have HM := hid (show l.length - wr.iterPos z = l.length - t' by unfold World.iterPos; rw [HI.out])
        have hin1 : z < w1.heap.size := (Array.getElem?_eq_some_iff.1 HI1.out).1
        have c0 : w1.cell? ⟨b, 0, none⟩ = some (.int .i64 a) := by simp [World.cell?, hbx1]
        have c1 : w1.cell? ⟨b, 1, none⟩ = some (.int .i64 t) := by simp [World.cell?, hbx1]
        have c2 : w1.cell? ⟨b, 2, none⟩ = some (.int .i64 s) := by simp [World.cell?, hbx1]
        have HBX1 := hid hbx1
        clear hw1 HI HB HBX hbx1
        go_wp2_with fail
        refine (rcel_any rr a t s w1).mono ?_
        rintro e w3 ⟨rfl, be⟩
        have HB3 := hid (HB1.out.trans (be.mono (by have := HB1.out.size; omega)))
        have HI3 := hid (show w3.heap[z]? = some (.stringIter ⟨l.toArray⟩ (t' + nn)) from (be.block _ hin1).trans HI1.out)
        have HBX3 := hid ((be.block b (by omega)).trans HBX1.out)
        obtain ⟨c, hc⟩ : ∃ c, c = rcel a rr := ⟨_, rfl⟩
        rw [← hc] at HST ⊢
        clear be hc HB1 HI1 HBX1 hnx c0 c1 c2
        by_cases hq : rr = 65039
        · subst hq
          by_cases h12 : f = 12
          · have q3 : (f == 12) = true := beq_iff_eq.2 h12
            have HE := hid (show stp f a mv rn = max mv (max c 2) by rw [HST.out, if_pos ⟨rfl, h12⟩, Int.max_assoc])
            clear h12
            go_wp2
            go_roundw
            case rel => exact ⟨t' + nn, _, rfl, (by show _ = _; rw [HMF.out, HE.out]), HI3, HB3, HBX3⟩
            case measure =>
              rw [HM.out]
              unfold World.iterPos
              rw [HI3.out]
              simp only []
              omega
          · have q3 : (f == 12) = false := beq_eq_false_iff_ne.2 h12
            have HE := hid (show stp f a mv rn = max mv c by rw [HST.out, if_neg (fun h => h12 h.2)])
            clear h12
            go_wp2
            go_roundw
            case rel => exact ⟨t' + nn, _, rfl, (by show _ = _; rw [HMF.out, HE.out]), HI3, HB3, HBX3⟩
            case measure =>
              rw [HM.out]
              unfold World.iterPos
              rw [HI3.out]
              simp only []
              omega
        · have q3 : (rr == 65039) = false := beq_eq_false_iff_ne.2 hq
          have HE := hid (show stp f a mv rn = max mv c by rw [HST.out, if_neg (fun h => hq h.1)])
          clear hq
          go_wp2
          go_roundw
          case rel => exact ⟨t' + nn, _, rfl, (by show _ = _; rw [HMF.out, HE.out]), HI3, HB3, HBX3⟩
          case measure =>
            rw [HM.out]
            unfold World.iterPos
            rw [HI3.out]
            simp only []
            omega
      · have hnx := wnext_stop (P := Tryd.prog) wr z ⟨l.toArray⟩ t' 0 HI.out (by rw [HSZ.out]; exact hlt)
        have HE := hid (show mfl f a 0 (rl l) = mv by rw [HP.out, List.drop_of_length_le (by omega)]; rfl)
        go_wp2
        go_ret
        exact ⟨by rw [HV.out, HE.out]; rfl, by rw [← HBB.out]; exact HB.out⟩
end Go.Proofs.YtlfegdpclappiaaDoor
/- The contract of behind (package width): the column behind a letter. -/
namespace Go.Proofs.YtlfegdpclappiaaDoor
open Go.RowKit

theorem rcel_bd (a r : Int) (ha : a = 1 ∨ a = 2) : 0 ≤ rcel a r ∧ rcel a r ≤ 2 := by
  unfold rcel
  rcases ha with rfl | rfl <;> (repeat' split) <;> constructor <;> decide
theorem stp_bd (f a m : Int) (r : Nat) (ha : a = 1 ∨ a = 2) (h0 : 0 ≤ m) (h2 : m ≤ 2) : 0 ≤ stp f a m r ∧ stp f a m r ≤ 2 := by
  have := rcel_bd a r ha
  unfold stp
  split <;> omega
theorem mfl_bd (f a : Int) (ha : a = 1 ∨ a = 2) : ∀ (X : List (Nat × Nat)) (m : Int), 0 ≤ m → m ≤ 2 → 0 ≤ mfl f a m X ∧ mfl f a m X ≤ 2
  | [], m, h0, h2 => ⟨h0, h2⟩
  | x :: X, m, h0, h2 => by
    have := stp_bd f a m x.1 ha h0 h2
    rw [mfl_cons]
    exact mfl_bd f a ha X _ this.1 this.2
theorem lcR_bd (a : Int) (ha : a = 1 ∨ a = 2) (X : List (Nat × Nat)) : 0 ≤ lcR a X ∧ lcR a X ≤ 2 := by
  unfold lcR
  split
  · constructor <;> decide
  · exact mfl_bd _ a ha X 0 (by decide) (by decide)
/-- The column behind a letter. -/
def bhd (a t c : Int) (l : List UInt8) : Int := if elR (dec l).1 = true then 0 else if byt l 0 = 9 then (c / t + 1) * t else c + lcR a (rl l)
theorem tab_bd (t c : Int) (h1 : 1 ≤ t) (h2 : t ≤ 64) : c < (c / t + 1) * t ∧ (c / t + 1) * t ≤ c + 64 := by
  have e := Int.emod_add_mul_ediv c t
  have m1 := Int.emod_nonneg c (show t ≠ 0 by omega)
  have m2 := Int.emod_lt_of_pos c (show 0 < t by omega)
  rw [Int.add_mul, Int.one_mul, Int.mul_comm]
  omega
theorem bhd_bd (a t s c : Int) (l : List UInt8) (h : Okc a t s) (h0 : 0 ≤ c) : 0 ≤ bhd a t c l ∧ bhd a t c l ≤ c + 64 := by
  have h1 := lcR_bd a h.a (rl l)
  have h2 := tab_bd t c h.t1 h.t2
  unfold bhd
  split
  · omega
  split
  · omega
  · omega
theorem below_drN {B : Nat} {a w : World} (h : Below B a w) (n : Nat) : Below B a (w.drewN n) := h.trans ⟨rfl, rfl, rfl, Nat.le_refl _, fun _ _ => rfl⟩
set_option maxHeartbeats 4000000 in
theorem wbehind_any (l : List UInt8) (c a t s : Int) (w : World) (ht : TbW w) (hl : l.length ≤ 1000000000) (hne : 0 < l.length) (hk : Okc a t s) (h0 : 0 ≤ c) (hc : c ≤ 1000000000000) :
    Calls Tryd.prog 47 #[.string ⟨l.toArray⟩, .int .i64 c, .agg #[.int .i64 a, .int .i64 t, .int .i64 s]] w fun e w' => e = .returned (.int .i64 (bhd a t c l)) ∧ Below w.heap.size w w' := by
  have HT := hid ht
  have HK := hid hk
  have htb := tab_bd t c hk.t1 hk.t2
  have hlc := lcR_bd a hk.a (rl l)
  have hdv : 0 ≤ c / t ∧ c / t ≤ c := ⟨Int.ediv_nonneg h0 (by have := hk.t1; omega), Int.ediv_le_self _ h0⟩
  have ht1 := hk.t1
  have ht2 := hk.t2
  have hB0 : Below w.heap.size w (w.alloc (.cells #[.int .i64 a, .int .i64 t, .int .i64 s] 36)) := (Below.refl _ _).alloc (Nat.le_refl _) _
  have hbx : (w.alloc (.cells #[.int .i64 a, .int .i64 t, .int .i64 s] 36)).heap[w.heap.size]? = some (.cells #[.int .i64 a, .int .i64 t, .int .i64 s] 36 (0, 0)) := World.alloc_heap_new w _
  have hsz0 : (w.alloc (.cells #[.int .i64 a, .int .i64 t, .int .i64 s] 36)).heap.size = w.heap.size + 1 := by simp
  clear ht hk
  go_enter Tryd.func47, Tryd.ntmps47
  go_wp2_with fail
  obtain ⟨w0, hw0⟩ : ∃ w0, w0 = w.alloc (.cells #[.int .i64 a, .int .i64 t, .int .i64 s] 36) := ⟨_, rfl⟩
  rw [← hw0] at hB0 hbx hsz0 ⊢
  have HT0 := hid (HT.out.below hB0)
  clear hw0
  refine (wends_any l w0 HT0.out).mono ?_
  rintro e w1 ⟨rfl, be1⟩
  have HT1 := hid (HT0.out.below be1)
  have hbx1 := (be1.block w.heap.size (by omega)).trans hbx
  have HB1 := hid (hB0.trans (be1.mono hB0.size))
  obtain ⟨v, hv⟩ : ∃ v, v = elR (dec l).1 := ⟨_, rfl⟩
  have HV := hid hv
  rw [← hv]
  have hs1 : w.heap.size < w1.heap.size := (Array.getElem?_eq_some_iff.1 hbx1).1
  clear be1 hbx hB0 hsz0 hv HT0
  cases v with
  | true =>
    have HE := hid (show bhd a t c l = 0 by unfold bhd; rw [if_pos HV.out.symm])
    go_wp2
    go_ret
    exact ⟨by rw [HE.out]; rfl, HB1.out⟩
  | false =>
    have hnv : ¬ elR (dec l).1 = true := by rw [← HV.out]; simp
    go_wp2_with fail
    refine (wtab_any l w1 hne).mono ?_
    rintro e w2 ⟨rfl, hw2⟩
    obtain rfl := hw2.symm
    clear hw2
    have c0 : w1.cell? ⟨w.heap.size, 0, none⟩ = some (.int .i64 a) := by simp [World.cell?, hbx1]
    have c1 : w1.cell? ⟨w.heap.size, 1, none⟩ = some (.int .i64 t) := by simp [World.cell?, hbx1]
    have c2 : w1.cell? ⟨w.heap.size, 2, none⟩ = some (.int .i64 s) := by simp [World.cell?, hbx1]
    have HBX := hid hbx1
    by_cases h9 : byt l 0 = 9
    · have HE := hid (show bhd a t c l = (c / t + 1) * t by unfold bhd; rw [if_neg hnv, if_pos h9])
      have b9 : (byt l 0 == 9) = true := beq_iff_eq.2 h9
      rw [b9]
      clear h9 b9 hnv hbx1
      go_wp2
      go_quiet (fail)
      go_wp2
      go_ret
      exact ⟨by rw [HE.out]; rfl, below_drN HB1.out _⟩
    · have HE := hid (show bhd a t c l = c + lcR a (rl l) by unfold bhd; rw [if_neg hnv, if_neg h9])
      have b9 : (byt l 0 == 9) = false := beq_eq_false_iff_ne.2 h9
      rw [b9]
      clear h9 b9 hnv hbx1
      go_wp2_with fail
      refine (wletter_any l a t s w1 HT1.out hl).mono ?_
      rintro e w3 ⟨rfl, be3⟩
      have HB3 := hid (HB1.out.trans (be3.mono (by omega)))
      obtain ⟨k, hk⟩ : ∃ k, k = lcR a (rl l) := ⟨_, rfl⟩
      rw [← hk] at hlc HE ⊢
      clear hk be3 c0 c1 c2
      go_wp2
      go_ret
      exact ⟨by rw [HE.out]; rfl, HB3.out⟩
end Go.Proofs.YtlfegdpclappiaaDoor
/- The contract of Text (package width). -/
namespace Go.Proofs.YtlfegdpclappiaaDoor
open Go.RowKit Go.Shelf
attribute [local go_sem] Oper.semAt_some

/-- The column behind letters, by their places. -/
def colP (l : List UInt8) (a t c : Int) (xs : List (Nat × Nat)) : Int := xs.foldl (fun c x => bhd a t c ((l.take x.2).drop x.1)) c
theorem colP_snoc (l : List UInt8) (a t c : Int) (xs : List (Nat × Nat)) (x : Nat × Nat) : colP l a t c (xs ++ [x]) = bhd a t (colP l a t c xs) ((l.take x.2).drop x.1) := by simp [colP]
theorem colP_bd (l : List UInt8) (a t s : Int) (h : Okc a t s) : ∀ (xs : List (Nat × Nat)) (c : Int), 0 ≤ c → 0 ≤ colP l a t c xs ∧ colP l a t c xs ≤ c + 64 * xs.length
  | [], c, h0 => ⟨h0, by simp [colP]⟩
  | x :: xs, c, h0 => by
    have h1 := bhd_bd a t s c ((l.take x.2).drop x.1) h h0
    have h2 := colP_bd l a t s h xs _ h1.1
    have e : colP l a t c (x :: xs) = colP l a t (bhd a t c ((l.take x.2).drop x.1)) xs := rfl
    rw [e, List.length_cons]
    omega
theorem cells_from {β : Type} (n B : Nat) (v : Array Value) (t : TypeId) : OwnFrom n (fun (_ : β) W => W.heap[B]? = some (.cells v t (0, 0))) := fun _ A C row h hg hr => by
  refine (hg.block B (Array.getElem?_eq_some_iff.1 h).1 (fun e => ?_)).trans h
  obtain ⟨_, o, ho, hc⟩ := hr B e.symm
  rw [h] at ho
  cases ho
  cases hc
theorem ext_piece (l : List UInt8) (f t : Nat) (h : f ≤ t) : (⟨l.toArray⟩ : ByteArray).extract f t = ⟨((l.take t).drop f).toArray⟩ := by
  apply ByteArray.ext
  simp [ByteArray.data_extract, List.take_drop]
  rw [show f + (t - f) = t by omega]
set_option maxHeartbeats 4000000 in
set_option maxRecDepth 100000 in
theorem wtext_in (l : List UInt8) (a t s : Int) (w : World) (ht : TbW w) (hl : l.length ≤ 100000000) (hk : Okc a t s) :
    CallsIn Fence.wide 3 Tryd.prog 20 #[.string ⟨l.toArray⟩, .agg #[.int .i64 a, .int .i64 t, .int .i64 s]] w fun e W' => e = .returned (.int .i64 (colP l a t s (gpF l 0))) ∧ Below w.heap.size w W' := by
  have HT := hid ht
  have HK := hid hk
  have hs0 := hk.s1
  have hs1 := hk.s2
  have HCK := hid (show chkE a t s = 0 by unfold chkE; rw [if_pos ((okc_is a t s).2 hk)])
  clear ht hk
  obtain ⟨L, hL, hLl⟩ := gp_all l _ 0 (Nat.le_refl _)
  have HL := hid hL
  have hll : L.length ≤ 100000000 := by omega
  clear hL hLl
  refine callsIn_of_wp_marks Tryd.func20 rfl trivial ?_ rfl
  simp only [Tryd.ntmps20, List.size_toArray, List.length_cons, List.length_nil, Nat.reduceAdd, Nat.reduceSub, Array.replicate_succ, Array.replicate_zero, List.push_toArray, List.append_toArray, List.nil_append, List.cons_append]
  gi_wp2_with fail
  have b0 := (Boxed.new w 9 (.string ⟨l.toArray⟩)).alloc (.cells #[.int .i64 a, .int .i64 t, .int .i64 s] 36)
  have b1 : ((w.alloc (.cells #[.string ⟨l.toArray⟩] 9)).alloc (.cells #[.int .i64 a, .int .i64 t, .int .i64 s] 36)).heap[w.heap.size + 1]? = some (.cells #[.int .i64 a, .int .i64 t, .int .i64 s] 36 (0, 0)) := by
    have := World.alloc_heap_new (w.alloc (.cells #[.string ⟨l.toArray⟩] 9)) (.cells #[.int .i64 a, .int .i64 t, .int .i64 s] 36)
    rwa [World.size_alloc] at this
  have hsz0 : ((w.alloc (.cells #[.string ⟨l.toArray⟩] 9)).alloc (.cells #[.int .i64 a, .int .i64 t, .int .i64 s] 36)).heap.size = w.heap.size + 2 := by simp
  have hB0 : Below w.heap.size w ((w.alloc (.cells #[.string ⟨l.toArray⟩] 9)).alloc (.cells #[.int .i64 a, .int .i64 t, .int .i64 s] 36)) := ((Below.refl _ _).alloc (Nat.le_refl _) _).alloc (by simp) _
  obtain ⟨w0, hw0⟩ : ∃ w0, w0 = (w.alloc (.cells #[.string ⟨l.toArray⟩] 9)).alloc (.cells #[.int .i64 a, .int .i64 t, .int .i64 s] 36) := ⟨_, rfl⟩
  rw [← hw0] at b0 b1 hsz0 hB0 ⊢
  clear hw0
  refine ⟨trivial, (callsIn_wide.2 (wcheck_any a t s w0)).mono ?_⟩
  rintro e w1 ⟨rfl, be1⟩
  rw [HCK.out]
  have hb1 : Boxed w1 w.heap.size 9 (.string ⟨l.toArray⟩) := (be1.block _ (by omega)).trans b0
  have hb2 : w1.heap[w.heap.size + 1]? = some (.cells #[.int .i64 a, .int .i64 t, .int .i64 s] 36 (0, 0)) := (be1.block _ (by omega)).trans b1
  have hs1' := be1.size
  have HB1 := hid (hB0.trans (be1.mono hB0.size))
  have c0 := hb1.cell
  have c1 : w1.cell? ⟨w.heap.size + 1, 0, none⟩ = some (.int .i64 a) := by simp [World.cell?, hb2]
  have c2 : w1.cell? ⟨w.heap.size + 1, 1, none⟩ = some (.int .i64 t) := by simp [World.cell?, hb2]
  have c3 : w1.cell? ⟨w.heap.size + 1, 2, none⟩ = some (.int .i64 s) := by simp [World.cell?, hb2]
  have hlt1 : w.heap.size + 1 < w1.heap.size := by omega
  have hlt0 : w.heap.size < w1.heap.size := by omega
  have b3 := (Boxed.new w1 3 (.int .i64 s)).alloc (.cells #[.string ⟨l.toArray⟩] 9)
  have b4 := Boxed.new (w1.alloc (.cells #[.int .i64 s] 3)) 9 (.string ⟨l.toArray⟩)
  have hB3 : Below w1.heap.size w1 ((w1.alloc (.cells #[.int .i64 s] 3)).alloc (.cells #[.string ⟨l.toArray⟩] 9)) := ((Below.refl _ _).alloc (Nat.le_refl _) _).alloc (by simp) _
  have hs3 : ((w1.alloc (.cells #[.int .i64 s] 3)).alloc (.cells #[.string ⟨l.toArray⟩] 9)).heap.size = w1.heap.size + 2 := by simp
  rw [World.size_alloc] at b4
  clear be1 b0 b1 hB0 hs1' hsz0
  gi_wp2_with (refine ⟨trivial, ?_⟩; gi_at_call 23; refine (callsIn_wide.2 (geach_any l _)).mono ?_; rintro e w' ⟨rfl, rfl⟩)
  obtain ⟨w3, hw3⟩ : ∃ w3, w3 = (w1.alloc (.cells #[.int .i64 s] 3)).alloc (.cells #[.string ⟨l.toArray⟩] 9) := ⟨_, rfl⟩
  rw [← hw3] at b3 b4 hB3 hs3 ⊢
  have HT3 := hid (HT.out.below (HB1.out.trans (hB3.mono (by omega))))
  have HB0 := hid (show Boxed w3 w.heap.size 9 (.string ⟨l.toArray⟩) from (hB3.block _ hlt0).trans hb1)
  have HBC := hid ((hB3.block _ hlt1).trans hb2)
  have HBw := hid (HB1.out.trans (hB3.mono (by omega)))
  clear hw3 hb1 hb2 c0 c1 c2 c3 hB3 HB1
  obtain ⟨N, hN⟩ : ∃ N, N = w.heap.size := ⟨_, rfl⟩
  obtain ⟨M, hM⟩ : ∃ M, M = w1.heap.size := ⟨_, rfl⟩
  rw [← hM] at b3 b4 hs3 hlt0 hlt1 ⊢
  rw [← hN] at HB0 HBC HBw hlt0 hlt1 ⊢
  have HEa := hid (show WaAt (M + 1) l w3 from ⟨b4, HT3.out⟩)
  have h2 : 2 ≤ N := by rw [hN]; exact HT.out.two
  have HN := hid hN
  have HB3 := hid b3
  have HS3 := hid hs3
  clear hN hM b3 b4 hs3 HT3
  refine rfF (M + 1) (fun k => k = M) L (by omega) rfl HL.out HEa.out (by omega) rfl (fun k hk => by rintro (h | h) <;> omega)
    (fun pre W => (Boxed W N 9 (.string ⟨l.toArray⟩) ∧ W.heap[N + 1]? = some (.cells #[.int .i64 a, .int .i64 t, .int .i64 s] 36 (0, 0))) ∧ Boxed W M 3 (.int .i64 (colP l a t s (pre.map Pl.v))))
    (fun _ _ _ => False)
    (OwnFrom.and (OwnFrom.and (Own.from (boxed_own _ _ _) _) (cells_from _ _ _ _)) (Own.from (boxed_own _ _ (fun pre : List (Pl l) => Value.int .i64 (colP l a t s (pre.map Pl.v)))) _))
    (fun _ _ _ _ _ hs _ _ => hs)
    ⟨⟨HB0.out, HBC.out⟩, HB3.out⟩ 6 7 ?assign ?body ?done ?stop
  case assign =>
    intro lp x W K hK
    dsimp only [encP]
    gi_wp2
    simpa [fr, encP] using hK
  case body =>
    rintro lp pre x W ⟨⟨v0, v1⟩, v2⟩ hb he hlt
    have hx1 := x.lt
    have hx2 := x.le
    obtain ⟨f, hf⟩ : ∃ f, f = x.v.1 := ⟨_, rfl⟩
    obtain ⟨z, hx⟩ : ∃ z, z = x.v.2 := ⟨_, rfl⟩
    have hcb := colP_bd l a t s HK.out (pre.map Pl.v) s hs0
    rw [List.length_map] at hcb
    have HSN := hid (colP_snoc l a t s (pre.map Pl.v) x.v)
    obtain ⟨c, hc⟩ : ∃ c, c = colP l a t s (pre.map Pl.v) := ⟨_, rfl⟩
    rw [← hc] at hcb v2 HSN
    rw [← hf, ← hx] at HSN
    have HEX := hid (ext_piece l f z (by omega))
    have HLE := hid (show ((l.take z).drop f).length = z - f by rw [List.length_drop, List.length_take]; omega)
    dsimp only [fr, encP]
    rw [← hf, ← hx] at hx1 ⊢
    rw [← hx] at hx2
    clear hf hx hc
    have HE := hid he.tb
    have HV := hid (And.intro v0 (And.intro v1 v2))
    have c0 := v0.cell
    have c1 : W.cell? ⟨N + 1, 0, none⟩ = some (.int .i64 a) := by simp [World.cell?, v1]
    have c2 : W.cell? ⟨N + 1, 1, none⟩ = some (.int .i64 t) := by simp [World.cell?, v1]
    have c3 : W.cell? ⟨N + 1, 2, none⟩ = some (.int .i64 s) := by simp [World.cell?, v1]
    have c4 := v2.cell
    gi_wp2
    refine wpIn_region_mix lp _ [(0, true), (1, true), (2, true), (3, true), (4, true), (5, true), (6, false), (7, false)] (fun w' => w'.cell? ⟨N, 0, none⟩ = some (.string ⟨l.toArray⟩) ∧ w'.cell? ⟨M, 0, none⟩ = some (.int .i64 c) ∧ w'.cell? ⟨N + 1, 0, none⟩ = some (.int .i64 a) ∧ w'.cell? ⟨N + 1, 1, none⟩ = some (.int .i64 t) ∧ w'.cell? ⟨N + 1, 2, none⟩ = some (.int .i64 s)) (fun j => j == 7) (by kernel_rfl) (by kernel_rfl) (by kernel_rfl) ?hs rfl (by kernel_rfl) ⟨c0, c4, c1, c2, c3⟩ ?hm
    case hs =>
      intro j hj
      have e : j = 7 := by simpa using hj
      subst e
      decide
    iterate 3 (refine mix_free ?_ rfl (by kernel_rfl) (fun w' hS => ?_) ?_; (rotate_left; (obtain ⟨s1, s2, s3, s4, s5⟩ := hS; go_simp; with_reducible rfl); rotate_left))
    refine mix_free (.string ⟨((l.take z).drop f).toArray⟩) rfl (by kernel_rfl) (fun w' hS => ?_) ?_
    · go_simp
      rw [if_pos (by omega), HEX.out]
    iterate 2 (refine mix_free ?_ rfl (by kernel_rfl) (fun w' hS => ?_) ?_; (rotate_left; (obtain ⟨s1, s2, s3, s4, s5⟩ := hS; go_simp; with_reducible rfl); rotate_left))
    refine mix_go rfl (by kernel_rfl) fun KK hKK => ?_
    go_simp
    refine (wbehind_any ((l.take z).drop f) c a t s W.drew (HE.out.below ((Below.refl _ _).drew)) (by have := HLE.out; omega) (by have := HLE.out; omega) HK.out hcb.1 (by omega)).mono ?_
    rintro e W1 ⟨rfl, be⟩
    have HBS := hid (show BS (fun k => k = M) W W1 from (BS.drew W).trans (BS.below be))
    have HBE := hid (show Below W.heap.size W W1 from (Below.refl _ W).drew.trans be)
    have v2' : Boxed W1 M 3 (.int .i64 c) := (HBE.out.block M v2.lt).trans v2
    have hN1 : N + 1 < W.heap.size := (Array.getElem?_eq_some_iff.1 v1).1
    refine hKK _ _ (fun _ => ⟨(HBE.out.cell (p := ⟨N, 0, none⟩) v0.lt).trans c0, v2'.cell, (HBE.out.cell (p := ⟨N + 1, 0, none⟩) hN1).trans c1, (HBE.out.cell (p := ⟨N + 1, 1, none⟩) hN1).trans c2, (HBE.out.cell (p := ⟨N + 1, 2, none⟩) hN1).trans c3⟩) ?_
    rw [← HSN.out]
    clear hKK KK be c0 c1 c2 c3 c4 v0 v1 v2
    refine mix_go rfl (by kernel_rfl) fun KK hKK => ?_
    have f2 := v2'.frozen
    have c2 := v2'.cell
    go_simp
    refine hKK _ _ (fun h => by cases h) ?_
    clear hKK KK f2 c2
    refine mix_end (OnlyN.in ?_)
    gi_wp2
    refine ⟨HBS.out.trans (BS.set W1 M _ rfl), ⟨?_, ?_⟩, ?_⟩
    · have q : Boxed W1 N 9 (.string ⟨l.toArray⟩) := (HBE.out.block N HV.out.1.lt).trans HV.out.1
      exact q.other (B' := M) (by omega) _
    · exact ((grownBy_setCell' W1 M _).block (N + 1) (by have := HBE.out.size; have := (Array.getElem?_eq_some_iff.1 HV.out.2.1).1; omega) (by simp; omega)).trans ((HBE.out.block (N + 1) (Array.getElem?_eq_some_iff.1 HV.out.2.1).1).trans HV.out.2.1)
    · rw [List.map_append]
      exact v2'.set _
  case done =>
    rintro D W hD ⟨_, v2⟩ hb hK
    have hc := v2.cell
    rw [HL.out] at hc
    gi_wp2
    refine ⟨by simp, .inl ⟨_, _, rfl, run_takeDeferred hK, ?_⟩⟩
    refine ⟨_, results_tmp rfl _ _ _, rfl, ?_⟩
    have hs3 := HS3.out
    have hn := HN.out
    rw [← hn]
    exact (HBw.out.trans (hb.lower N (fun k hk => by omega) (by omega))).trans (belowK_b (w := w) (by omega) W D _ _ (by omega) hK rfl rfl)
  case stop =>
    rintro D c pre W _ _ h _
    exact h.elim
theorem wtext_any (l : List UInt8) (a t s : Int) (w : World) (ht : TbW w) (hl : l.length ≤ 100000000) (hk : Okc a t s) :
    Calls Tryd.prog 20 #[.string ⟨l.toArray⟩, .agg #[.int .i64 a, .int .i64 t, .int .i64 s]] w fun e W' => e = .returned (.int .i64 (colP l a t s (gpF l 0))) ∧ Below w.heap.size w W' := callsIn_wide.1 (wtext_in l a t s w ht hl hk)
end Go.Proofs.YtlfegdpclappiaaDoor
