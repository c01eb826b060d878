/- An index in memory (package places), and the contracts of what is asked of it by a count. -/
import Derived.Test.YtffbdnlfknomnaaDoorPcBel
namespace Go.Proofs.YtffbdnlfknomnaaDoor.Wt
open Go.RowKit Go.Shelf
attribute [local go_sem] spot_f0 spot_f1

theorem scale_f2 (a b c d : Value) (w : World) : (Instr.field 75 (.agg #[a, b, c, d]) 2).run Tryd.prog w = .ok c w := by kernel_rfl
attribute [local go_sem] scale_f2
/-- The cells of an index. -/
def ixc (l : List UInt8) (ku kr kl ke : Value) : Array Value := #[.string ⟨l.toArray⟩, .string ⟨l.toArray⟩, .func (.func 34) #[] #[], .int .i64 ((unitsL l).length : Nat), ku, .string ⟨l.toArray⟩, .func (.func 35) #[] #[], .int .i64 ((runesL l).length : Nat), kr, .string ⟨l.toArray⟩, .func (.func 36) #[] #[], .int .i64 ((lettersL l).length : Nat), kl, .string ⟨l.toArray⟩, .func (.func 37) #[] #[], .int .i64 ((endsL l).length : Nat), ke]
/-- An index. -/
structure IxAt (w : World) (X : Nat) (l : List UInt8) (ku kr kl ke : Value) : Prop where
  cb : Cb w X (ixc l ku kr kl ke) 78
  ju : Kpd w 0 ku (kpt l 0 (unitsL l))
  jr : Kpd w 0 kr (kpt l 0 (runesL l))
  jl : Kpd w 0 kl (kpt l 0 (lettersL l))
  je : Kpd w 0 ke (kpt l 0 (endsL l))
theorem IxAt.below {w w' : World} {X : Nat} {l : List UInt8} {ku kr kl ke : Value} (h : IxAt w X l ku kr kl ke) (hb : Below w.heap.size w w') : IxAt w' X l ku kr kl ke :=
  ⟨h.cb.below hb, h.ju.below hb, h.jr.below hb, h.jl.below hb, h.je.below hb⟩
theorem IxAt.dr {w : World} {X : Nat} {l : List UInt8} {ku kr kl ke : Value} (h : IxAt w X l ku kr kl ke) : IxAt w.drew X l ku kr kl ke := h.below ((Below.refl _ _).drew)
theorem TbW.dr {w : World} (h : TbW w) : TbW w.drew := ⟨h.tabs, h.two⟩
/-- A kept slice. -/
theorem Kpd.slice {w : World} {lo : Nat} {kv : Value} {o : Option (Nat × Nat)} (h : Kpd w lo kv o) : ∃ sg sl sc, kv = .slice sg sl sc := by
  cases o with
  | none => exact ⟨none, 0, 0, h⟩
  | some y => obtain ⟨g, c, h1, _⟩ := h; exact ⟨_, _, _, h1⟩
set_option maxHeartbeats 2000000 in
theorem new_any (l : List UInt8) (w : World) (ht : TbW w) (hl : l.length ≤ 100) :
    Calls Tryd.prog 12 #[.string ⟨l.toArray⟩] w fun e w' => ∃ X ku kr kl ke, e = .returned (.pointer (some ⟨X, 0, none⟩)) ∧ IxAt w' X l ku kr kl ke ∧ Below w.heap.size w w' := by
  have HT := hid ht
  clear ht
  go_enter Tryd.func12, Tryd.ntmps12
  go_wp2_with fail
  refine (newScale_any _ _ _ units_cnt l w HT.out hl).mono ?_
  rintro e w1 ⟨ku, rfl, hk1, be1⟩
  have HT1 := hid (HT.out.below be1)
  have HK1 := hid hk1
  have HB1 := hid be1
  obtain ⟨sg1, sl1, sc1, rfl⟩ := hk1.slice
  clear hk1 be1
  go_wp2_with fail
  refine (newScale_any _ _ _ runes_cnt l w1 HT1.out hl).mono ?_
  rintro e w2 ⟨kr, rfl, hk2, be2⟩
  have HT2 := hid (HT1.out.below be2)
  have HK2 := hid hk2
  have HB2 := hid be2
  obtain ⟨sg2, sl2, sc2, rfl⟩ := hk2.slice
  clear hk2 be2
  go_wp2_with fail
  refine (newScale_any _ _ _ letters_cnt l w2 HT2.out hl).mono ?_
  rintro e w3 ⟨kl, rfl, hk3, be3⟩
  have HT3 := hid (HT2.out.below be3)
  have HK3 := hid hk3
  have HB3 := hid be3
  obtain ⟨sg3, sl3, sc3, rfl⟩ := hk3.slice
  clear hk3 be3
  go_wp2_with fail
  refine (newScale_any _ _ _ ends_cnt l w3 HT3.out hl).mono ?_
  rintro e w4 ⟨ke, rfl, hk4, be4⟩
  have HT4 := hid (HT3.out.below be4)
  have HK4 := hid hk4
  have HB4 := hid be4
  obtain ⟨sg4, sl4, sc4, rfl⟩ := hk4.slice
  clear hk4 be4
  go_wp2
  go_ret
  have hA : Below w4.heap.size w4 (w4.alloc (.cells (ixc l (.slice sg1 sl1 sc1) (.slice sg2 sl2 sc2) (.slice sg3 sl3 sc3) (.slice sg4 sl4 sc4)) 78)) := (Below.refl _ _).alloc (Nat.le_refl _) _
  have z3 := HB4.out
  have z2 := HB3.out
  have z1 := HB2.out
  refine ⟨w4.heap.size, .slice sg1 sl1 sc1, .slice sg2 sl2 sc2, .slice sg3 sl3 sc3, .slice sg4 sl4 sc4, rfl, ⟨Cb.new w4 _ _, ?_, ?_, ?_, ?_⟩, ?_⟩
  · exact ((((HK1.out.below z1).below z2).below z3).below hA).low (Nat.zero_le _)
  · exact (((HK2.out.below z2).below z3).below hA).low (Nat.zero_le _)
  · exact ((HK3.out.below z3).below hA).low (Nat.zero_le _)
  · exact (HK4.out.below hA).low (Nat.zero_le _)
  · have y1 := HB1.out.size
    have y2 := HB2.out.size
    have y3 := HB3.out.size
    have y4 := HB4.out.size
    exact (((HB1.out.trans (HB2.out.mono (by omega))).trans (HB3.out.mono (by omega))).trans (HB4.out.mono (by omega))).trans (hA.mono (by omega))
theorem IxAt.cu {w : World} {X : Nat} {l : List UInt8} {ku kr kl ke : Value} (h : IxAt w X l ku kr kl ke) : w.cell? ⟨X, 1, none⟩ = some (.string ⟨l.toArray⟩) ∧ w.cell? ⟨X, 2, none⟩ = some (.func (.func 34) #[] #[]) ∧ w.cell? ⟨X, 3, none⟩ = some (.int .i64 ((unitsL l).length : Nat)) ∧ w.cell? ⟨X, 4, none⟩ = some ku :=
  ⟨h.cb.cell 1, h.cb.cell 2, h.cb.cell 3, h.cb.cell 4⟩
theorem IxAt.cr {w : World} {X : Nat} {l : List UInt8} {ku kr kl ke : Value} (h : IxAt w X l ku kr kl ke) : w.cell? ⟨X, 5, none⟩ = some (.string ⟨l.toArray⟩) ∧ w.cell? ⟨X, 6, none⟩ = some (.func (.func 35) #[] #[]) ∧ w.cell? ⟨X, 7, none⟩ = some (.int .i64 ((runesL l).length : Nat)) ∧ w.cell? ⟨X, 8, none⟩ = some kr :=
  ⟨h.cb.cell 5, h.cb.cell 6, h.cb.cell 7, h.cb.cell 8⟩
theorem IxAt.cl {w : World} {X : Nat} {l : List UInt8} {ku kr kl ke : Value} (h : IxAt w X l ku kr kl ke) : w.cell? ⟨X, 9, none⟩ = some (.string ⟨l.toArray⟩) ∧ w.cell? ⟨X, 10, none⟩ = some (.func (.func 36) #[] #[]) ∧ w.cell? ⟨X, 11, none⟩ = some (.int .i64 ((lettersL l).length : Nat)) ∧ w.cell? ⟨X, 12, none⟩ = some kl :=
  ⟨h.cb.cell 9, h.cb.cell 10, h.cb.cell 11, h.cb.cell 12⟩
theorem IxAt.ce {w : World} {X : Nat} {l : List UInt8} {ku kr kl ke : Value} (h : IxAt w X l ku kr kl ke) : w.cell? ⟨X, 13, none⟩ = some (.string ⟨l.toArray⟩) ∧ w.cell? ⟨X, 14, none⟩ = some (.func (.func 37) #[] #[]) ∧ w.cell? ⟨X, 15, none⟩ = some (.int .i64 ((endsL l).length : Nat)) ∧ w.cell? ⟨X, 16, none⟩ = some ke :=
  ⟨h.cb.cell 13, h.cb.cell 14, h.cb.cell 15, h.cb.cell 16⟩
theorem IxAt.ct {w : World} {X : Nat} {l : List UInt8} {ku kr kl ke : Value} (h : IxAt w X l ku kr kl ke) : w.cell? ⟨X, 0, none⟩ = some (.string ⟨l.toArray⟩) := h.cb.cell 0
set_option maxHeartbeats 1000000 in
theorem scale0_any (X : Nat) (l : List UInt8) (ku kr kl ke : Value) (w : World) (h : IxAt w X l ku kr kl ke) :
    Calls Tryd.prog 41 #[.pointer (some ⟨X, 0, none⟩), .int .i64 0] w fun e w' => e = .returned (.agg #[.string ⟨l.toArray⟩, .func (.func 34) #[] #[], .int .i64 ((unitsL l).length : Nat), ku]) ∧ Below w.heap.size w w' := by
  have hlt : X < w.heap.size := h.cb.lt
  have HA := hid (h.cb.alloc (.cells #[.string ⟨#[]⟩, .nilFunc, .int .i64 0, .slice none 0 0] 75))
  have h' : IxAt (w.alloc (.cells #[.string ⟨#[]⟩, .nilFunc, .int .i64 0, .slice none 0 0] 75)) X l ku kr kl ke := h.below ((Below.refl _ _).alloc (Nat.le_refl _) _)
  obtain ⟨c0, c1, c2, c3⟩ := h'.cu
  obtain ⟨sg, sl, sc, rfl⟩ := h.ju.slice
  obtain ⟨n, hn⟩ : ∃ n, n = (unitsL l).length := ⟨_, rfl⟩
  rw [← hn] at c2 ⊢
  clear h h' HA hn
  go_enter Tryd.func41, Tryd.ntmps41
  go_wp2
  refine bodyPost_ret (results_cell_row rfl _ _ w.heap.size 75 #[.string ⟨l.toArray⟩, .func (.func 34) #[] #[], .int .i64 (n : Nat), .slice sg sl sc] (0, 0) _ rfl (World.alloc_heap_new w _) Tryd.underlying75 rfl (by kernel_rfl)) rfl ?_
  exact ⟨rfl, (Below.refl _ _).alloc (Nat.le_refl _) _⟩
theorem len0_any (X : Nat) (l : List UInt8) (ku kr kl ke : Value) (w : World) (h : IxAt w X l ku kr kl ke) :
    Calls Tryd.prog 15 #[.pointer (some ⟨X, 0, none⟩), .int .i64 0] w fun e w' => e = .returned (.int .i64 ((unitsL l).length : Nat)) ∧ Below w.heap.size w w' := by
  have HI := hid h
  clear h
  go_enter Tryd.func15, Tryd.ntmps15
  go_wp2_with fail
  refine (scale0_any X l ku kr kl ke w HI.out).mono ?_
  rintro e w1 ⟨rfl, be⟩
  have HB := hid be
  clear be
  go_wp2
  go_ret
  exact ⟨rfl, HB.out⟩
theorem to0_any (X : Nat) (l : List UInt8) (ku kr kl ke : Value) (w : World) (h : IxAt w X l ku kr kl ke) (z : Int) (ht : TbW w) (hl : l.length ≤ 100) :
    Calls Tryd.prog 16 #[.pointer (some ⟨X, 0, none⟩), .int .i64 0, .int .i64 z] w fun e w' => e = .returned (.int .i64 (cntB (unitsL l) z : Nat)) ∧ Below w.heap.size w w' := by
  have HI := hid h
  have HT := hid ht
  clear h ht
  go_enter Tryd.func16, Tryd.ntmps16
  go_wp2_with fail
  refine (scale0_any X l ku kr kl ke w HI.out).mono ?_
  rintro e w1 ⟨rfl, be⟩
  have HB := hid be
  clear be
  go_wp2_with fail
  refine (below_any _ _ _ units_cnt l 0 ku z w1 (HT.out.below HB.out) hl (HI.out.ju.below HB.out)).mono ?_
  rintro e w2 ⟨rfl, be2⟩
  have HB2 := hid (HB.out.trans (be2.mono HB.out.size))
  clear be2
  go_wp2
  go_ret
  exact ⟨rfl, HB2.out⟩
theorem from0_any (X : Nat) (l : List UInt8) (ku kr kl ke : Value) (w : World) (h : IxAt w X l ku kr kl ke) (z : Int) (ht : TbW w) (hl : l.length ≤ 100) :
    Calls Tryd.prog 17 #[.pointer (some ⟨X, 0, none⟩), .int .i64 0, .int .i64 z] w fun e w' => e = .returned (.int .i64 (plcB (unitsL l) z l.length : Nat)) ∧ Below w.heap.size w w' := by
  have HI := hid h
  have HT := hid ht
  clear h ht
  go_enter Tryd.func17, Tryd.ntmps17
  go_wp2_with fail
  refine (scale0_any X l ku kr kl ke w HI.out).mono ?_
  rintro e w1 ⟨rfl, be⟩
  have HB := hid be
  clear be
  go_wp2_with fail
  refine (place_any _ _ _ units_cnt l 0 ku z w1 (HT.out.below HB.out) hl (HI.out.ju.below HB.out)).mono ?_
  rintro e w2 ⟨rfl, be2⟩
  have HB2 := hid (HB.out.trans (be2.mono HB.out.size))
  clear be2
  go_wp2
  go_ret
  exact ⟨rfl, HB2.out⟩
set_option maxHeartbeats 1000000 in
theorem scale1_any (X : Nat) (l : List UInt8) (ku kr kl ke : Value) (w : World) (h : IxAt w X l ku kr kl ke) :
    Calls Tryd.prog 41 #[.pointer (some ⟨X, 0, none⟩), .int .i64 1] w fun e w' => e = .returned (.agg #[.string ⟨l.toArray⟩, .func (.func 35) #[] #[], .int .i64 ((runesL l).length : Nat), kr]) ∧ Below w.heap.size w w' := by
  have hlt : X < w.heap.size := h.cb.lt
  have HA := hid (h.cb.alloc (.cells #[.string ⟨#[]⟩, .nilFunc, .int .i64 0, .slice none 0 0] 75))
  have h' : IxAt (w.alloc (.cells #[.string ⟨#[]⟩, .nilFunc, .int .i64 0, .slice none 0 0] 75)) X l ku kr kl ke := h.below ((Below.refl _ _).alloc (Nat.le_refl _) _)
  obtain ⟨c0, c1, c2, c3⟩ := h'.cr
  obtain ⟨sg, sl, sc, rfl⟩ := h.jr.slice
  obtain ⟨n, hn⟩ : ∃ n, n = (runesL l).length := ⟨_, rfl⟩
  rw [← hn] at c2 ⊢
  clear h h' HA hn
  go_enter Tryd.func41, Tryd.ntmps41
  go_wp2
  refine bodyPost_ret (results_cell_row rfl _ _ w.heap.size 75 #[.string ⟨l.toArray⟩, .func (.func 35) #[] #[], .int .i64 (n : Nat), .slice sg sl sc] (0, 0) _ rfl (World.alloc_heap_new w _) Tryd.underlying75 rfl (by kernel_rfl)) rfl ?_
  exact ⟨rfl, (Below.refl _ _).alloc (Nat.le_refl _) _⟩
theorem len1_any (X : Nat) (l : List UInt8) (ku kr kl ke : Value) (w : World) (h : IxAt w X l ku kr kl ke) :
    Calls Tryd.prog 15 #[.pointer (some ⟨X, 0, none⟩), .int .i64 1] w fun e w' => e = .returned (.int .i64 ((runesL l).length : Nat)) ∧ Below w.heap.size w w' := by
  have HI := hid h
  clear h
  go_enter Tryd.func15, Tryd.ntmps15
  go_wp2_with fail
  refine (scale1_any X l ku kr kl ke w HI.out).mono ?_
  rintro e w1 ⟨rfl, be⟩
  have HB := hid be
  clear be
  go_wp2
  go_ret
  exact ⟨rfl, HB.out⟩
theorem to1_any (X : Nat) (l : List UInt8) (ku kr kl ke : Value) (w : World) (h : IxAt w X l ku kr kl ke) (z : Int) (ht : TbW w) (hl : l.length ≤ 100) :
    Calls Tryd.prog 16 #[.pointer (some ⟨X, 0, none⟩), .int .i64 1, .int .i64 z] w fun e w' => e = .returned (.int .i64 (cntB (runesL l) z : Nat)) ∧ Below w.heap.size w w' := by
  have HI := hid h
  have HT := hid ht
  clear h ht
  go_enter Tryd.func16, Tryd.ntmps16
  go_wp2_with fail
  refine (scale1_any X l ku kr kl ke w HI.out).mono ?_
  rintro e w1 ⟨rfl, be⟩
  have HB := hid be
  clear be
  go_wp2_with fail
  refine (below_any _ _ _ runes_cnt l 0 kr z w1 (HT.out.below HB.out) hl (HI.out.jr.below HB.out)).mono ?_
  rintro e w2 ⟨rfl, be2⟩
  have HB2 := hid (HB.out.trans (be2.mono HB.out.size))
  clear be2
  go_wp2
  go_ret
  exact ⟨rfl, HB2.out⟩
theorem from1_any (X : Nat) (l : List UInt8) (ku kr kl ke : Value) (w : World) (h : IxAt w X l ku kr kl ke) (z : Int) (ht : TbW w) (hl : l.length ≤ 100) :
    Calls Tryd.prog 17 #[.pointer (some ⟨X, 0, none⟩), .int .i64 1, .int .i64 z] w fun e w' => e = .returned (.int .i64 (plcB (runesL l) z l.length : Nat)) ∧ Below w.heap.size w w' := by
  have HI := hid h
  have HT := hid ht
  clear h ht
  go_enter Tryd.func17, Tryd.ntmps17
  go_wp2_with fail
  refine (scale1_any X l ku kr kl ke w HI.out).mono ?_
  rintro e w1 ⟨rfl, be⟩
  have HB := hid be
  clear be
  go_wp2_with fail
  refine (place_any _ _ _ runes_cnt l 0 kr z w1 (HT.out.below HB.out) hl (HI.out.jr.below HB.out)).mono ?_
  rintro e w2 ⟨rfl, be2⟩
  have HB2 := hid (HB.out.trans (be2.mono HB.out.size))
  clear be2
  go_wp2
  go_ret
  exact ⟨rfl, HB2.out⟩
set_option maxHeartbeats 1000000 in
theorem scale3_any (X : Nat) (l : List UInt8) (ku kr kl ke : Value) (w : World) (h : IxAt w X l ku kr kl ke) :
    Calls Tryd.prog 41 #[.pointer (some ⟨X, 0, none⟩), .int .i64 3] w fun e w' => e = .returned (.agg #[.string ⟨l.toArray⟩, .func (.func 36) #[] #[], .int .i64 ((lettersL l).length : Nat), kl]) ∧ Below w.heap.size w w' := by
  have hlt : X < w.heap.size := h.cb.lt
  have HA := hid (h.cb.alloc (.cells #[.string ⟨#[]⟩, .nilFunc, .int .i64 0, .slice none 0 0] 75))
  have h' : IxAt (w.alloc (.cells #[.string ⟨#[]⟩, .nilFunc, .int .i64 0, .slice none 0 0] 75)) X l ku kr kl ke := h.below ((Below.refl _ _).alloc (Nat.le_refl _) _)
  obtain ⟨c0, c1, c2, c3⟩ := h'.cl
  obtain ⟨sg, sl, sc, rfl⟩ := h.jl.slice
  obtain ⟨n, hn⟩ : ∃ n, n = (lettersL l).length := ⟨_, rfl⟩
  rw [← hn] at c2 ⊢
  clear h h' HA hn
  go_enter Tryd.func41, Tryd.ntmps41
  go_wp2
  refine bodyPost_ret (results_cell_row rfl _ _ w.heap.size 75 #[.string ⟨l.toArray⟩, .func (.func 36) #[] #[], .int .i64 (n : Nat), .slice sg sl sc] (0, 0) _ rfl (World.alloc_heap_new w _) Tryd.underlying75 rfl (by kernel_rfl)) rfl ?_
  exact ⟨rfl, (Below.refl _ _).alloc (Nat.le_refl _) _⟩
theorem len3_any (X : Nat) (l : List UInt8) (ku kr kl ke : Value) (w : World) (h : IxAt w X l ku kr kl ke) :
    Calls Tryd.prog 15 #[.pointer (some ⟨X, 0, none⟩), .int .i64 3] w fun e w' => e = .returned (.int .i64 ((lettersL l).length : Nat)) ∧ Below w.heap.size w w' := by
  have HI := hid h
  clear h
  go_enter Tryd.func15, Tryd.ntmps15
  go_wp2_with fail
  refine (scale3_any X l ku kr kl ke w HI.out).mono ?_
  rintro e w1 ⟨rfl, be⟩
  have HB := hid be
  clear be
  go_wp2
  go_ret
  exact ⟨rfl, HB.out⟩
theorem to3_any (X : Nat) (l : List UInt8) (ku kr kl ke : Value) (w : World) (h : IxAt w X l ku kr kl ke) (z : Int) (ht : TbW w) (hl : l.length ≤ 100) :
    Calls Tryd.prog 16 #[.pointer (some ⟨X, 0, none⟩), .int .i64 3, .int .i64 z] w fun e w' => e = .returned (.int .i64 (cntB (lettersL l) z : Nat)) ∧ Below w.heap.size w w' := by
  have HI := hid h
  have HT := hid ht
  clear h ht
  go_enter Tryd.func16, Tryd.ntmps16
  go_wp2_with fail
  refine (scale3_any X l ku kr kl ke w HI.out).mono ?_
  rintro e w1 ⟨rfl, be⟩
  have HB := hid be
  clear be
  go_wp2_with fail
  refine (below_any _ _ _ letters_cnt l 0 kl z w1 (HT.out.below HB.out) hl (HI.out.jl.below HB.out)).mono ?_
  rintro e w2 ⟨rfl, be2⟩
  have HB2 := hid (HB.out.trans (be2.mono HB.out.size))
  clear be2
  go_wp2
  go_ret
  exact ⟨rfl, HB2.out⟩
theorem from3_any (X : Nat) (l : List UInt8) (ku kr kl ke : Value) (w : World) (h : IxAt w X l ku kr kl ke) (z : Int) (ht : TbW w) (hl : l.length ≤ 100) :
    Calls Tryd.prog 17 #[.pointer (some ⟨X, 0, none⟩), .int .i64 3, .int .i64 z] w fun e w' => e = .returned (.int .i64 (plcB (lettersL l) z l.length : Nat)) ∧ Below w.heap.size w w' := by
  have HI := hid h
  have HT := hid ht
  clear h ht
  go_enter Tryd.func17, Tryd.ntmps17
  go_wp2_with fail
  refine (scale3_any X l ku kr kl ke w HI.out).mono ?_
  rintro e w1 ⟨rfl, be⟩
  have HB := hid be
  clear be
  go_wp2_with fail
  refine (place_any _ _ _ letters_cnt l 0 kl z w1 (HT.out.below HB.out) hl (HI.out.jl.below HB.out)).mono ?_
  rintro e w2 ⟨rfl, be2⟩
  have HB2 := hid (HB.out.trans (be2.mono HB.out.size))
  clear be2
  go_wp2
  go_ret
  exact ⟨rfl, HB2.out⟩
theorem len2_any (X : Nat) (l : List UInt8) (ku kr kl ke : Value) (w : World) (h : IxAt w X l ku kr kl ke) :
    Calls Tryd.prog 15 #[.pointer (some ⟨X, 0, none⟩), .int .i64 2] w fun e w' => e = .returned (.int .i64 l.length) ∧ w' = w := by
  have c0 := h.ct
  clear h
  go_enter Tryd.func15, Tryd.ntmps15
  go_wp2
  go_ret
  exact ⟨rfl, rfl⟩
theorem within_any (X : Nat) (l : List UInt8) (ku kr kl ke : Value) (w : World) (h : IxAt w X l ku kr kl ke) (z : Int) (h0 : 0 ≤ z) (h1 : z ≤ l.length) :
    Calls Tryd.prog 42 #[.pointer (some ⟨X, 0, none⟩), .int .i64 z] w fun e w' => e = .returned (.int .i64 z) ∧ w' = w := by
  have c0 := h.ct
  have hmx : max z 0 = z := by omega
  have hmn : min z (l.length : Int) = z := by omega
  clear h
  go_enter Tryd.func42, Tryd.ntmps42
  go_wp2
  go_ret
  exact ⟨rfl, rfl⟩
theorem to2_any (X : Nat) (l : List UInt8) (ku kr kl ke : Value) (w : World) (h : IxAt w X l ku kr kl ke) (z : Int) (h0 : 0 ≤ z) (h1 : z ≤ l.length) :
    Calls Tryd.prog 16 #[.pointer (some ⟨X, 0, none⟩), .int .i64 2, .int .i64 z] w fun e w' => e = .returned (.int .i64 z) ∧ w' = w := by
  have HI := hid h
  clear h
  go_enter Tryd.func16, Tryd.ntmps16
  go_wp2_with fail
  refine (within_any X l ku kr kl ke w HI.out z h0 h1).mono ?_
  rintro e w1 ⟨rfl, hw1⟩
  obtain rfl := hw1.symm
  clear hw1
  go_wp2
  go_ret
  exact ⟨rfl, rfl⟩
theorem from2_any (X : Nat) (l : List UInt8) (ku kr kl ke : Value) (w : World) (h : IxAt w X l ku kr kl ke) (z : Int) (h0 : 0 ≤ z) (h1 : z ≤ l.length) :
    Calls Tryd.prog 17 #[.pointer (some ⟨X, 0, none⟩), .int .i64 2, .int .i64 z] w fun e w' => e = .returned (.int .i64 z) ∧ w' = w := by
  have HI := hid h
  clear h
  go_enter Tryd.func17, Tryd.ntmps17
  go_wp2_with fail
  refine (within_any X l ku kr kl ke w HI.out z h0 h1).mono ?_
  rintro e w1 ⟨rfl, hw1⟩
  obtain rfl := hw1.symm
  clear hw1
  go_wp2
  go_ret
  exact ⟨rfl, rfl⟩
theorem lines_any (X : Nat) (l : List UInt8) (ku kr kl ke : Value) (w : World) (h : IxAt w X l ku kr kl ke) (hl : (endsL l).length ≤ 1000) :
    Calls Tryd.prog 18 #[.pointer (some ⟨X, 0, none⟩)] w fun e w' => e = .returned (.int .i64 (((endsL l).length : Int) + 1)) ∧ w' = w := by
  obtain ⟨c0, c1, c2, c3⟩ := h.ce
  obtain ⟨n, hn⟩ : ∃ n, n = (endsL l).length := ⟨_, rfl⟩
  rw [← hn] at c2 hl ⊢
  clear h c0 c1 c3 hn
  go_enter Tryd.func18, Tryd.ntmps18
  go_wp2
  go_ret
  exact ⟨rfl, rfl⟩
set_option maxHeartbeats 2000000 in
theorem lettersIn_any (X : Nat) (l : List UInt8) (ku kr kl ke : Value) (w : World) (h : IxAt w X l ku kr kl ke) (f t : Int) (ht : TbW w) (hl : l.length ≤ 100) :
    Calls Tryd.prog 45 #[.pointer (some ⟨X, 0, none⟩), .int .i64 f, .int .i64 t] w fun e w' => e = .returned (.int .i64 ((cntB (lettersL l) t : Int) - cntB (lettersL l) f)) ∧ Below w.heap.size w w' := by
  have HI := hid h
  have HT := hid ht
  have ht1 : cntB (lettersL l) t ≤ 100 := by
    have := List.length_filter_le (fun (q : Nat) => decide ((q : Int) < t)) (lettersL l)
    have h2 := rise_len (letters_scl.rise l) (letters_scl.lt l)
    unfold cntB; omega
  have hf1 : cntB (lettersL l) f ≤ 100 := by
    have := List.length_filter_le (fun (q : Nat) => decide ((q : Int) < f)) (lettersL l)
    have h2 := rise_len (letters_scl.rise l) (letters_scl.lt l)
    unfold cntB; omega
  obtain ⟨sg, sl, sc, rfl⟩ := h.jl.slice
  obtain ⟨a, ha⟩ : ∃ a, a = cntB (lettersL l) t := ⟨_, rfl⟩
  obtain ⟨b, hb⟩ : ∃ b, b = cntB (lettersL l) f := ⟨_, rfl⟩
  rw [← ha] at ht1 ⊢
  rw [← hb] at hf1 ⊢
  have HA := hid ha
  have HBb := hid hb
  have hwr : IntKind.i64.wrap ((a : Int) - b) = (a : Int) - b := by rw [IntKind.wrap_i64]; omega
  clear h ht ha hb
  go_enter Tryd.func45, Tryd.ntmps45
  go_wp2_with fail
  refine wp_region_mix [(0, true), (1, true), (2, true), (3, true), (4, true), (6, true), (7, true), (8, true), (9, true), (10, true), (5, false), (11, false), (12, true), (13, true)] (fun w' => IxAt w' X l ku kr (.slice sg sl sc) ke) (fun _ => false) (by kernel_rfl) (by kernel_rfl) (fun j hj => by cases hj) rfl (by kernel_rfl) HI.out.dr ?_
  iterate 10 (refine mix_free ?_ rfl (by kernel_rfl) (fun w' hS => ?_) ?_; (rotate_left; (obtain ⟨z0, z1, z2, z3⟩ := hS.cl; go_simp; with_reducible rfl); rotate_left))
  refine mix_go rfl (by kernel_rfl) fun KK hKK => ?_
  go_simp
  refine (below_any _ _ _ letters_cnt l 0 (.slice sg sl sc) t w.drew HT.out.dr hl HI.out.dr.jl).mono ?_
  rintro e w1 ⟨rfl, be⟩
  have HB := hid (show Below w.heap.size w w1 from ((Below.refl _ _).drew).trans be)
  rw [← HA.out]
  refine hKK _ _ (fun _ => HI.out.below HB.out) ?_
  clear hKK KK be
  refine mix_go rfl (by kernel_rfl) fun KK hKK => ?_
  go_simp
  refine (below_any _ _ _ letters_cnt l 0 (.slice sg sl sc) f w1 (HT.out.below HB.out) hl (HI.out.below HB.out).jl).mono ?_
  rintro e w2 ⟨rfl, be⟩
  have HB2 := hid (HB.out.trans (be.mono HB.out.size))
  rw [← HBb.out]
  refine hKK _ _ (fun _ => HI.out.below HB2.out) ?_
  clear hKK KK be
  iterate 2 (refine mix_free ?_ rfl (by kernel_rfl) (fun w' hS => ?_) ?_; (rotate_left; (go_simp; with_reducible rfl); rotate_left))
  refine mix_end (NoPanic.normal ?_)
  go_simp
  go_wp2
  go_ret
  exact ⟨rfl, HB2.out⟩
end Go.Proofs.YtffbdnlfknomnaaDoor.Wt
