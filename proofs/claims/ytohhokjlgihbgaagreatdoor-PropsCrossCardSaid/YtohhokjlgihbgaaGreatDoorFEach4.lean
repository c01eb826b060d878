/- The contracts of utf.Count, of Each (package props) and of its iterator. -/
import Derived.Shelf.Utf8.RuneCount
import Derived.Shelf.Strings.RuneCount
import Derived.Test.YtohhokjlgihbgaaGreatDoorFCaught
import Derived.Test.YtohhokjlgihbgaaGreatDoorFSearch
import Derived.Test.YtohhokjlgihbgaaGreatDoorFRuns
import Derived.Test.YtohhokjlgihbgaaGreatDoorFReadMath
namespace Go.Proofs
open Go.Shelf
def Tryz.lays195_ren : Go.Shelf.Ren := ⟨fun | 195 => 79 | n => n, fun | 9 => 9 | 3 => 3 | 0 => 0 | 4 => 4 | n => n, fun | n => n⟩
theorem Tryz.lays195 : Go.Proofs.Lays.n195 Tryz.prog Tryz.lays195_ren := {
  mixed := by kernel_rfl
  f195 := Tryz.func79.trans (congrArg some (by kernel_rfl))
  t0 := Tryz.underlying0
  a0 := Tryz.isAgg0
  z0 := Tryz.sizeOf0
  v0 := Tryz.zeroValue0
  t3 := Tryz.underlying3
  a3 := Tryz.isAgg3
  z3 := Tryz.sizeOf3
  v3 := Tryz.zeroValue3
  t4 := Tryz.underlying4
  a4 := Tryz.isAgg4
  z4 := Tryz.sizeOf4
  v4 := Tryz.zeroValue4
  t9 := Tryz.underlying9
  a9 := Tryz.isAgg9
  z9 := Tryz.sizeOf9
  v9 := Tryz.zeroValue9 }
namespace YtohhokjlgihbgaaGreatDoor
open Go.RowKit
attribute [local go_sem] Oper.semAt_some

set_option maxHeartbeats 400000 in
theorem ucount_any (l : List UInt8) (w : World) (hl : l.length < 9223372036854775807) :
    Calls Tryz.prog 46 #[.string ⟨l.toArray⟩] w fun e w' => (∃ k : Nat, k ≤ l.length ∧ e = .returned (.int .i64 (k : Int))) ∧ Below w.heap.size w w' := by
  have hs' : (⟨l.toArray⟩ : ByteArray).size < 9223372036854775807 := by show l.toArray.size < _; simpa using hl
  have HS := hid hs'
  have HLE := hid (show Lib.runeCount ⟨l.toArray⟩ ≤ l.length by have h5 := Lib.runeCount_le ⟨l.toArray⟩; have h6 : (⟨l.toArray⟩ : ByteArray).size = l.length := by { show l.toArray.size = _; simp }; omega)
  clear hs'
  go_enter Tryz.func46, Tryz.ntmps46
  go_wp2_with (go_at_call 79; refine (Any.utf8_RuneCountInString Tryz.lays195 ⟨l.toArray⟩ _ HS.out).mono ?_; rintro e w1 ⟨rfl, pos, rfl⟩)
  go_ret
  exact ⟨⟨_, HLE.out, rfl⟩, (Below.refl _ _).alloc (Nat.le_refl _) _⟩
set_option maxHeartbeats 1000000 in
set_option maxRecDepth 100000 in
theorem get_p (P : Nat) (x y : Value) (po : Option Addr) (pc : Nat) (A : List Tr) (r : Int) (w : World) (h : w.heap[P]? = some (.cells #[x, y, .slice po A.length pc] 76 (0, 0))) (ha : RdK w po (A.map rkT)) (hl : A.length ≤ 10000000) (hp : A.Pairwise fun x y => x.2.1 < y.2.1) (he : ∃ g ∈ A, g.2.1 = 1114111) :
    Calls Tryz.prog 24 #[.pointer (some ⟨P, 0, none⟩), .int .i32 r] w fun e w' => e = .returned (.int .i64 (gtp (instd r) A : Nat)) ∧ Below w.heap.size w w' := by
  have c2 := cell_row w P 2 [x, y, .slice po A.length pc] 76 _ h rfl
  have hin : instd r ≤ 1114111 := by unfold instd; split <;> omega
  obtain ⟨xx, hx, hg⟩ := gtp_at (instd r) A (by obtain ⟨g, h5, h6⟩ := he; exact ⟨g, h5, by omega⟩)
  have HS := hid (search_get po pc A (instd r) (ahd (instd r) A) w ha (by omega) (ahd_le _ A) (ahd_lo (instd r) A) (ahd_hi (instd r) A hp))
  have hPl := lt_of_heap h
  have HPB := hid (show ∀ W, Below w.heap.size w W → W.cell? ⟨P, 2, none⟩ = some (.slice po A.length pc) from fun W hW => (hW.cell (p := ⟨P, 2, none⟩) hPl).trans c2)
  have hsl := (List.getElem?_eq_some_iff.1 hx).1
  have HAB := hid (show ∀ W, Below w.heap.size w W → ∃ a : Addr, po = some a ∧ W.cell? ⟨(a.add (ahd (instd r) A * 3)).block, (a.add (ahd (instd r) A * 3)).off + 2, none⟩ = some (.int .i64 (xx.2.2 : Int)) from fun W hW => by
    obtain ⟨a, e1, _, _, _, e4⟩ := (ha.below hW) (ahd (instd r) A) (rkT xx) (by rw [List.getElem?_map, hx]; rfl)
    exact ⟨a, e1, e4⟩)
  rw [hg]
  obtain ⟨s, hse⟩ : ∃ s, s = ahd (instd r) A := ⟨_, rfl⟩
  obtain ⟨n, hn⟩ : ∃ n, n = A.length := ⟨_, rfl⟩
  rw [← hse] at HS HAB hsl
  rw [← hn] at HS HPB c2 hsl hl
  have s1 : (s : Int) < (n : Int) := by omega
  have s0 : (0 : Int) ≤ (s : Int) := by omega
  clear h ha hp he hx hg hse hn hin
  by_cases h0 : r < 0
  · have hi : instd r = 65533 := by unfold instd; rw [if_pos (.inl h0)]
    rw [hi] at HS
    clear hi
    go_enter Tryz.func24, Tryz.ntmps24
    go_wp2_with fail
    refine HS.out.mono ?_
    rintro e w1 ⟨⟨d, rfl⟩, b1⟩
    have HB1 := hid b1
    obtain ⟨a, rfl, a2⟩ := HAB.out w1 b1
    have c3 := HPB.out w1 b1
    clear b1 HS c2
    go_wp2
    go_ret
    exact ⟨rfl, HB1.out⟩
  by_cases h1 : 1114111 < r
  · have hi : instd r = 65533 := by unfold instd; rw [if_pos (.inr h1)]
    rw [hi] at HS
    clear hi
    go_enter Tryz.func24, Tryz.ntmps24
    go_wp2_with fail
    refine HS.out.mono ?_
    rintro e w1 ⟨⟨d, rfl⟩, b1⟩
    have HB1 := hid b1
    obtain ⟨a, rfl, a2⟩ := HAB.out w1 b1
    have c3 := HPB.out w1 b1
    clear b1 HS c2
    go_wp2
    go_ret
    exact ⟨rfl, HB1.out⟩
  · have hi : instd r = r := by unfold instd; rw [if_neg (by omega)]
    rw [hi] at HS
    clear hi
    go_enter Tryz.func24, Tryz.ntmps24
    go_wp2_with fail
    refine HS.out.mono ?_
    rintro e w1 ⟨⟨d, rfl⟩, b1⟩
    have HB1 := hid b1
    obtain ⟨a, rfl, a2⟩ := HAB.out w1 b1
    have c3 := HPB.out w1 b1
    clear b1 HS c2
    go_wp2
    go_ret
    exact ⟨rfl, HB1.out⟩

/-- The runes of a text with their classes. -/
def evs (A : List Tr) (l : List UInt8) (t : Nat) : List (Nat × Nat) := (plr l t).map fun x => (x.1, gtp (instd x.2) A)
theorem evs_step (A : List Tr) (l : List UInt8) (t : Nat) (h : t < l.length) : evs A l t = (t, gtp (instd ((Utf8.decode ⟨l.toArray⟩ t).1 : Int)) A) :: evs A l (t + (Utf8.decode ⟨l.toArray⟩ t).2) := by
  unfold evs
  rw [plr_step l t h]; rfl
theorem evs_end (A : List Tr) (l : List UInt8) (t : Nat) (h : ¬ t < l.length) : evs A l t = [] := by unfold evs; rw [plr_end l t h]; rfl
/-- What the iterator of Each has caught: the database and the text. -/
structure EachAt (Bd Bl P : Nat) (x y : Value) (po : Option Addr) (pc : Nat) (A : List Tr) (l : List UInt8) (w : World) : Prop where
  bd : Boxed w Bd 24 (.pointer (some ⟨P, 0, none⟩))
  bl : Boxed w Bl 9 (.string ⟨l.toArray⟩)
  hP : w.heap[P]? = some (.cells #[x, y, .slice po A.length pc] 76 (0, 0))
  row : ∀ a : Addr, po = some a → ∃ c fz, w.heap[a.block]? = some (.cells c 86 fz)
  rd : RdK w po (A.map rkT)
def KE (Bd Bl P : Nat) (po : Option Addr) (k : Nat) : Prop := k = Bd ∨ k = Bl ∨ k = P ∨ ∃ a : Addr, po = some a ∧ a.block = k
section
variable {Bd Bl P : Nat} {x y : Value} {po : Option Addr} {pc : Nat} {A : List Tr} {l : List UInt8} {w w' : World}
theorem EachAt.lt (h : EachAt Bd Bl P x y po pc A l w) : ∀ k, KE Bd Bl P po k → k < w.heap.size := fun k hk => by
  rcases hk with rfl | rfl | rfl | ⟨a, h1, rfl⟩
  · exact h.bd.lt
  · exact h.bl.lt
  · exact lt_of_heap h.hP
  · obtain ⟨c, fz, hc⟩ := h.row a h1
    exact lt_of_heap hc
theorem EachAt.keeps (h : EachAt Bd Bl P x y po pc A l w) (hs : w.heap.size ≤ w'.heap.size) (hk : ∀ k, KE Bd Bl P po k → w'.heap[k]? = w.heap[k]?) : EachAt Bd Bl P x y po pc A l w' where
  bd := (hk Bd (.inl rfl)).trans h.bd
  bl := (hk Bl (.inr (.inl rfl))).trans h.bl
  hP := (hk P (.inr (.inr (.inl rfl)))).trans h.hP
  row := fun a ha => by
    obtain ⟨c, fz, hc⟩ := h.row a ha
    exact ⟨c, fz, (hk a.block (.inr (.inr (.inr ⟨a, ha, rfl⟩)))).trans hc⟩
  rd := fun k g hg => by
    obtain ⟨a, h1, h2, h3, h4, h5⟩ := h.rd k g hg
    have hb := hk a.block (.inr (.inr (.inr ⟨a, h1, rfl⟩)))
    exact ⟨a, h1, Nat.lt_of_lt_of_le h2 hs, (World.cell?_of_block (w := w) (a := a.add (k * 3)) (by rw [add_blk]; exact hb)).trans h3, (World.cell?_of_block (w := w) (a := ⟨(a.add (k * 3)).block, (a.add (k * 3)).off + 1, none⟩) (by show _[(a.add (k * 3)).block]? = _[(a.add (k * 3)).block]?; rw [add_blk]; exact hb)).trans h4, (World.cell?_of_block (w := w) (a := ⟨(a.add (k * 3)).block, (a.add (k * 3)).off + 2, none⟩) (by show _[(a.add (k * 3)).block]? = _[(a.add (k * 3)).block]?; rw [add_blk]; exact hb)).trans h5⟩
theorem EachAt.below {B : Nat} (h : EachAt Bd Bl P x y po pc A l w) (hb : Below B w w') (hB : w.heap.size ≤ B) : EachAt Bd Bl P x y po pc A l w' :=
  h.keeps hb.size (fun k h2 => hb.block k (Nat.lt_of_lt_of_le (h.lt k h2) hB))
end
def encE (x : Nat × Nat) : Array Value := #[.int .i64 (x.1 : Int), .int .i64 (x.2 : Int)]

set_option maxHeartbeats 1000000 in
theorem each_stops (n : Nat) (hn : 1 ≤ n) (Bd Bl P : Nat) (x y : Value) (po : Option Addr) (pc : Nat) (A : List Tr) (l : List UInt8) (w : World) (hR : EachAt Bd Bl P x y po pc A l w) (hA : A.length ≤ 10000000) (hp : A.Pairwise fun x y => x.2.1 < y.2.1) (he : ∃ g ∈ A, g.2.1 = 1114111) :
    CaughtStops Fence.wide n Tryz.prog 47 #[.pointer (some ⟨Bd, 0, none⟩), .pointer (some ⟨Bl, 0, none⟩)] encE none (EachAt Bd Bl P x y po pc A l) (Kr (KE Bd Bl P po)) (evs A l 0) w := fun lp J Jx W hbW hJ hJx hY h0 => by
  have HRW := hid (hR.below hbW (Nat.le_refl _))
  have HSZ := hid (show (⟨l.toArray⟩ : ByteArray).size = l.length by show l.toArray.size = _; simp)
  have c1 := HRW.out.bd.cell
  have c2 := HRW.out.bl.cell
  have HP := hid hp
  have HE := hid he
  clear hR hbW hp he
  refine callsIn_of_wp Tryz.func47 rfl trivial ?_ rfl
  simp only [Tryz.ntmps47, List.size_toArray, List.length_cons, List.length_nil, Nat.reduceAdd, Nat.reduceSub, Array.replicate_succ, Array.replicate_zero, List.push_toArray, List.append_toArray, List.nil_append, List.cons_append]
  gi_wp2
  have hJ0 : J [] (W.iter ⟨l.toArray⟩ 0) := hJ [] W _ h0 ⟨none, World.grownBy_alloc W _ none, fun r e => by cases e⟩
  have hit0 : (W.iter ⟨l.toArray⟩ 0).heap[W.heap.size]? = some (.stringIter ⟨l.toArray⟩ 0) := World.iter_heap W _ 0
  have HRI := hid (HRW.out.below (B := W.heap.size) ((Below.refl _ W).alloc (Nat.le_refl _) (.stringIter ⟨l.toArray⟩ 0)) (Nat.le_refl _))
  gi_loopw [4] (fun _ wr => ∃ (t : Nat) (pre : List (Nat × Nat)), Hid (evs A l 0 = pre ++ evs A l t) ∧ Hid (wr.heap[W.heap.size]? = some (.stringIter ⟨l.toArray⟩ t)) ∧ Hid (J pre wr) ∧ Hid (EachAt Bd Bl P x y po pc A l wr)) (fun _ wr => l.length - wr.iterPos W.heap.size)
  case atStart => exact ⟨0, [], by simp [Hid], hit0, hJ0, HRI⟩
  case round =>
    obtain ⟨t, pre, HPR, HI, HJ, HRr⟩ := hrel
    clear hJ0 hit0 HRI c1 c2
    by_cases hlt : t < l.length
    · have hnx := run_next_at (P := Tryz.prog) wr W.heap.size ⟨l.toArray⟩ t 0 HI.out (by rw [HSZ.out]; exact hlt)
      have d1 := Lib.width_pos ⟨l.toArray⟩ t
      have HST := hid (evs_step A l t hlt)
      obtain ⟨nn, hnn⟩ : ∃ nn, nn = (Utf8.decode ⟨l.toArray⟩ t).2 := ⟨_, rfl⟩
      obtain ⟨rr, hrr⟩ : ∃ rr : Int, rr = ((Utf8.decode ⟨l.toArray⟩ t).1 : Int) := ⟨_, rfl⟩
      rw [← hnn] at hnx d1 HST
      rw [← hrr] at hnx HST
      obtain ⟨w1, hw1⟩ : ∃ w1, w1 = wr.putObj W.heap.size (.stringIter ⟨l.toArray⟩ (t + nn)) := ⟨_, rfl⟩
      rw [← hw1] at hnx
      have hin : W.heap.size < wr.heap.size := (Array.getElem?_eq_some_iff.1 HI.out).1
      have HJ1 := hid (show J pre w1 by
        rw [hw1]
        exact hJ pre wr _ HJ.out ⟨some W.heap.size, grownBy_putObj' wr _ _, fun r e => by cases e; exact .inr ⟨Nat.le_refl _, _, HI.out, rfl⟩⟩)
      have HIt1 := hid (show w1.heap[W.heap.size]? = some (.stringIter ⟨l.toArray⟩ (t + nn)) by rw [hw1]; exact World.putObj_heap_same hin)
      have HR1 := hid (show EachAt Bd Bl P x y po pc A l w1 by
        rw [hw1]
        exact HRr.out.keeps (grownBy_putObj' wr _ _).size (fun k h2 => World.putObj_heap_other (by have := HRW.out.lt k h2; omega)))
      have HM := hid (show l.length - wr.iterPos W.heap.size = l.length - t by unfold World.iterPos; rw [HI.out])
      have HGT := hid (get_p P x y po pc A rr w1 HR1.out.hP HR1.out.rd hA HP.out HE.out)
      have e1 := HR1.out.bd.cell
      clear hnn hrr hw1
      gi_wp2_with fail
      refine ⟨trivial, (callsIn_wide.2 HGT.out).mono ?_⟩
      rintro e w2 ⟨rfl, b2⟩
      have HJ2 := hid (hJ pre w1 w2 HJ1.out ⟨none, grown_below b2, fun r e => by cases e⟩)
      have HR2 := hid (HR1.out.below b2 (Nat.le_refl _))
      have HIt2 := hid ((b2.block W.heap.size (Array.getElem?_eq_some_iff.1 HIt1.out).1).trans HIt1.out)
      obtain ⟨gc, hgc⟩ : ∃ gc, gc = gtp (instd rr) A := ⟨_, rfl⟩
      rw [← hgc] at HST ⊢
      have HP2 := hid (show evs A l 0 = (pre ++ [(t, gc)]) ++ evs A l (t + nn) by rw [HPR.out, HST.out]; simp)
      obtain ⟨fn, tmps, assign, body, hy, hR⟩ := hY pre (t, gc) w2 (by rw [HP2.out]; exact List.prefix_append _ _) HR2.out HJ2.out
      dsimp only [encE] at hy
      clear b2 HGT HJ1 HR1 HIt1 e1 hY hgc HPR HST
      gi_wp2
      refine hR.mono ?_
      rintro e W3 (⟨rfl, hJ3, hk3⟩ | ⟨rfl, hJx3⟩)
      · have HI3 := hid (hk3.1.same _ _ HIt2.out rfl)
        have HJ3 := hid hJ3
        have HR3 := hid (HR2.out.keeps hk3.1.size hk3.2)
        clear hJ3 hk3
        gi_wp2
        go_roundw
        case rel => exact ⟨t + nn, pre ++ [(t, gc)], HP2, HI3, HJ3, HR3⟩
        case measure =>
          rw [HM.out]
          unfold World.iterPos
          rw [HI3.out]
          simp only []
          omega
      · have HJX := hid hJx3
        clear hJx3
        gi_wp2
        refine bodyPost_ret (results_none rfl _ _ _) rfl ?_
        exact ⟨⟨_, rfl⟩, .inr ⟨pre ++ [(t, gc)], (by rw [HP2.out]; exact List.prefix_append _ _), HJX.out⟩⟩
    · have hnx := run_next_stop (P := Tryz.prog) wr W.heap.size ⟨l.toArray⟩ t 0 HI.out (by rw [HSZ.out]; exact hlt)
      have HF := hid (show evs A l 0 = pre by rw [HPR.out, evs_end A l t hlt]; simp)
      clear hY
      gi_wp2
      go_end0
      exact ⟨⟨_, rfl⟩, .inl (by rw [HF.out]; exact HJ.out)⟩
set_option maxRecDepth 100000 in
theorem each_any (P : Nat) (l : List UInt8) (w : World) :
    Calls Tryz.prog 17 #[.pointer (some ⟨P, 0, none⟩), .string ⟨l.toArray⟩] w fun e w' => e = .returned (.func (.func 47) #[] #[.pointer (some ⟨w.heap.size, 0, none⟩), .pointer (some ⟨w.heap.size + 1, 0, none⟩)]) ∧ w' = (w.alloc (.cells #[.pointer (some ⟨P, 0, none⟩)] 24)).alloc (.cells #[.string ⟨l.toArray⟩] 9) := by
  go_enter Tryz.func17, Tryz.ntmps17
  go_wp2
  go_ret
  exact ⟨rfl, rfl⟩
end YtohhokjlgihbgaaGreatDoor
end Go.Proofs
