/- The contracts of Live and Sure (package dfa). -/
import Derived.Test.YtmgoedcaeemilaaDoorLead66
import Derived.Test.YtmgoedcaeemilaaDoorThose7
import Derived.Test.YtmgoedcaeemilaaDoorCheck7
namespace Go.Proofs.YtmgoedcaeemilaaDoor
open Go.RowKit

/-- The live states; the sure ones: of what is no automaton, none. -/
def LivP (c : Int) (R : Rw) (T : List Int) (n : Nat) (x : Int) : Prop := Gd c R T ∧ ∃ s : Nat, x = (s : Int) ∧ Lead R (fun s => s < n ∧ lvB T s = true) s
def SurP (c : Int) (R : Rw) (T : List Int) (n : Nat) (x : Int) : Prop := Gd c R T ∧ ∃ s : Nat, x = (s : Int) ∧ s < n ∧ ¬ Lead R (fun s => s < n ∧ flB R T s = true) s
theorem isB_true {bs : List Bool} {A : Nat → Prop} (h : ∀ s : Nat, bs[s]? = some true ↔ A s) (x : Int) : isB true bs x ↔ ∃ s : Nat, x = (s : Int) ∧ A s := by
  constructor
  · rintro ⟨h0, h1⟩
    exact ⟨x.toNat, by omega, (h _).1 h1⟩
  · rintro ⟨s, rfl, hs⟩
    exact isB_nat.2 ((h s).2 hs)
theorem isB_false {bs : List Bool} {n : Nat} {A : Nat → Prop} (hn : bs.length = n) (h : ∀ s : Nat, bs[s]? = some true ↔ A s) (x : Int) : isB false bs x ↔ ∃ s : Nat, x = (s : Int) ∧ s < n ∧ ¬ A s := by
  constructor
  · rintro ⟨h0, h1⟩
    exact ⟨x.toNat, by omega, by rw [← hn]; exact (List.getElem?_eq_some_iff.1 h1).1, fun ha => by rw [(h _).2 ha] at h1; cases h1⟩
  · rintro ⟨s, rfl, hs, ha⟩
    refine isB_nat.2 ?_
    have hl : bs[s]? = some (bs[s]'(by omega)) := List.getElem?_eq_getElem _
    cases hb : bs[s]'(by omega) with
    | true => rw [hb] at hl; exact absurd ((h s).1 hl) ha
    | false => rw [hb] at hl; exact hl
theorem setQ_none {w w' : World} {n : Nat} {A : Int → Prop} (hb : Below w.heap.size w w') (hA : ∀ x, ¬ A x) : SetQ w n A (.returned (.slice none 0 0)) w' := ⟨[], none, 0, rfl, World.ownsRow_nil _ _ _ _, List.Pairwise.nil, fun x hx => (by cases hx), fun x => ⟨fun h => (by cases h), fun h => absurd h (hA x)⟩, hb⟩
theorem boxAt_of {w W : World} {v0 v1 v2 : Value} {T : TypeId} (h : Below (w.heap.size + 1) (w.alloc (.cells #[v0, v1, v2] T)) W) : BoxAt W w.heap.size v0 v1 v2 := ⟨by have := h.size; simp at this; omega, box3 h⟩
set_option maxHeartbeats 4000000 in
theorem live_any (c : Int) (no to : Option Addr) (n nc m tc : Nat) (R : Rw) (T : List Int) (w : World) (hd : DRd w no n to m R T) :
    Calls Tryd.prog 29 #[.agg #[.int .i64 c, .slice no n nc, .slice to m tc]] w fun e w' => SetQ w n (LivP c R T n) e w' := by
  have HD := hid hd
  clear hd
  go_enter Tryd.func29, Tryd.ntmps29
  go_wp2_with fail
  refine (good_any c no to n nc m tc R T (w.alloc (.cells #[.int .i64 c, .slice no n nc, .slice to m tc] 32)) (HD.out.below below_box)).mono ?_
  rintro e w1 ⟨rfl, b1⟩
  have HB := hid (show Below (w.heap.size + 1) (w.alloc (.cells #[.int .i64 c, .slice no n nc, .slice to m tc] 32)) w1 by simpa using b1)
  clear b1
  obtain ⟨c0, c1, c2⟩ := box3 HB.out
  rcases bool_cases (gdB c R T) with hg | hg
  rotate_left
  · have HN := hid (not_gd hg)
    rw [hg]
    clear hg
    go_wp2
    go_ret
    exact setQ_none (box_trans HB.out) (fun x h => HN.out h.1)
  have HG := hid (gd_of hg)
  rw [hg]
  clear hg
  have hn : n ≤ 1024 := by have := HG.out.n2; have := HD.out.hn; omega
  have hsz : w.heap.size + 1 ≤ w1.heap.size := by have := HB.out.size; simpa using this
  go_wp2_with fail
  refine (leading_63 w.heap.size c no to n nc m tc R T w1 (HD.out.boxed HB.out) HG.out (boxAt_of HB.out)).mono ?_
  rintro e w2 ⟨bs, gl, vc, rfl, o2, hbl, hiff, b2⟩
  have HB2 := hid (HB.out.trans (b2.mono hsz))
  have HO := hid o2
  have HBL := hid hbl
  have HIF := hid hiff
  clear o2 hbl hiff b2 c0 c1 c2
  go_wp2_with fail
  refine (those_any _ vc n bs true w2 HBL.out (rdb_own HO.out) (by omega)).mono ?_
  rintro e w3 ⟨Q, vo, vc3, rfl, o3, hp, hr, hm, b3⟩
  have HX := hid (show SetQ w n (LivP c R T n) (.returned (.slice vo Q.length vc3)) w3 from by
    have hs2 := HB2.out.size
    simp at hs2
    exact ⟨Q, vo, vc3, rfl, own_mono' o3 (by omega), hp, hr, fun x => (hm x).trans ((isB_true HIF.out x).trans ⟨fun h => ⟨HG.out, h⟩, fun h => h.2⟩), (box_trans HB2.out).trans (b3.mono (by omega))⟩)
  clear o3 hp hr hm b3
  go_wp2
  go_ret
  exact HX.out
set_option maxHeartbeats 4000000 in
theorem sure_any (c : Int) (no to : Option Addr) (n nc m tc : Nat) (R : Rw) (T : List Int) (w : World) (hd : DRd w no n to m R T) :
    Calls Tryd.prog 31 #[.agg #[.int .i64 c, .slice no n nc, .slice to m tc]] w fun e w' => SetQ w n (SurP c R T n) e w' := by
  have HD := hid hd
  clear hd
  go_enter Tryd.func31, Tryd.ntmps31
  go_wp2_with fail
  refine (good_any c no to n nc m tc R T (w.alloc (.cells #[.int .i64 c, .slice no n nc, .slice to m tc] 32)) (HD.out.below below_box)).mono ?_
  rintro e w1 ⟨rfl, b1⟩
  have HB := hid (show Below (w.heap.size + 1) (w.alloc (.cells #[.int .i64 c, .slice no n nc, .slice to m tc] 32)) w1 by simpa using b1)
  clear b1
  obtain ⟨c0, c1, c2⟩ := box3 HB.out
  rcases bool_cases (gdB c R T) with hg | hg
  rotate_left
  · have HN := hid (not_gd hg)
    rw [hg]
    clear hg
    go_wp2
    go_ret
    exact setQ_none (box_trans HB.out) (fun x h => HN.out h.1)
  have HG := hid (gd_of hg)
  rw [hg]
  clear hg
  have hn : n ≤ 1024 := by have := HG.out.n2; have := HD.out.hn; omega
  have hsz : w.heap.size + 1 ≤ w1.heap.size := by have := HB.out.size; simpa using this
  go_wp2_with fail
  refine (leading_66 w.heap.size c no to n nc m tc R T w1 (HD.out.boxed HB.out) HG.out (boxAt_of HB.out)).mono ?_
  rintro e w2 ⟨bs, gl, vc, rfl, o2, hbl, hiff, b2⟩
  have HB2 := hid (HB.out.trans (b2.mono hsz))
  have HO := hid o2
  have HBL := hid hbl
  have HIF := hid hiff
  clear o2 hbl hiff b2 c0 c1 c2
  go_wp2_with fail
  refine (those_any _ vc n bs false w2 HBL.out (rdb_own HO.out) (by omega)).mono ?_
  rintro e w3 ⟨Q, vo, vc3, rfl, o3, hp, hr, hm, b3⟩
  have HX := hid (show SetQ w n (SurP c R T n) (.returned (.slice vo Q.length vc3)) w3 from by
    have hs2 := HB2.out.size
    simp at hs2
    exact ⟨Q, vo, vc3, rfl, own_mono' o3 (by omega), hp, hr, fun x => (hm x).trans ((isB_false HBL.out HIF.out x).trans ⟨fun h => ⟨HG.out, h⟩, fun h => h.2⟩), (box_trans HB2.out).trans (b3.mono (by omega))⟩)
  clear o3 hp hr hm b3
  go_wp2
  go_ret
  exact HX.out
end Go.Proofs.YtmgoedcaeemilaaDoor
