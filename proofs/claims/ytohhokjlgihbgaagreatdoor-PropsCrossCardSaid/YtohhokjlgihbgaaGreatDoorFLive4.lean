/- What New makes of the two texts of live. -/
import Derived.Test.YtohhokjlgihbgaaGreatDoorFReadMath
import Derived.Test.YtohhokjlgihbgaaGreatDoorFText
import Derived.Test.YtohhokjlgihbgaaGreatDoorFEach4
import Derived.Test.YtohhokjlgihbgaaGreatDoorFNew
import Derived.Test.YtohhokjlgihbgaaGreatDoorFOf4
import Derived.Test.YtohhokjlgihbgaaGreatDoorFBare
namespace Go.Proofs.YtohhokjlgihbgaaGreatDoor

def sml : List UInt8 := [85, 43, 48, 51, 48, 48, 45, 85, 43, 48, 51, 54, 70, 32, 59, 32, 69, 120, 116, 101, 110, 100, 10, 85, 43, 48, 48, 54, 49, 45, 85, 43, 48, 48, 55, 65, 32, 85, 43, 48, 48, 69, 57, 32, 59, 32, 76, 101, 116, 116, 101, 114, 10]
def sm2 : List UInt8 := [39, 97, 39, 32, 59, 32, 65, 10, 39, 97, 39, 45, 39, 98, 39, 32, 59, 32, 66]
def ext : List UInt8 := [69, 120, 116, 101, 110, 100]
def lett : List UInt8 := [76, 101, 116, 116, 101, 114]
def smS : List Tr := [(97, 122, 2), (233, 233, 2), (768, 879, 1)]
def smA : List Tr := [(0, 96, 0), (97, 122, 2), (123, 232, 0), (233, 233, 2), (234, 767, 0), (768, 879, 1), (880, 1114111, 0)]
def smt : List UInt8 := [101, 204, 129, 255]
theorem lns_sml : lns sml = [sml.take 22, (sml.drop 23).take 29, []] := by kernel_rfl
theorem whl_sml : whl smS = smA := by kernel_rfl
theorem rd_1 : rdS [oth] [] (sml.take 22) = (0, [oth, ext], [(768, 879, 1)]) := by kernel_rfl
theorem rd_2 : rdS [oth, ext] [(768, 879, 1)] ((sml.drop 23).take 29) = (0, [oth, ext, lett], smS) := by kernel_rfl
theorem rd_3 : rdS [oth, ext, lett] smS [] = (0, [oth, ext, lett], smS) := by kernel_rfl
theorem nw_sml : nw sml = ((0, 0), [oth, ext, lett], smS) := by kernel_rfl
theorem nw_sm2 : (nw sm2).1 = (41, 2) := by kernel_rfl
theorem evs_sml : evs smA smt 0 = [(0, 2), (1, 1), (3, 0)] := by kernel_rfl
theorem tx_sml : tx4 smA [oth, ext, lett] 3 = sml := by kernel_rfl
theorem rgd_sml : (rgd smA).length = 3 := by kernel_rfl
theorem st_sml : (smA.Pairwise fun x y => x.2.1 < y.2.1) ∧ ∃ g ∈ smA, g.2.1 = 1114111 := by decide
end Go.Proofs.YtohhokjlgihbgaaGreatDoor
/- The contract of live (package kerflaw04): it answers true. -/
namespace Go.Proofs.YtohhokjlgihbgaaGreatDoor
open Go.RowKit

/-- What the tables of the library hold. -/
structure Tbs (m : Int) (w : World) : Prop where
  t : Lib.Utf8Tabs 0 1 w
  m : w.cell? ⟨2, 0, none⟩ = some (.int .i64 m)
  z : w.cell? ⟨6, 15, none⟩ = some (.int .u8 4)
  s : 9 ≤ w.heap.size
theorem Tbs.below {m : Int} {w w' : World} (h : Tbs m w) (hb : Below w.heap.size w w') : Tbs m w' :=
  ⟨tabs_b h.t (by have h5 := h.s; omega) hb, (hb.cell (p := ⟨2, 0, none⟩) (by show 2 < w.heap.size; have h5 := h.s; omega)).trans h.m, (hb.cell (p := ⟨6, 15, none⟩) (by show 6 < w.heap.size; have h5 := h.s; omega)).trans h.z, Nat.le_trans h.s hb.size⟩
theorem new_any (t : List UInt8) (m : Int) (w : World) (h : Tbs m w) :
    Calls Tryz.prog 10 #[.string ⟨t.toArray⟩] w fun e w' => Below w.heap.size w w' ∧
      (((nw t).1.1 ≠ 0 ∧ e = .returned (.tuple #[.pointer none, .int .i64 (nw t).1.1, .int .i64 ((nw t).1.2 : Int)])) ∨
       ((nw t).1.1 = 0 ∧ ∃ P K nv po pc, e = .returned (.tuple #[.pointer (some ⟨P, 0, none⟩), .int .i64 0, .int .i64 0]) ∧ DbAt w.heap.size P K (nw t).2.1 nv (.slice po (whl (nw t).2.2).length pc) w' ∧ w'.ownsRow w.heap.size 86 3 (.slice po (whl (nw t).2.2).length pc) (whl (nw t).2.2).length (rks (whl (nw t).2.2)) ∧ Rs 0 (nw t).2.2 ∧ (nw t).2.1.Nodup ∧ (nw t).2.1.length ≤ 64)) :=
  callsIn_wide.1 (new_in t m w h.t h.m (by have h5 := h.s; omega))
set_option maxRecDepth 100000 in
theorem num_any (e : Int) (w : World) : Calls Tryz.prog 12 #[.int .i64 e] w fun r w' => r = .returned (.int .i64 e) ∧ w' = w := by
  go_enter Tryz.func12, Tryz.ntmps12
  go_wp2
  go_ret
  exact ⟨rfl, rfl⟩

set_option maxRecDepth 100000 in
set_option maxHeartbeats 2000000 in
theorem live_any (m : Int) (w : World) (h : Tbs m w) : Calls Tryz.prog 9 #[] w fun e w' => e = .returned (.bool true) ∧ Below w.heap.size w w' := by
  have H1 := hid (new_any sml m w h)
  rw [nw_sml, whl_sml] at H1
  unfold sml at H1
  have HT := hid h
  have HNU := hid num_any
  clear h
  go_enter Tryz.func9, Tryz.ntmps9
  go_wp2_with fail
  refine H1.out.mono ?_
  rintro e w1 ⟨b1, (⟨h1, _⟩ | ⟨_, P, K, nv, po, pc, rfl, d1, o1, _, nd1, ln1⟩)⟩
  · exact absurd rfl h1
  have HB1 := hid b1
  have HD1 := hid d1
  have HO1 := hid o1
  have HT1 := hid (HT.out.below b1)
  have H2 := hid (new_any sm2 m w1 HT1.out)
  rw [nw_sm2] at H2
  unfold sm2 at H2
  clear b1 d1 o1 nd1 ln1 H1
  go_wp2_with (go_at_call 12; refine (HNU.out _ _).mono ?_; rintro e w2 ⟨rfl, hw⟩; obtain rfl := hw.symm)
  refine H2.out.mono ?_
  rintro e w2 ⟨b2, (⟨_, rfl⟩ | ⟨h2, _⟩)⟩
  rotate_left
  · cases h2
  dsimp only
  have HB2 := hid (HB1.out.trans (b2.mono HB1.out.size))
  have HD2 := hid (HD1.out.below b2)
  have HO2 := hid (own_keep HO1.out b2)
  have HT2 := hid (HT1.out.below b2)
  have H3 := hid (of_any w.heap.size P nv (.map (some K)) po pc smA smt w2 HD2.out.hP HO2.out (by decide) st_sml.1 st_sml.2 (by decide))
  rw [evs_sml] at H3
  unfold smt at H3
  clear b2 H2 HB1 HD1 HO1 HT1
  go_wp2_with fail
  refine H3.out.mono ?_
  rintro e w3 ⟨v3, rfl, o3, b3⟩
  have HB3 := hid (HB2.out.trans (b3.mono HB2.out.size))
  have HD3 := hid (HD2.out.below b3)
  have HO3 := hid (own_keep HO2.out b3)
  have HT3 := hid (HT2.out.below b3)
  obtain ⟨q, cap, rfl, hqB, hqw⟩ := o3.form (by decide)
  have HV3 := hid o3
  have H4 := hid (class_any w.heap.size P K [oth, ext, lett] nv (.slice po smA.length pc) lett w3 HD3.out (by decide) (by decide))
  unfold lett at H4
  clear b3 H3 HB2 HD2 HO2 HT2 o3 hqB hqw
  go_wp2_with fail
  refine H4.out.mono ?_
  rintro e w4 ⟨rfl, hw4⟩
  obtain rfl := hw4.symm
  have H5 := hid (names_any w.heap.size P K [oth, ext, lett] nv (.slice po smA.length pc) w3 HD3.out (by decide) (by decide))
  clear H4
  go_wp2_with fail
  refine H5.out.mono ?_
  rintro e w5 ⟨v5, rfl, o5, b5⟩
  obtain ⟨q5, cap5, rfl, _, _⟩ := o5.form (by decide)
  have HB5 := hid (HB3.out.trans (b5.mono HB3.out.size))
  have HD5 := hid (HD3.out.below b5)
  have HO5 := hid (own_keep HO3.out b5)
  have HT5 := hid (HT3.out.below b5)
  have HV5 := hid (own_keep HV3.out b5)
  have x0 : w5.cell? ⟨q, 0, none⟩ = some (.int .i64 2) := HV5.out.cellAt 0 (by decide)
  have x1 : w5.cell? ⟨q, 1, none⟩ = some (.int .i64 1) := HV5.out.cellAt 1 (by decide)
  have x2 : w5.cell? ⟨q, 2, none⟩ = some (.int .i64 0) := HV5.out.cellAt 2 (by decide)
  have H6 := hid (text_any w.heap.size P K [oth, ext, lett] nv po pc smA w5 HD5.out (rd_own HO5.out) (by decide) (by decide) (by decide) (by decide) (fun c => Nat.le_trans (stc_len c smA) (by decide)) HT5.out.z HT5.out.s)
  rw [show ([oth, ext, lett] : List (List UInt8)).length = 3 from rfl, tx_sml] at H6
  unfold sml at H6
  clear b5 H5 HB3 HD3 HO3 HT3 o5 HV3
  go_wp2_with fail
  refine H6.out.mono ?_
  rintro e w6 ⟨rfl, b6⟩
  have HB6 := hid (HB5.out.trans (b6.mono HB5.out.size))
  have HD6 := hid (HD5.out.below b6)
  have HO6 := hid (own_keep HO5.out b6)
  have H7 := hid (ranged_any w.heap.size P K [oth, ext, lett] nv po pc smA w6 HD6.out (rd_own HO6.out) (by decide))
  rw [rgd_sml] at H7
  clear b6 H6 HB5 HD5 HO5 HT5 HV5 x0 x1 x2
  go_wp2_with (first | (go_at_call 12; refine (HNU.out _ _).mono ?_; rintro e w8 ⟨rfl, hw⟩; obtain rfl := hw.symm) | fail)
  refine H7.out.mono ?_
  rintro e w7 ⟨v7, rfl, o7, b7⟩
  obtain ⟨q7, cap7, rfl, _, _⟩ := o7.form (by decide)
  have HB7 := hid (HB6.out.trans (b7.mono HB6.out.size))
  clear b7 H7 HB6 HD6 HO6 o7
  go_wp2
  go_ret
  exact ⟨rfl, HB7.out⟩
end Go.Proofs.YtohhokjlgihbgaaGreatDoor
