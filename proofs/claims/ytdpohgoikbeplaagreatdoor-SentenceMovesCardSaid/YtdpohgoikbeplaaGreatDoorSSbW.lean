/- SbW: parts of the proof, joined. -/
import Derived.Test.YtdpohgoikbeplaaGreatDoorSSnCut
namespace Go.Proofs.YtdpohgoikbeplaaGreatDoor.Sn
open Go.RowKit Wt
theorem ls_form {w w' : World} {L : List Nat} {e : Ending} (h : Pt.LsQ w L e w') (hne : 0 < L.length) : ∃ g cap cur, e = .returned (.slice (some ⟨g, 0, none⟩) L.length cap) /\ w.heap.size <= g /\ w'.heap[g]? = some (.cells cur 3 (0, 0)) /\ L.length <= cur.size /\ w'.ownsRow w.heap.size 3 1 (.slice (some ⟨g, 0, none⟩) L.length cap) L.length (Pt.i64n L) /\ Pt.RdI w' (some ⟨g, 0, none⟩) (L.map fun (x : Nat) => (x : Int)) /\ Below w.heap.size w w' := by
 obtain ⟨vo, vc, rfl, ho, hb⟩ := h
 have hr := Pt.rdi_own ho rfl
 rcases ho.2 with ⟨h1, h2⟩ | ⟨g, cap, cur, h1, h2, h3, h4, h5, h6, h7⟩
 ·omega
 ·cases h1
  exact ⟨g, _, cur, rfl, h2, h3, by rw [h6, Nat.mul_one]; exact h4, ho, hr, hb⟩
theorem rdi_oth {g b : Nat} {w w' : World} {l : List Int} (h : Pt.RdI w (some ⟨b, 0, none⟩) l) (ho : Pt.Ony g w w') (hne : b ≠ g) : Pt.RdI w' (some ⟨b, 0, none⟩) l := fun k z hk => by
 obtain ⟨a, h1, h2, h3⟩ := h k z hk
 cases h1
 refine ⟨_, rfl, by rw [ho.size]; exact h2, ?_⟩
 rw [<- h3, Addr.add_lit]
 exact World.cell?_of_block (ho.block b hne)
theorem news_rd {w : World} {g : Nat} {D : List Nat} (h : Pt.RdI w (some ⟨g, 0, none⟩) (D.map fun (x : Nat) => (x : Int))) : ∀ (j : Nat) (u : Value), (Pt.i64n D)[j]? = some u -> w.cell? ((⟨g, 0, none⟩ : Addr).add j) = some u := fun j u hj => by
 unfold Pt.i64n at hj
 rw [List.getElem?_map] at hj
 cases hd : D[j]? with
 | none => rw [hd] at hj; cases hj
 | some x =>
  rw [hd] at hj
  cases hj
  obtain ⟨a, h1, _, h3⟩ := h j (x : Int) (by rw [List.getElem?_map, hd]; rfl)
  cases h1
  exact h3
theorem app_form {w4 w5 : World} {n : Nat} {D : List Nat} {v' : Value} (ho : w5.ownsRow w4.heap.size 3 1 v' (0 + n) ([] ++ Pt.i64n D)) (hg : (w4.alloc (.cells #[] 3)).grownBy w5 (Value.slice (some ⟨w4.heap.size, 0, none⟩) 0 0).ownBlock) (h0 : 0 < n) :
  ∃ g2 cap2, w4.heap.size <= g2 /\ Below w4.heap.size w4 w5 /\ Pt.RdI w5 (some ⟨g2, 0, none⟩) (D.map fun (x : Nat) => (x : Int)) /\ v' = .slice (some ⟨g2, 0, none⟩) n cap2 := by
 rw [Nat.zero_add, List.nil_append] at ho
 have hl := ho.1
 unfold Pt.i64n at hl
 rw [List.length_map, Nat.mul_one] at hl
 have hb : Below w4.heap.size w4 w5 := (Pt.below_box (w := w4) (o := .cells #[] 3)).grown hg (by simp) (fun k hk => by
  have : w4.heap.size = k := by simpa [Value.ownBlock] using hk
  omega)
 rcases ho.2 with ⟨_, h2⟩ | ⟨g2, cap2, cur2, rfl, k1, _⟩
 ·omega
 ·exact ⟨g2, cap2, k1, hb, Pt.rdi_own ho hl.symm, rfl⟩
set_option maxHeartbeats 8000000 in
set_option maxRecDepth 100000 in
theorem sb_main (l : List UInt8) (hl : l.length <= 100) (hne : l ≠ []) (w : World) (ht : TbW w) :
  Calls Tryz.prog 8 #[.string ⟨l.toArray⟩] w fun e w' => e = .returned (.bool true) /\ Below w.heap.size w w' := by
 have HT := hid ht
 have hD0 : 0 < (sbs l).length := by unfold sbs; rw [if_neg hne, sbd_cnt]; omega
 have hD9 : (sbs l).length <= 101 := by have := sbs_len l; omega
 have HC := hid (sbs_cnt l)
 clear ht hne
 have hl1 : ¬ (100 : Int) < (l.length : Int) := by omega
 obtain ⟨i0, hi3, hz0, hz1, hz2⟩ := info_parts Tryz.info3
 have HI3 := hid (And.intro hi3 (And.intro hz0 (And.intro hz1 hz2)))
 clear hi3 hz0 hz1 hz2
 have HG1 := hid (sbds_any l w HT.out (by omega))
 have HG2 := hid (fun (W : World) (hb : Below w.heap.size w W) => sbds_any l W (HT.out.below hb) (by omega))
 have HG3 := hid (fun (X : Nat) (W : World) (h : Br.BrAt Dc.snU Dc.snW Pt.snRs false X W) => sbounds9 X l (by omega) W h)
 obtain ⟨D, hD⟩ : ∃ D, D = sbs l := ⟨_, rfl⟩
 rw [<- hD] at hD0 hD9 HC HG1 HG2 HG3
 clear hD
 obtain ⟨n, hn⟩ : ∃ n, n = D.length := ⟨_, rfl⟩
 rw [<- hn] at hD0 hD9 HC
 have HN := hid hn
 go_enter Tryz.func8, Tryz.ntmps8
 go_wp2_with fail
 refine HG1.out.mono ?_
 rintro e w1 h1
 obtain ⟨g, cap, cur, rfl, hg1, hh1, hs1, ho1, hr1, hb1⟩ := ls_form h1 (by rw [<- hn]; exact hD0)
 rw [<- hn] at hs1 ho1 ⊢
 have HR1 := hid hr1
 have HO1 := hid ho1
 have HB1 := hid hb1
 have HH1 := hid hh1
 have HS1 := hid hs1
 have HGg := hid hg1
 clear h1 hg1 hh1 hs1 ho1 hr1 hb1 HG1
 go_wp2_with fail
 refine (new13_any w1).mono ?_
 rintro e w2 ⟨hb2, X, rfl, hX⟩
 have HB2 := hid hb2
 have HX := hid (HG3.out X w2 hX)
 clear hb2 hX HG3
 go_wp2_with fail
 refine HX.out.mono ?_
 rintro e w3 ⟨uo, uc, rfl, ho3, hb3⟩
 have HR3 := hid (Pt.rdi_own ho3 rfl)
 have HB3 := hid (HB2.out.trans (hb3.mono HB2.out.size))
 rw [<- hn]
 clear ho3 hb3 HX HB2 hn
 go_wp2_with fail
 refine (places_any (some ⟨g, 0, none⟩) uo n cap uc _ w3 (HR1.out.below HB3.out) HR3.out (by rw [List.length_map]; exact HN.out) (by omega)).mono ?_
 rintro e w4 ⟨rfl, hb4⟩
 have HB4 := hid (HB3.out.trans (hb4.mono HB3.out.size))
 have HR4 := hid (HR1.out.below HB4.out)
 have HH4 := hid ((HB4.out.block g (Pt.heap_lt HH1.out)).trans HH1.out)
 clear hb4 HB3 HR3 HR1
 have HNW := hid (news_rd (HR4.out.below (Pt.below_box (o := .cells #[] 3))))
 have HDl := hid (show (Pt.i64n D).length = n * 1 by unfold Pt.i64n; rw [List.length_map, <- HN.out, Nat.mul_one])
 go_wp2_with (at_builtin; refine wpList_append_own _ rfl _ _ 23 rfl w4.heap.size 3 i0 (.int .i64 0) 1 8 Tryz.underlying23 HI3.out.1 HI3.out.2.1 HI3.out.2.2.1 HI3.out.2.2.2 rfl (by decide) _ 0 [] rfl (World.ownsRow_lit w4 #[] 0 (Nat.le_refl _) (by decide) (by simp)) ⟨g, 0, none⟩ n cap (Pt.i64n D) rfl HDl.out HNW.out (Pt.i64n_one D) (by unfold maxLen; omega) (by omega) (by simp) ?_; intro v' w5 hown hgrow _; obtain ⟨g2, cap2, hg2, hb5, hr5, rfl⟩ := app_form hown hgrow hD0; have HG52 := hid hg2; have HB5' := hid hb5; have HR5 := hid hr5; clear hown hgrow hg2 hb5 hr5)
 have HB5 := hid (HB4.out.trans (HB5'.out.mono HB4.out.size))
 have HH5 := hid ((HB5'.out.block g (Pt.heap_lt HH4.out)).trans HH4.out)
 have HNe := hid (show g2 ≠ g from fun e => by have := HG52.out; have := Pt.heap_lt HH4.out; omega)
 clear HNW HDl HB5' HR4 HH4 HB4 HO1 HH1
 go_loopw [5] (fun y wr => ∃ i : Nat, y = .int .i64 i /\ i <= n /\ Hid (∃ cs : List Value, wr.heap[g]? = some (.cells cs.toArray 3 (0, 0)) /\ n <= cs.length) /\ Hid (Pt.Ony g w5 wr)) (fun y _ => n - (intOf y).toNat)
 case atStart => exact ⟨0, rfl, Nat.zero_le _, hid ⟨cur.toList, by rw [Array.toArray_toList]; exact HH5.out, by rw [Array.length_toList]; exact HS1.out⟩, hid (Pt.Ony.refl _ _)⟩
 case round =>
  obtain ⟨i, rfl, hi, HE, HO⟩ := hrel
  by_cases hlt : i < n
  ·have k0 : (0 : Int) <= (i : Int) := by omega
   have k1 : (i : Int) < (n : Int) := by omega
   obtain ⟨cs, hcs, hcl⟩ := HE.out
   have c0 := Pt.cell_row wr g i cs 3 cs[i] hcs (List.getElem?_eq_getElem (by omega))
   obtain ⟨z, hz⟩ : ∃ z, z = cs[i] := ⟨_, rfl⟩
   rw [<- hz] at c0
   have f0 := Pt.frozen_row (l := cs.toArray) hcs i
   have HS := hid (show ∃ ds : List Value, (wr.setCell ⟨g, i, none⟩ (.int .i64 (-9))).heap[g]? = some (.cells ds.toArray 3 (0, 0)) /\ n <= ds.length from ⟨_, Pt.set_row wr g i cs 3 (.int .i64 (-9)) hcs, by rw [List.length_set]; exact hcl⟩)
   have HOn := hid (HO.out.trans (Pt.Ony.set g i wr (.int .i64 (-9))))
   clear hz hcs hcl HE HO
   go_wp2
   go_roundw
   case rel => exact ⟨i + 1, by go_num, by omega, HS, HOn⟩
   case measure => simp [intOf]; omega
  ·have k1 : ¬ (i : Int) < (n : Int) := by omega
   have HBr := hid (HB1.out.trans ((HB5.out.mono HB1.out.size).trans (HO.out.below HGg.out)))
   have HRr := hid (rdi_oth HR5.out HO.out HNe.out)
   clear HE HO HR5 HH5
   go_wp2_with fail
   refine (HG2.out wr HBr.out).mono ?_
   rintro e w6 ⟨vo, vc, rfl, ho6, hb6⟩
   have HR6 := hid (Pt.rdi_own ho6 rfl)
   have HRb := hid (HRr.out.below hb6)
   have HB6 := hid (HBr.out.trans (hb6.mono HBr.out.size))
   rw [<- HN.out]; clear ho6 hb6 HRr HG2
   go_wp2_with fail
   refine (places_any vo (some ⟨g2, 0, none⟩) n vc cap2 _ w6 HR6.out HRb.out (by rw [List.length_map]; exact HN.out) (by omega)).mono ?_
   rintro e w7 ⟨rfl, hb7⟩; have HB7 := hid (HB6.out.trans (hb7.mono HB6.out.size))
   clear hb7 HB6 HRb HR6
   go_wp2_with fail
   refine (scount_any l w7 (HT.out.below HB7.out) (by omega)).mono ?_
   rintro e w8 ⟨rfl, hb8⟩; have HB8 := hid (HB7.out.trans (hb8.mono HB7.out.size))
   have hc := HC.out
   rw [<- hc]; clear hb8 HB7; have e1 : IntKind.i64.wrap ((n : Int) - 1) = (n : Int) - 1 := by unfold IntKind.wrap IntKind.bits IntKind.signed; simp; omega
   go_wp2_with fail
   refine (lives13 w8).mono ?_
   rintro e w9 ⟨rfl, hb9⟩; have HB9 := hid (HB8.out.trans (hb9.mono HB8.out.size))
   clear hb9 HB8
   go_wp2
   go_ret; exact ⟨rfl, HB9.out⟩
set_option maxHeartbeats 8000000 in
set_option maxRecDepth 100000 in
theorem sb_nil (w : World) (ht : TbW w) :
  Calls Tryz.prog 8 #[.string ⟨([] : List UInt8).toArray⟩] w fun e w' => e = .returned (.bool true) /\ Below w.heap.size w w' := by
 have HT := hid ht
 clear ht
 obtain ⟨i0, hi3, hz0, hz1, hz2⟩ := info_parts Tryz.info3
 have HI3 := hid (And.intro hi3 (And.intro hz0 (And.intro hz1 hz2)))
 clear hi3 hz0 hz1 hz2
 go_enter Tryz.func8, Tryz.ntmps8
 go_wp2_with fail
 refine (sbds_nil w).mono ?_
 rintro e w1 ⟨rfl, hb1⟩
 have HB1 := hid hb1
 clear hb1
 go_wp2_with fail
 refine (new13_any w1).mono ?_
 rintro e w2 ⟨hb2, X, rfl, hX⟩
 have HB2 := hid (HB1.out.trans (hb2.mono HB1.out.size))
 have HX := hid (sbounds9 X [] (by decide) w2 hX)
 clear hb2 hX HB1
 go_wp2_with fail
 refine HX.out.mono ?_
 rintro e w3 ⟨uo, uc, rfl, ho3, hb3⟩
 have HB3 := hid (HB2.out.trans (hb3.mono HB2.out.size))
 clear ho3 hb3 HX HB2
 go_wp2_with fail
 refine (places_any none uo 0 0 uc [] w3 (fun k z hk => by simp at hk) (fun k z hk => by simp at hk) rfl (by omega)).mono ?_
 rintro e w4 ⟨rfl, hb4⟩
 have HB4 := hid (HB3.out.trans (hb4.mono HB3.out.size))
 clear hb4 HB3
 go_wp2_with (at_builtin; refine wpList_append_own_none rfl _ _ 23 rfl w4.heap.size 3 i0 1 Tryz.underlying23 HI3.out.1 _ 0 [] rfl (World.ownsRow_lit (size := 1) w4 #[] 0 (Nat.le_refl _) (by decide) (by simp)) rfl ?_)
 obtain ⟨w5, hw5⟩ : ∃ w5, w5 = w4.alloc (.cells #[] 3) := ⟨_, rfl⟩
 have HB5 := hid (show Below w.heap.size w w5 by rw [hw5]; exact HB4.out.trans ((Pt.below_box (w := w4) (o := .cells #[] 3)).mono HB4.out.size))
 obtain ⟨q, hq⟩ : ∃ q, q = w4.heap.size := ⟨_, rfl⟩
 rw [<- hw5, <- hq]
 clear hw5 hq HB4
 go_loopw [5] (fun y wr => y = .int .i64 0 /\ wr = w5) (fun _ _ => 0)
 case atStart => exact ⟨rfl, rfl⟩
 case round =>
  obtain ⟨rfl, rfl⟩ := hrel
  go_wp2_with fail
  refine (sbds_nil wr).mono ?_
  rintro e w6 ⟨rfl, hb6⟩; have HB6 := hid (HB5.out.trans (hb6.mono HB5.out.size))
  clear hb6 HB5
  go_wp2_with fail
  refine (places_any none _ 0 0 0 [] w6 (fun k z hk => by simp at hk) (fun k z hk => by simp at hk) rfl (by omega)).mono ?_
  rintro e w7 ⟨rfl, hb7⟩; have HB7 := hid (HB6.out.trans (hb7.mono HB6.out.size))
  clear hb7 HB6
  go_wp2_with fail
  refine (scount_any [] w7 (HT.out.below HB7.out) (by decide)).mono ?_
  rintro e w8 ⟨rfl, hb8⟩; have HB8 := hid (HB7.out.trans (hb8.mono HB7.out.size))
  rw [scnt_0, show ((0 : Nat) : Int) = 0 from rfl]
  clear hb8 HB7; have e1 : IntKind.i64.wrap ((0 : Int) - 1) = -1 := by decide
  have e2 : IntKind.i64.wrap (-1) = -1 := by decide
  have e3 : max (-1 : Int) 0 = 0 := by decide
  have e5 : (-1 : Int) < 0 := by decide
  clear HI3
  go_wp2_with fail
  refine (lives13 w8).mono ?_
  rintro e w9 ⟨rfl, hb9⟩; have HB9 := hid (HB8.out.trans (hb9.mono HB8.out.size))
  clear hb9 HB8
  go_wp2
  go_ret; exact ⟨rfl, HB9.out⟩
set_option maxRecDepth 100000 in
theorem sb_walk (l : List UInt8) (w : World) (ht : TbW w) :
  Calls Tryz.prog 8 #[.string ⟨l.toArray⟩] w fun e w' => e = .returned (.bool true) /\ Below w.heap.size w w' := by
 by_cases h0 : 100 < l.length
 ·have HL := hid (lives13 w)
  have h1 : (100 : Int) < (l.length : Int) := by omega
  clear ht
  go_enter Tryz.func8, Tryz.ntmps8
  go_wp2_with fail
  refine HL.out.mono ?_
  rintro e w1 ⟨rfl, hb⟩; have HB := hid hb
  clear hb HL
  go_wp2
  go_ret; exact ⟨rfl, HB.out⟩
 by_cases hne : l = []
 ·subst hne
  exact sb_nil w ht
 ·exact sb_main l (by omega) hne w ht
end Go.Proofs.YtdpohgoikbeplaaGreatDoor.Sn
