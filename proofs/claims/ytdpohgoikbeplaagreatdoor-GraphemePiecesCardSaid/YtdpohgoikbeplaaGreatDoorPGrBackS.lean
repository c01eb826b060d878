/- GrBackS, GrAro, GrNx, PwKit: parts of the proof, joined. -/
import Derived.Test.YtdpohgoikbeplaaGreatDoorPGrBack
import Derived.Test.YtdpohgoikbeplaaGreatDoorPRngO
namespace Go.Proofs.YtdpohgoikbeplaaGreatDoor.Wt
open Go.RowKit Go.Shelf
attribute [local go_sem] Oper.semAt_some
set_option maxHeartbeats 2000000 in
theorem geach_s (n : Nat) (hn : 1 <= n) (Bs : Nat) (l : List UInt8) (L : List (Pl l)) (hL : L.map Pl.v = gpF l 0) (w : World) (hR : WaAt Bs l w) (hl : l.length <= 1000000000) :
  SeqS Fence.wide n Tryz.prog 60 #[.pointer (some ⟨Bs, 0, none⟩)] encP (KrW (KW Bs)) (fun xs => xs = L) (fun pre => pre <+: L) w := fun lp J Jx W hbW hJ hJx hY h0 => by
 have HRW := hid (hR.below hbW)
 have hcW := HRW.out.bs.cell
 have HLL := hid hL
 clear hR hbW hL
 refine callsIn_of_wp Tryz.func60 rfl trivial ?_ rfl
 simp only [Tryz.ntmps60, List.size_toArray, List.length_cons, List.length_nil, Nat.reduceAdd, Nat.reduceSub, Array.replicate_succ, Array.replicate_zero, List.push_toArray, List.append_toArray, List.nil_append, List.cons_append]
 gi_wp2
 gi_loopw [3] (fun v wr => ∃ (p : Nat) (pre rest : List (Pl l)), v = .int .i64 p /\ p <= l.length /\ Hid (rest.map Pl.v = gpF l p) /\ Hid (L = pre ++ rest) /\ Hid (J pre wr) /\ Hid (WaAt Bs l wr)) (fun v _ => l.length - (intOf v).toNat)
 case atStart => exact ⟨0, [], L, rfl, Nat.zero_le _, HLL, rfl, h0, HRW⟩
 case round =>
  obtain ⟨p, pre, rest, rfl, hp, HC, HP, HJ, HR⟩ := hrel
  clear hcW; have hc := HR.out.bs.cell
  by_cases hlt : p < l.length
  ·have hlti : (p : Int) < (l.length : Int) := by omega
   obtain ⟨hb1, hb2⟩ := gst l p hlt
   have HDN := hid (drop_ne l p hlt)
   have HDL := hid (show (l.drop p).length <= 1000000000 by rw [List.length_drop]; omega)
   obtain ⟨x, R, rfl⟩ : ∃ x R, rest = x :: R := by
    cases rest with
    | nil => have h1 := HC.out; rw [gp_step l p hlt] at h1; cases h1
    | cons x R => exact ⟨x, R, rfl⟩
   have hx := HC.out
   rw [gp_step l p hlt, List.map_cons] at hx
   have HX := hid (List.cons.inj hx).1
   have HRR := hid (List.cons.inj hx).2
   clear hx HC
   gi_wp2_with fail
   rw [ext_drop]; refine ⟨trivial, (callsIn_wide.2 (gfirst_any (l.drop p) wr HR.out.tb HDL.out HDN.out)).mono ?_⟩
   rintro e w1 ⟨rfl, be1⟩; have HJ1 := hid (hJ pre wr w1 none HJ.out (wgrown be1) (fun r e => by cases e))
   have HR1 := hid (HR.out.below be1)
   obtain ⟨q, hq⟩ : ∃ q, q = gfs (l.drop p) := ⟨_, rfl⟩
   rw [<- hq] at hb1 hb2 HX HRR
   rw [<- hq]; clear be1 hq HJ HR hc; have HP2 := hid (show L = (pre ++ [x]) ++ R by rw [HP.out, List.append_assoc]; rfl)
   obtain ⟨fn, tmps, assign, body, hy, hRR⟩ := hY pre x w1 HJ1.out ⟨R, by rw [HP2.out]⟩
   dsimp only [encP] at hy
   rw [HX.out] at hy
   simp only [Int.natCast_add] at hy
   clear hY
   gi_wp2; refine hRR.mono ?_
   rintro e W3 ⟨_, (⟨rfl, hJ3, hk3⟩ | ⟨rfl, hJx3⟩)⟩
   ·have HJ3 := hid hJ3
    have HR3 := hid (HR1.out.keeps hk3.1.size hk3.2)
    clear hJ3 hk3
    gi_wp2
    go_roundw
    case rel => exact ⟨p + q, pre ++ [x], R, by rw [Int.natCast_add], hb2, HRR, HP2, HJ3, HR3⟩
    case measure => simp [intOf]; omega
   ·have HJX := hid hJx3
    clear hJx3
    gi_wp2; refine bodyPost_ret (results_none rfl _ _ _) rfl ?_
    exact ⟨⟨_, rfl⟩, .inr ⟨pre ++ [x], ⟨R, by rw [HP2.out]⟩, HJX.out⟩⟩
  ·have hlti : ¬ (p : Int) < (l.length : Int) := by omega
   have HE := hid (show L = pre by
    cases rest with
    | nil => rw [HP.out, List.append_nil]
    | cons x R => have h1 := HC.out; rw [gp_end l p hlt] at h1; cases h1)
   gi_wp2
   go_end0
   exact ⟨⟨_, rfl⟩, .inl (by rw [HE.out]; exact HJ.out)⟩
set_option maxHeartbeats 8000000 in
set_option maxRecDepth 100000 in
theorem gback_s (n : Nat) (hn : 3 <= n) (Bs B0 : Nat) (l : List UInt8) (L : List (Pl l)) (hL : L.map Pl.v = bkR l (rl l).length) (w : World) (hB0 : B0 <= w.heap.size) (hR : WaAt Bs l w) (hl : l.length <= 100000000) :
  SeqS Fence.wide n Tryz.prog 62 #[.pointer (some ⟨Bs, 0, none⟩)] encP (KrB (KW Bs) B0) (fun xs => xs = L) (fun pre => pre <+: L) w := fun lp J Jx W hbW hJ hJx hY h0 => by
 have HRW := hid (hR.below hbW)
 have hcW := HRW.out.bs.cell
 have HLL := hid hL
 have hBW : B0 <= W.heap.size := Nat.le_trans hB0 hbW.size
 clear hR hbW hL
 refine callsIn_of_wp Tryz.func62 rfl trivial ?_ rfl
 simp only [Tryz.ntmps62, List.size_toArray, List.length_cons, List.length_nil, Nat.reduceAdd, Nat.reduceSub, Array.replicate_succ, Array.replicate_zero, List.push_toArray, List.append_toArray, List.nil_append, List.cons_append]
 gi_wp2
 gi_loopw [3] (fun v wr => ∃ (p k : Nat) (pre rest : List (Pl l)), v = .int .i64 p /\ p <= l.length /\ Hid (p = pos l k) /\ Hid (k <= (rl l).length) /\ Hid (rest.map Pl.v = bkR l k) /\ Hid (L = pre ++ rest) /\ Hid (J pre wr) /\ Hid (WaAt Bs l wr) /\ B0 <= wr.heap.size) (fun v _ => (intOf v).toNat)
 case atStart => exact ⟨l.length, (rl l).length, [], L, rfl, Nat.le_refl _, (pos_all l _ (Nat.le_refl _)).symm, Nat.le_refl _, HLL, rfl, h0, HRW, hBW⟩
 case round =>
  obtain ⟨p, k, pre, rest, rfl, hp, HPK, HKN, HC, HP, HJ, HR, hBr⟩ := hrel
  clear hcW; have hc := HR.out.bs.cell
  by_cases hlt : 0 < p
  ·have hlti : (0 : Int) < (p : Int) := by omega
   obtain ⟨k', hk'⟩ : ∃ k', k = k' + 1 := ⟨k - 1, by
    rcases Nat.eq_zero_or_pos k with h | h
    ·have h1 := HPK.out; rw [h, pos_0] at h1; omega
    ·omega⟩
   subst hk'
   have hkn : k' < (rl l).length := HKN.out
   have HBK := hid (show backE l (p : Int) = (pos l k' : Nat) by rw [HPK.out]; exact back_pos l k' hkn)
   have HST := hid (bk_step l k' hkn)
   rw [<- HPK.out] at HST
   have hBp : pos l (gsu l k') < p := by rw [HPK.out]; exact seg_pos l k' hkn
   have HGL := hid (gsu_le l k')
   obtain ⟨b, hb⟩ : ∃ b, b = pos l (gsu l k') := ⟨_, rfl⟩
   obtain ⟨q, hq⟩ : ∃ q, q = pos l k' := ⟨_, rfl⟩
   rw [<- hb] at HST hBp
   rw [<- hq] at HBK
   have HBE := hid hb
   have HQ := hid hq
   have HKL := hid hkn
   clear hb hq hkn; obtain ⟨sg, hsg⟩ : ∃ sg, sg = (l.take p).drop b := ⟨_, rfl⟩
   rw [<- hsg] at HST
   have HEX := hid (show (⟨l.toArray⟩ : ByteArray).extract b p = ⟨sg.toArray⟩ by rw [hsg]; exact ext_piece l b p (by omega))
   have hsl : sg.length = p - b := by rw [hsg, List.length_drop, List.length_take]; omega
   have HSL := hid hsl
   have HSN := hid (show sg ≠ [] from fun e => by rw [e] at hsl; simp only [List.length_nil] at hsl; omega)
   clear hsg hsl; obtain ⟨M, hM, hMl⟩ := gp_all sg _ 0 (Nat.le_refl _)
   have HM := hid hM
   have hml : M.length <= 100000000 := by have := HSL.out; omega
   clear hM hMl
   gi_wp2; refine wpIn_region_mixW _ [(0, true), (1, true), (2, true), (3, false), (4, false), (5, false)] (fun w' => w'.cell? ⟨Bs, 0, none⟩ = some (.string ⟨l.toArray⟩)) (fun j => j == 5) (by kernel_rfl) (by kernel_rfl) (by kernel_rfl) ?hs rfl (by kernel_rfl) hc ?hm
   case hs =>
    intro j hj
    have e : j = 5 := by simpa using hj
    subst e
    decide
   iterate 3 (refine mix_free ?_ rfl (by kernel_rfl) (fun w' hS => ?_) ?_; (rotate_left; (go_simp; with_reducible rfl); rotate_left))
   refine mix_go rfl (by kernel_rfl) fun KK hKK => ?_
   go_simp; have HRd := hid (HR.out.below ((Below.refl _ _).drew))
   refine (back_any l (p : Int) wr.drew (by omega) HRd.out.tb.tabs HRd.out.tb.two).mono ?_
   rintro e w1 ⟨rfl, be1⟩; rw [HBK.out]; have HE1 := hid (show Below wr.heap.size wr w1 from ((Below.refl _ _).drew).trans be1)
   have HR1 := hid (HRd.out.below be1)
   refine hKK _ _ (fun _ => HR1.out.bs.cell) ?_
   clear hKK KK be1; refine mix_go rfl (by kernel_rfl) fun KK hKK => ?_
   go_simp; refine (gsure_any l k' q w1 HR1.out.tb (by omega) (Nat.le_of_lt HKL.out) HQ.out).mono ?_
   rintro e w2 ⟨rfl, be2⟩; rw [<- HBE.out]; have HE2 := hid (HE1.out.trans (be2.mono HE1.out.size))
   have HR2 := hid (HR1.out.below be2)
   refine hKK _ _ (fun _ => HR2.out.bs.cell) ?_
   clear hKK KK be2; refine mix_go rfl (by kernel_rfl) fun KK hKK => ?_
   go_simp; refine hKK _ _ (fun h => by cases h) ?_
   clear hKK KK; refine mix_end (OnlyN.in ?_)
   have hc2 := HR2.out.bs.cell
   clear hc
   gi_wp2_with fail
   rw [HEX.out]; refine ⟨trivial, fun _ => by omega, (callsIn_wide.2 (gbounds_any sg M HM.out w2 HR2.out.tb (by have := HSL.out; omega) HSN.out)).mono ?_⟩
   rintro e w3 ⟨v, rfl, hown, be3⟩
   have hgl : (gtos M).length = M.length + 1 := by simp [gtos]
   rw [hgl] at hown
   obtain ⟨g, cap, rfl⟩ := ownsRow_succ hown
   obtain ⟨hrw, hg⟩ := rwb_own hown (by rw [hgl])
   have HE3 := hid (HE2.out.trans (be3.mono HE2.out.size))
   have HRW3 := hid hrw
   have HR3 := hid (HR2.out.below be3)
   have hgB : B0 <= g := by have := HE2.out.size; omega
   have HJ3 := hid (hJ pre wr w3 none HJ.out (wgrown HE3.out) (fun r e => by cases e))
   have hB3 : B0 <= w3.heap.size := by have := HE3.out.size; omega
   clear hown be3 hrw hg hgl hc2 HR HR1 HR2 HRd HJ HE1 HE2 HE3; obtain ⟨R1, R2, rfl, hR1, hR2⟩ : ∃ R1 R2, rest = R1 ++ R2 /\ R1.map Pl.v = ((M.take M.length).map fun x => (b + x.v.1, b + x.v.2)).reverse /\ R2.map Pl.v = bkR l (gsu l k') := by
    have h := HC.out
    rw [HST.out, <- HM.out, List.map_map] at h
    obtain ⟨R1, R2, e1, e2, e3⟩ := List.map_eq_append_iff.1 h
    exact ⟨R1, R2, e1, by rw [List.take_length]; exact e2, e3⟩
   have HR2L := hid hR2
   have HR1L := hid hR1
   have HGT := hid (gtos_at M HM.out)
   have HRS := hid (fun r2 i hi h => rest_step (l := l) b M r2 i hi h)
   have HPM := hid (show ∀ i (hi : i < M.length), (M[i]).v.1 <= 100000000 /\ (M[i]).v.2 <= 100000000 from fun i hi => by
    have h1 := (M[i]).lt
    have h2 := (M[i]).le
    have h3 := HSL.out
    omega)
   clear hR1 hR2 HC HST; have hw3 : W.heap.size <= W.heap.size := Nat.le_refl _
   gi_wp2
   gi_loopw [6] (fun v wr2 => ∃ (i : Nat) (pre2 r2 : List (Pl l)), v = .int .i64 i /\ i <= M.length /\ Hid (r2.map Pl.v = ((M.take i).map fun x => (b + x.v.1, b + x.v.2)).reverse) /\ Hid (L = pre2 ++ (r2 ++ R2)) /\ Hid (J pre2 wr2) /\ Hid (WaAt Bs l wr2) /\ Hid (RwB wr2 g (gtos M)) /\ B0 <= wr2.heap.size) (fun v _ => (intOf v).toNat)
   case atStart => exact ⟨M.length, pre, R1, by go_num, Nat.le_refl _, HR1L, HP, HJ3, HR3, HRW3, hB3⟩
   case round =>
    obtain ⟨i, pre2, r2, rfl, hiM, HR2M, HP2, HJ2, HRa, HRb, hB2⟩ := hrel
    clear HJ3 HR3 HRW3 HP HR1L
    by_cases hi0 : 0 < i
    ·have hi0i : (0 : Int) < (i : Int) := by omega
     obtain ⟨i', hi'⟩ : ∃ i', i = i' + 1 := ⟨i - 1, by omega⟩
     subst hi'
     have him : i' < M.length := by omega
     obtain ⟨x, r', hr2, hxv, hr'⟩ := HRS.out r2 i' him HR2M.out
     subst hr2; obtain ⟨t1, t2⟩ := HGT.out i' him
     obtain ⟨m1, m2⟩ := HPM.out i' him
     obtain ⟨f, hf⟩ : ∃ f, f = (M[i']).v.1 := ⟨_, rfl⟩
     obtain ⟨y, hy⟩ : ∃ y, y = (M[i']).v.2 := ⟨_, rfl⟩
     rw [<- hf] at t1 m1 hxv
     rw [<- hy] at t2 m2 hxv
     have q1 : wr.drew.cell? ⟨g, i', none⟩ = some (.int .i64 f) := HRb.out.2 i' _ t1
     have q2 : wr.drew.cell? ⟨g, i' + 1, none⟩ = some (.int .i64 y) := HRb.out.2 (i' + 1) _ t2
     have HJd := hid (hJ pre2 wr wr.drew none HJ2.out (wgrown ((Below.refl _ _).drew)) (fun r e => by cases e))
     have HXV := hid hxv
     have HR' := hid hr'
     have HPX := hid (show L = (pre2 ++ [x]) ++ (r' ++ R2) by rw [HP2.out]; simp)
     obtain ⟨fn, tmps, assign, body, hyy, hRR⟩ := hY pre2 x wr.drew HJd.out ⟨r' ++ R2, HPX.out.symm⟩
     dsimp only [encP] at hyy
     rw [hxv] at hyy
     simp only [Int.natCast_add] at hyy
     have wi : IntKind.i64.wrap (i' : Int) = (i' : Int) := by rw [IntKind.wrap_i64]; omega
     have wi2 : IntKind.i64.wrap ((i' : Int) + 1 - 1) = (i' : Int) := by rw [IntKind.wrap_i64]; omega
     have wf : IntKind.i64.wrap ((b : Int) + f) = (b : Int) + f := by rw [IntKind.wrap_i64]; omega
     have wy : IntKind.i64.wrap ((b : Int) + y) = (b : Int) + y := by rw [IntKind.wrap_i64]; omega
     have z1 : (0 : Int) <= (i' : Int) + 1 := by omega
     have z2 : (0 : Int) <= (i' : Int) := by omega
     have z3 : (i' : Int) < (M.length : Int) + 1 := by omega
     have z4 : (i' : Int) + 1 < (M.length : Int) + 1 := by omega
     clear hf hy hxv hr' t1 t2
     gi_wp2; refine wpIn_region_any (by kernel_rfl) ?_
     change wpAnyIn _ _ _ _ _ _ _ _ _ (World.drew _)
     refine wpAnyIn_take (i := 0) (v := ?_) rfl rfl (by kernel_rfl) (by kernel_rfl) (by kernel_rfl) (fun _ _ _ h => h) ⟨Or.inl ⟨by rfl, ?_⟩, fun _ => rfl⟩ ?_
     rotate_left
     ·intro w
      go_simp
      with_reducible rfl
     refine wpAnyIn_take (i := 1) (v := ?_) rfl rfl (by kernel_rfl) (by kernel_rfl) (by kernel_rfl) (fun _ _ _ h => h) ⟨Or.inl ⟨by rfl, ?_⟩, fun _ => rfl⟩ ?_
     rotate_left
     ·intro w
      go_simp
      with_reducible rfl
     refine wpAnyIn_take (i := 2) (v := ?_) rfl rfl (by kernel_rfl) (by kernel_rfl) (by kernel_rfl) (fun _ _ _ h => h) ⟨Or.inl ⟨by rfl, ?_⟩, fun _ => rfl⟩ ?_
     rotate_left
     ·intro w
      go_simp
      with_reducible rfl
     refine wpAnyIn_take (i := 3) (v := ?_) rfl rfl (by kernel_rfl) (by kernel_rfl) (by kernel_rfl) (fun _ _ _ h => h) ⟨Or.inl ⟨by rfl, ?_⟩, fun _ => rfl⟩ ?_
     rotate_left
     ·intro w
      go_simp
      with_reducible rfl
     refine wpAnyIn_take (i := 4) (v := ?_) rfl rfl (by kernel_rfl) (by kernel_rfl) (by kernel_rfl) (fun _ _ _ h => h) ⟨Or.inl ⟨by rfl, ?_⟩, fun _ => rfl⟩ ?_
     rotate_left
     ·intro w
      go_simp
      with_reducible rfl
     refine wpAnyIn_take (i := 5) (v := ?_) rfl rfl (by kernel_rfl) (by kernel_rfl) (by kernel_rfl) (fun _ _ _ h => h) ⟨Or.inl ⟨by rfl, ?_⟩, fun _ => rfl⟩ ?_
     rotate_left
     ·intro w
      go_simp
      with_reducible rfl
     refine wpAnyIn_take (i := 8) (v := ?_) rfl rfl (by kernel_rfl) (by kernel_rfl) (by kernel_rfl) (fun _ _ _ h => h) ⟨Or.inl ⟨by rfl, ?_⟩, fun _ => rfl⟩ ?_
     rotate_left
     ·intro w
      go_simp
      with_reducible rfl
     refine wpAnyIn_take (i := 9) (v := ?_) rfl rfl (by kernel_rfl) (by kernel_rfl) (by kernel_rfl) (fun _ _ _ h => h) ⟨Or.inl ⟨by rfl, ?_⟩, fun _ => rfl⟩ ?_
     rotate_left
     ·intro w
      go_simp
      with_reducible rfl
     refine wpAnyIn_take (i := 10) (v := ?_) rfl rfl (by kernel_rfl) (by kernel_rfl) (by kernel_rfl) (fun _ _ _ h => h) ⟨Or.inl ⟨by rfl, ?_⟩, fun _ => rfl⟩ ?_
     rotate_left
     ·intro w
      go_simp
      with_reducible rfl
     refine wpAnyIn_take (i := 11) (v := ?_) rfl rfl (by kernel_rfl) (by kernel_rfl) (by kernel_rfl) (fun _ _ _ h => h) ⟨Or.inl ⟨by rfl, ?_⟩, fun _ => rfl⟩ ?_
     rotate_left
     ·intro w
      go_simp
      with_reducible rfl
     refine wpAnyIn_ready (rs := [6, 12]) (by kernel_rfl) (by simp) ?_
     refine AllReadyIn.cons rfl (fun KA hKA => ?_) (AllReadyIn.cons rfl (fun KA hKA => ?_) AllReadyIn.nil)
     rotate_left
     go_simp; refine hKA _ _ ?_
     clear hKA KA; refine wpAnyIn_take (i := 13) (v := ?_) rfl rfl (by kernel_rfl) (by kernel_rfl) (by kernel_rfl) (fun _ _ _ h => h) ⟨Or.inl ⟨by rfl, ?_⟩, fun _ => rfl⟩ ?_
     rotate_left
     ·intro w
      go_simp
      with_reducible rfl
     refine wpAnyIn_ready (rs := [6]) (by kernel_rfl) (by simp) ?_
     refine AllReadyIn.cons rfl (fun KB hKB => ?_) AllReadyIn.nil
     go_simp; refine hKB _ _ ?_
     clear hKB KB; refine wpAnyIn_take (i := 7) (v := ?_) rfl rfl (by kernel_rfl) (by kernel_rfl) (by kernel_rfl) (fun _ _ _ h => h) ⟨Or.inl ⟨by rfl, ?_⟩, fun _ => rfl⟩ ?_
     rotate_left
     ·intro w
      go_simp
      with_reducible rfl
     rotate_left
     go_simp; refine hKA _ _ ?_
     clear hKA KA; refine wpAnyIn_take (i := 7) (v := ?_) rfl rfl (by kernel_rfl) (by kernel_rfl) (by kernel_rfl) (fun _ _ _ h => h) ⟨Or.inl ⟨by rfl, ?_⟩, fun _ => rfl⟩ ?_
     rotate_left
     ·intro w
      go_simp
      with_reducible rfl
     refine wpAnyIn_ready (rs := [12]) (by kernel_rfl) (by simp) ?_
     refine AllReadyIn.cons rfl (fun KB hKB => ?_) AllReadyIn.nil
     go_simp; refine hKB _ _ ?_
     clear hKB KB; refine wpAnyIn_take (i := 13) (v := ?_) rfl rfl (by kernel_rfl) (by kernel_rfl) (by kernel_rfl) (fun _ _ _ h => h) ⟨Or.inl ⟨by rfl, ?_⟩, fun _ => rfl⟩ ?_
     rotate_left
     ·intro w
      go_simp
      with_reducible rfl
     all_goals (
      refine wpAnyIn_ready (rs := [14]) (by kernel_rfl) (by simp) ?_
      refine AllReadyIn.cons rfl (fun KY hKY => ?_) AllReadyIn.nil
      go_simp; refine ⟨fun _ => by omega, hRR.mono ?_⟩
      rintro e W3 ⟨_, (⟨rfl, hJ3, hk3⟩ | ⟨rfl, hJx3⟩)⟩
      ·have HJ3 := hid hJ3
       have HR3 := hid (HRa.out.keeps (w' := W3) hk3.1.1.size (fun k hk => hk3.1.2 k hk))
       have HB3 := hid (HRb.out.keeps (W' := W3) (fun c fz h => hk3.2 g c fz hgB h))
       have hB4 : B0 <= W3.heap.size := Nat.le_trans hB2 hk3.1.1.size
       refine hKY _ _ ?_
       clear hKY KY hJ3 hk3; refine wpAnyIn_take (i := 15) (v := ?_) rfl rfl (by kernel_rfl) (by kernel_rfl) (by kernel_rfl) (fun _ _ _ h => h) ⟨Or.inl ⟨by rfl, ?_⟩, fun _ => rfl⟩ ?_
       rotate_left
       ·intro w
        go_simp
        with_reducible rfl
       refine wpAnyIn_done (by kernel_rfl) ?_ _
       gi_wp2
       go_roundw
       case rel => exact ⟨i', pre2 ++ [x], r', by go_num, by omega, HR', HPX, HJ3, HR3, HB3, hB4⟩
       case measure => simp [intOf]
      ·have HJX := hid hJx3
       refine hKY _ _ ?_
       clear hKY KY hJx3; refine wpAnyIn_take (i := 15) (v := ?_) rfl rfl (by kernel_rfl) (by kernel_rfl) (by kernel_rfl) (fun _ _ _ h => h) ⟨Or.inl ⟨by rfl, ?_⟩, fun _ => rfl⟩ ?_
       rotate_left
       ·intro w
        go_simp
        with_reducible rfl
       refine wpAnyIn_done (by kernel_rfl) ?_ _
       gi_wp2; refine bodyPost_ret (results_none rfl _ _ _) rfl ?_
       exact ⟨⟨_, rfl⟩, .inr ⟨pre2 ++ [x], ⟨r' ++ R2, HPX.out.symm⟩, HJX.out⟩⟩)
    ·have hi0i : ¬ (0 : Int) < (i : Int) := by omega
     obtain rfl : i = 0 := by omega
     obtain rfl : r2 = [] := List.map_eq_nil_iff.1 HR2M.out
     have HPE := hid (show L = pre2 ++ R2 from HP2.out)
     gi_wp2
     go_roundw
     case rel => exact ⟨b, gsu l k', pre2, R2, rfl, by omega, HBE, by show gsu l k' <= _; have := HGL.out; have := HKL.out; omega, HR2L, HPE, HJ2, HRa, hB2⟩
     case measure => simp [intOf]; omega
  ·have hlti : ¬ (0 : Int) < (p : Int) := by omega
   have HE := hid (show L = pre by
    have hk0 : k = 0 := by
     rcases Nat.eq_zero_or_pos k with h | h
     ·exact h
     ·obtain ⟨k', rfl⟩ : ∃ k', k = k' + 1 := ⟨k - 1, by omega⟩
      have h1 := pos_lt l k' HKN.out
      have h2 := HPK.out
      omega
    have h := HC.out
    rw [hk0, bkR_0] at h
    rw [HP.out, List.map_eq_nil_iff.1 h, List.append_nil])
   gi_wp2
   go_end0
   exact ⟨⟨_, rfl⟩, .inl (by rw [HE.out]; exact HJ.out)⟩
end Go.Proofs.YtdpohgoikbeplaaGreatDoor.Wt
namespace Go.Proofs.YtdpohgoikbeplaaGreatDoor.Wt
open Go.RowKit Go.Shelf
attribute [local go_sem] Oper.semAt_some
theorem plc_begin : ∀ (M : List (List (Nat × Nat))) (q : Nat) (U V : List (Nat × Nat)) (x : Nat × Nat), plc q M = U ++ x :: V -> x.1 = q \/ ∃ y ∈ U, x.1 = y.2
 | [], _, U, V, x, h => by cases U <;> cases h
 | z :: M, q, [], V, x, h => by
  rw [plc, List.nil_append] at h
  left
  rw [<- (List.cons.inj h).1]
 | z :: M, q, u :: U, V, x, h => by
  rw [plc, List.cons_append] at h
  obtain ⟨h1, h2⟩ := List.cons.inj h
  right
  rcases plc_begin M _ U V x h2 with e | ⟨y, hy, e⟩
  ·exact ⟨u, List.mem_cons_self .., by rw [e, <- h1]⟩
  ·exact ⟨y, List.mem_cons_of_mem _ hy, e⟩
theorem around_at (l : List UInt8) (p k B : Nat) (hk : k < (rl l).length) (hp : pos l k <= p) (hB : B = pos l (gsu l k)) (L pre : List (Pl (l.drop B))) (hL : L.map Pl.v = gpF (l.drop B) 0) (x : Pl (l.drop B)) (h : pre ++ [x] <+: L) (h1 : ∀ y ∈ pre, B + y.v.2 <= p) :
  (B + x.v.1, B + x.v.2) ∈ gpF l 0 /\ B + x.v.1 <= p := by
 have hBp : B <= p := by
  have := pos_leq l (gsu l k) k (gsu_le l k) (Nat.le_of_lt hk)
  omega
 obtain ⟨R, hR⟩ := h
 have hS : gpF (l.drop B) 0 = pre.map Pl.v ++ x.v :: R.map Pl.v := by
  rw [<- hL, <- hR, List.append_assoc, List.map_append]; rfl
 refine ⟨?_, ?_⟩
 ·rw [gp_split l k hk, <- hB, gp_shift l B, hS, List.map_append, List.map_cons]
  exact List.mem_append_right _ (List.mem_append_right _ (List.mem_cons_self ..))
 ·rcases plc_begin _ _ _ _ _ hS with e | ⟨y, hy, e⟩
  ·rw [e]; omega
  ·obtain ⟨z, hz, rfl⟩ := List.mem_map.1 hy
   rw [e]; exact h1 z hz
set_option maxHeartbeats 4000000 in
set_option maxRecDepth 100000 in
theorem garound_in (l : List UInt8) (p : Nat) (w : World) (ht : TbW w) (hl : l.length <= 100000000) (hp : p < l.length) :
  CallsIn Fence.wide 3 Tryz.prog 18 #[.string ⟨l.toArray⟩, .int .i64 p] w fun e W' => ∃ f t : Nat, e = .returned (.tuple #[.int .i64 f, .int .i64 t]) /\ ((f, t) ∈ gpF l 0 /\ f <= p /\ p < t) /\ Below w.heap.size w W' := by
 have HT := hid ht
 clear ht
 obtain ⟨k, hk, hk1, hk2⟩ := rune_at l p hp
 have HBK := hid (back_rune l p k hk hk1 hk2)
 have HK := hid hk
 have HK1 := hid hk1
 obtain ⟨B, hB⟩ : ∃ B, B = pos l (gsu l k) := ⟨_, rfl⟩
 have hBl : B <= l.length := by rw [hB]; exact pos_le l _ (by have := gsu_le l k; omega)
 have hBp : B <= p := by
  have := pos_leq l (gsu l k) k (gsu_le l k) (Nat.le_of_lt hk)
  omega
 have HBE := hid hB
 obtain ⟨q, hq⟩ : ∃ q, q = pos l k := ⟨_, rfl⟩
 have hql : q <= l.length := by rw [hq]; exact pos_le l k (Nat.le_of_lt hk)
 have HQ := hid hq
 rw [<- hq] at HBK
 clear hk hk1 hk2 hB hq
 obtain ⟨L, hL, hLl⟩ := gp_all (l.drop B) _ 0 (Nat.le_refl _)
 have HL := hid hL
 have HDL := hid (show (l.drop B).length <= 1000000000 by rw [List.length_drop]; omega)
 have HAR := hid (around_at l p k B HK.out HK1.out HBE.out L)
 have HLA := hid (gp_last (l.drop B) (drop_ne l B (by omega)))
 clear hL hLl
 have hpi : (p : Int) < (l.length : Int) := by omega
 refine callsIn_of_wp_marks Tryz.func18 rfl trivial ?_ rfl
 simp only [Tryz.ntmps18, List.size_toArray, List.length_cons, List.length_nil, Nat.reduceAdd, Nat.reduceSub, Array.replicate_succ, Array.replicate_zero, List.push_toArray, List.append_toArray, List.nil_append, List.cons_append]
 gi_wp2_with fail
 have hsz3 : (((w.alloc (.cells #[.int .i64 p] 3)).alloc (.cells #[.int .i64 0] 3)).alloc (.cells #[.int .i64 0] 3)).heap.size = w.heap.size + 3 := by simp
 have b0 := ((Boxed.new w 3 (.int .i64 p)).alloc (.cells #[.int .i64 0] 3)).alloc (.cells #[.int .i64 0] 3)
 have b1 := (Boxed.new (w.alloc (.cells #[.int .i64 p] 3)) 3 (.int .i64 0)).alloc (.cells #[.int .i64 0] 3)
 have b2 := Boxed.new ((w.alloc (.cells #[.int .i64 p] 3)).alloc (.cells #[.int .i64 0] 3)) 3 (.int .i64 0)
 rw [World.size_alloc] at b1
 rw [World.size_alloc, World.size_alloc] at b2
 have hB0 : Below w.heap.size w (((w.alloc (.cells #[.int .i64 p] 3)).alloc (.cells #[.int .i64 0] 3)).alloc (.cells #[.int .i64 0] 3)) := (((Below.refl _ _).alloc (Nat.le_refl _) _).alloc (by simp) _).alloc (by simp; omega) _
 obtain ⟨w0, hw0⟩ : ∃ w0, w0 = ((w.alloc (.cells #[.int .i64 p] 3)).alloc (.cells #[.int .i64 0] 3)).alloc (.cells #[.int .i64 0] 3) := ⟨_, rfl⟩
 rw [<- hw0] at b0 b1 b2 hsz3 hB0 ⊢
 have HW0 := hid hw0
 have HT0 := hid (HT.out.below hB0)
 clear hw0
 refine ⟨trivial, (callsIn_wide.2 (back_any l ((p : Int) + 1) w0 (by omega) HT0.out.tabs HT0.out.two)).mono ?_⟩
 rintro e w1 ⟨rfl, be1⟩
 rw [HBK.out]
 have HT1 := hid (HT0.out.below be1)
 gi_wp2_with fail
 refine ⟨trivial, (callsIn_wide.2 (gsure_any l k q w1 HT1.out (by omega) (Nat.le_of_lt HK.out) HQ.out)).mono ?_⟩
 rintro e w2 ⟨rfl, be2⟩
 rw [<- HBE.out]
 have hB02 := be1.trans (be2.mono be1.size)
 have hs02 := hB02.size
 have HT2 := hid (HT0.out.below hB02)
 have b02 : Boxed w2 w.heap.size 3 (.int .i64 p) := (hB02.block _ b0.lt).trans b0
 have b12 : Boxed w2 (w.heap.size + 1) 3 (.int .i64 0) := (hB02.block _ b1.lt).trans b1
 have b22 : Boxed w2 (w.heap.size + 1 + 1) 3 (.int .i64 0) := (hB02.block _ b2.lt).trans b2
 have HBw2 := hid (hB0.trans (hB02.mono hB0.size))
 clear be1 be2 hB02 b0 b1 b2 HT1 HT0 HBK hB0
 gi_wp2_with fail
 rw [ext_drop]
 refine ⟨trivial, (callsIn_wide.2 (geach_any (l.drop B) _)).mono ?_⟩
 rintro e w' ⟨rfl, rfl⟩
 have b3 := (Boxed.new w2 3 (.int .i64 B)).alloc (.cells #[.string ⟨(l.drop B).toArray⟩] 9)
 have b4 := Boxed.new (w2.alloc (.cells #[.int .i64 B] 3)) 9 (.string ⟨(l.drop B).toArray⟩)
 have hB3 : Below w2.heap.size w2 ((w2.alloc (.cells #[.int .i64 B] 3)).alloc (.cells #[.string ⟨(l.drop B).toArray⟩] 9)) := ((Below.refl _ _).alloc (Nat.le_refl _) _).alloc (by simp) _
 have hs3 : ((w2.alloc (.cells #[.int .i64 B] 3)).alloc (.cells #[.string ⟨(l.drop B).toArray⟩] 9)).heap.size = w2.heap.size + 2 := by simp
 rw [World.size_alloc] at b4 ⊢
 obtain ⟨w3, hw3⟩ : ∃ w3, w3 = (w2.alloc (.cells #[.int .i64 B] 3)).alloc (.cells #[.string ⟨(l.drop B).toArray⟩] 9) := ⟨_, rfl⟩
 rw [<- hw3] at b3 b4 hB3 hs3 ⊢
 clear hw3
 obtain ⟨N, hN⟩ : ∃ N, N = w.heap.size := ⟨_, rfl⟩
 obtain ⟨M, hM⟩ : ∃ M, M = w2.heap.size := ⟨_, rfl⟩
 rw [hsz3] at hs02
 rw [<- hM] at b3 b4 hB3 hs3 hs02 ⊢
 rw [<- hN] at b02 b12 b22 HBw2 hs02 ⊢
 have hNM : N + 3 <= M := hs02
 have HEa := hid (show WaAt (M + 1) (l.drop B) w3 from ⟨b4, HT2.out.below (by rw [<- hM]; exact hB3)⟩)
 have HB0 := hid (show Boxed w3 N 3 (.int .i64 p) from (hB3.block _ (by omega)).trans b02)
 have HB1 := hid (show Boxed w3 (N + 1) 3 (.int .i64 0) from (hB3.block _ (by omega)).trans b12)
 have HB2 := hid (show Boxed w3 (N + 1 + 1) 3 (.int .i64 0) from (hB3.block _ (by omega)).trans b22)
 have HB3 := hid b3
 have HBw := hid (show Below N w w3 from HBw2.out.trans (hB3.mono (by omega)))
 have h2 : 3 <= N := by rw [hN]; exact HT.out.two
 have HS3 := hid hs3
 have HN := hid hN
 clear b02 b12 b22 b3 b4 hB3 HT2 HBw2 HW0 hsz3 hs02 hs3 hN hM
 gi_wp2
 refine rfF (M + 1) (fun k => k = N + 1 \/ k = N + 1 + 1) L (by omega) rfl HL.out HEa.out HDL.out rfl (fun k hk => by rintro (h | h) <;> omega)
  (fun pre W => (((∀ y ∈ pre, B + y.v.2 <= p) /\ Boxed W N 3 (.int .i64 p)) /\ Boxed W (N + 1) 3 (.int .i64 0)) /\ Boxed W (N + 1 + 1) 3 (.int .i64 0) /\ Boxed W M 3 (.int .i64 B))
  (fun c pre W => c = .ret /\ ∃ (pr : List (Pl (l.drop B))) (x : Pl (l.drop B)), pre = pr ++ [x] /\ (∀ y ∈ pr, B + y.v.2 <= p) /\ p < B + x.v.2 /\ Boxed W (N + 1) 3 (.int .i64 (B + x.v.1 : Nat)) /\ Boxed W (N + 1 + 1) 3 (.int .i64 (B + x.v.2 : Nat)))
  (OwnFrom.and (OwnFrom.and (OwnFrom.and (ownFrom_pure _ _) (Own.from (boxed_own _ _ _) _)) (Own.from (boxed_own _ _ _) _)) (OwnFrom.and (Own.from (boxed_own _ _ _) _) (Own.from (boxed_own _ _ _) _)))
  (fun c _ A C row hs hg hr => by
   obtain ⟨e, pr, x, e1, e2, e3, e4, e5⟩ := hs
   exact ⟨e, pr, x, e1, e2, e3, boxed_keep e4 hg hr, boxed_keep e5 hg hr⟩)
  ⟨⟨⟨by simp, HB0.out⟩, HB1.out⟩, HB2.out, HB3.out⟩ 7 8 ?assign ?body ?done ?stop
 case assign =>
  intro lp x W K hK
  dsimp only [encP]
  gi_wp2
  simpa [fr, encP] using hK
 case body =>
  rintro lp pre x W ⟨⟨⟨hpre, v0⟩, v1⟩, v2, v3⟩ hb he hlt
  have hx1 := x.lt
  have hx2 := x.le
  rw [List.length_drop] at hx2
  obtain ⟨f, hf⟩ : ∃ f, f = x.v.1 := ⟨_, rfl⟩
  obtain ⟨t, hx⟩ : ∃ t, t = x.v.2 := ⟨_, rfl⟩
  dsimp only [fr, encP]
  rw [<- hf, <- hx] at hx1 ⊢
  rw [<- hx] at hx2
  have HF := hid hf
  have HX := hid hx
  clear hf hx; have c0 := v0.cell
  have c3 := v3.cell
  have HV := hid (And.intro v0 (And.intro v1 (And.intro v2 v3)))
  have HPRE := hid hpre
  clear hpre
  by_cases hgt : p < B + t
  ·have hgi : (p : Int) < (B : Int) + t := by omega
   have f1 := v1.frozen
   have f2 := v2.frozen
   have e1 := v1.cell
   have e2 := v2.cell
   have hKV := HV.out
   have wf : IntKind.i64.wrap ((B : Int) + f) = (B : Int) + f := by rw [IntKind.wrap_i64]; omega
   have wt : IntKind.i64.wrap ((B : Int) + t) = (B : Int) + t := by rw [IntKind.wrap_i64]; omega
   clear v0 v1 v2 v3
   gi_wp2; refine wpIn_region_mix lp _ [(0, true), (1, true), (2, true), (3, true), (4, true), (5, true), (6, false), (7, false)] (fun w' => w'.cell? ⟨M, 0, none⟩ = some (.int .i64 B)) (fun _ => false) (by kernel_rfl) (by kernel_rfl) (by kernel_rfl) (fun j hj => by cases hj) rfl (by kernel_rfl) c3 ?hm
   iterate 6 (refine mix_free ?_ rfl (by kernel_rfl) (fun w' hS => ?_) ?_; (rotate_left; (go_simp; with_reducible rfl); rotate_left))
   refine mix_go rfl (by kernel_rfl) fun KK hKK => ?_
   have f1d : W.drew.frozen? ⟨N + 1, 0, none⟩ = false := f1
   have e1d : W.drew.cell? ⟨N + 1, 0, none⟩ = some (.int .i64 0) := e1
   go_simp; refine hKK _ _ (fun _ => ?_) ?_
   ·exact (bdrew (hKV.2.2.2.other (B' := N + 1) (by omega) _)).cell
   clear hKK KK; have v1' := bdrew (hKV.2.1.set (.int .i64 ((B : Int) + f)))
   have v2' := bdrew (hKV.2.2.1.other (B' := N + 1) (by omega) (.int .i64 ((B : Int) + f)))
   obtain ⟨W1, hW1⟩ : ∃ W1, W1 = (W.setCell ⟨N + 1, 0, none⟩ (.int .i64 ((B : Int) + f))).drew := ⟨_, rfl⟩
   have HBS := hid (show BS (fun k => k = N + 1 \/ k = N + 1 + 1) W W1 by rw [hW1]; exact (BS.set W (N + 1) _ (.inl rfl)).trans (BS.drew _))
   rw [<- hW1] at v1' v2' ⊢
   clear hW1; refine mix_go rfl (by kernel_rfl) fun KK hKK => ?_
   have f2d := v2'.frozen
   have e2d := v2'.cell
   go_simp; refine hKK _ _ (fun _ => ?_) ?_
   ·have hM1 : Boxed W1 M 3 (.int .i64 B) := HBS.out.boxed hKV.2.2.2 (fun h => by omega)
    exact (hM1.other (B' := N + 1 + 1) (by omega) _).cell
   clear hKK KK; refine mix_end (OnlyN.in ?_)
   gi_wp2; refine ⟨HBS.out.trans (BS.set W1 (N + 1 + 1) _ (.inr rfl)), rfl, pre, x, rfl, HPRE.out, by rw [<- HX.out]; exact hgt, ?_, ?_⟩
   ·rw [<- HF.out]
    exact v1'.other (B' := N + 1 + 1) (by omega) _
   ·rw [<- HX.out]
    exact v2'.set _
  ·have hgi : ¬ (p : Int) < (B : Int) + t := by omega
   have hKV := HV.out
   clear v0 v1 v2 v3
   gi_wp2; refine ⟨BS.refl _ _, ⟨⟨fun y hy => ?_, hKV.1⟩, hKV.2.1⟩, hKV.2.2⟩
   rcases List.mem_append.1 hy with hy | hy
   ·exact HPRE.out y hy
   ·rw [List.mem_singleton.1 hy, <- HX.out]
    omega
 case done =>
  rintro D W hD ⟨⟨⟨hall, _⟩, _⟩, _, _⟩ _ _
  exfalso
  obtain ⟨y, hy, hye⟩ := HLA.out
  rw [<- HL.out] at hy
  obtain ⟨x, hx, rfl⟩ := List.mem_map.1 hy
  have := hall x hx
  rw [hye, List.length_drop] at this
  omega
 case stop =>
  rintro D c pre W hD hp' ⟨rfl, pr, x, rfl, e2, e3, e4, e5⟩ hb hK
  gi_wp2; refine ⟨by simp, .inl ⟨_, _, rfl, run_takeDeferred hK, ?_⟩⟩
  have c4 := cell_kept e4.cell (grownBy_putObj' _ D (.deferred none)) (fun r e => by cases e; exact ⟨_, hK, rfl⟩)
  have c5 := cell_kept e5.cell (grownBy_putObj' _ D (.deferred none)) (fun r e => by cases e; exact ⟨_, hK, rfl⟩)
  refine ⟨_, ?_, B + x.v.1, B + x.v.2, rfl, ⟨(HAR.out pr HL.out x hp' e2).1, (HAR.out pr HL.out x hp' e2).2, e3⟩, ?_⟩
  ·simp [results, Tryz.f18, go_sem, c4, c5]
  ·have hs3 := HS3.out
   have hn := HN.out
   rw [<- hn]; exact (HBw.out.trans (hb.lower N (fun k hk => by omega) (by omega))).trans (belowK_b (w := w) (by omega) W D _ _ (by omega) hK rfl rfl)
theorem garound_any (l : List UInt8) (p : Nat) (w : World) (ht : TbW w) (hl : l.length <= 100000000) (hp : p < l.length) :
  Calls Tryz.prog 18 #[.string ⟨l.toArray⟩, .int .i64 p] w fun e W' => ∃ f t : Nat, e = .returned (.tuple #[.int .i64 f, .int .i64 t]) /\ ((f, t) ∈ gpF l 0 /\ f <= p /\ p < t) /\ Below w.heap.size w W' := callsIn_wide.1 (garound_in l p w ht hl hp)
end Go.Proofs.YtdpohgoikbeplaaGreatDoor.Wt
namespace Go.Proofs.YtdpohgoikbeplaaGreatDoor.Br
open Go.RowKit Wt
def gbd (l : List UInt8) : List Nat := bds 0 (gpF l 0)
attribute [local go_sem] Oper.semAt_some
theorem Chn.has {p e : Nat} {P : List (Nat × Nat)} (h : Chn p e P) {x : Nat} (h1 : p <= x) (h2 : x < e) : ∃ f t, (f, t) ∈ P /\ f <= x /\ x < t := by
 induction h with
 | nil => omega
 | @cons p t e P k1 k2 ih =>
  by_cases h3 : x < t
  ·exact ⟨p, t, List.mem_cons_self .., h1, h3⟩
  ·obtain ⟨f, t2, m1, m2, m3⟩ := ih (by omega) h2
   exact ⟨f, t2, List.mem_cons_of_mem _ m1, m2, m3⟩
set_option maxRecDepth 100000 in
set_option maxHeartbeats 4000000 in
theorem garo_out (l : List UInt8) (z : Int) (w : World) (hz : z < 0 \/ (l.length : Int) <= z) :
  CallsIn Fence.wide 3 Tryz.prog 18 #[.string ⟨l.toArray⟩, .int .i64 z] w fun e w' => e = .returned (.tuple #[.int .i64 0, .int .i64 0]) /\ Below w.heap.size w w' := by
 have hB : Below w.heap.size w (((w.alloc (.cells #[.int .i64 z] 3)).alloc (.cells #[.int .i64 0] 3)).alloc (.cells #[.int .i64 0] 3)) := (((Below.refl _ _).alloc (Nat.le_refl _) _).alloc (by simp) _).alloc (by simp; omega) _
 have HB := hid hB
 clear hB
 refine callsIn_of_wp_marks Tryz.func18 rfl trivial ?_ rfl
 simp only [Tryz.ntmps18, List.size_toArray, List.length_cons, List.length_nil, Nat.reduceAdd, Nat.reduceSub, Array.replicate_succ, Array.replicate_zero, List.push_toArray, List.append_toArray, List.nil_append, List.cons_append]
 have c1 : (((w.alloc (.cells #[.int .i64 z] 3)).alloc (.cells #[.int .i64 0] 3)).alloc (.cells #[.int .i64 0] 3)).cell? ⟨w.heap.size + 1, 0, none⟩ = some (.int .i64 0) := by
  have b := ((Boxed.new (w.alloc (.cells #[.int .i64 z] 3)) 3 (.int .i64 0)).alloc (.cells #[.int .i64 0] 3)).cell
  rwa [World.size_alloc] at b
 have c2 : (((w.alloc (.cells #[.int .i64 z] 3)).alloc (.cells #[.int .i64 0] 3)).alloc (.cells #[.int .i64 0] 3)).cell? ⟨w.heap.size + 1 + 1, 0, none⟩ = some (.int .i64 0) := by
  have b := (Boxed.new ((w.alloc (.cells #[.int .i64 z] 3)).alloc (.cells #[.int .i64 0] 3)) 3 (.int .i64 0)).cell
  rwa [World.size_alloc, World.size_alloc] at b
 by_cases h0 : z < 0
 ·gi_wp2
  refine ⟨_, ?_, rfl, HB.out⟩
  simp [results, Tryz.f18, go_sem, c1, c2]
 ·have h1 : (l.length : Int) <= z := by omega
  gi_wp2; refine ⟨_, ?_, rfl, HB.out⟩
  simp [results, Tryz.f18, go_sem, c1, c2]
theorem garo_any (l : List UInt8) (z : Int) (w : World) (ht : TbW w) (hl : l.length <= 100000000) :
  Calls Tryz.prog 18 #[.string ⟨l.toArray⟩, .int .i64 z] w fun e w' => e = .returned (.tuple #[.int .i64 ((arn z (gbd l)).1 : Nat), .int .i64 ((arn z (gbd l)).2 : Nat)]) /\ Below w.heap.size w w' := by
 by_cases h0 : z < 0 \/ (l.length : Int) <= z
 ·rw [show arn z (gbd l) = (0, 0) from (gp_ch0 l).arn_out (h0.imp (fun h => by omega) id)]
  exact callsIn_wide.1 (garo_out l z w h0)
 ·obtain ⟨p, rfl⟩ : ∃ p : Nat, z = p := ⟨z.toNat, by omega⟩
  refine (garound_any l p w ht hl (by omega)).mono ?_
  rintro e w' ⟨f, t, rfl, ⟨h1, h2, h3⟩, hb⟩
  rw [show arn (p : Int) (gbd l) = (f, t) from (gp_ch0 l).arn_in h1 (by omega) (by omega)]
  exact ⟨rfl, hb⟩
theorem gnext_any (l : List UInt8) (z : Int) (w : World) (ht : TbW w) (hl : l.length <= 100000000) :
  Calls Tryz.prog 21 #[.string ⟨l.toArray⟩, .int .i64 z] w fun e w' => e = .returned (.int .i64 (abv z l.length (gbd l) : Nat)) /\ Below w.heap.size w w' := by
 have HA := hid (garo_any l z w ht hl)
 clear ht
 by_cases h0 : z < 0
 ·have HN := hid (show abv z l.length (gbd l) = 0 from abv_low (by omega) _)
  rw [HN.out]; clear HN HA
  go_enter Tryz.func21, Tryz.ntmps21
  go_wp2
  go_ret; exact ⟨rfl, Below.refl _ _⟩
 by_cases h1 : (l.length : Int) <= z
 ·have HN := hid (show abv z l.length (gbd l) = l.length from (gp_ch0 l).abv_high h1 _)
  rw [HN.out]; clear HN HA
  go_enter Tryz.func21, Tryz.ntmps21
  go_wp2
  go_ret; exact ⟨rfl, Below.refl _ _⟩
 obtain ⟨f, t, hm, h2, h3⟩ : ∃ f t, (f, t) ∈ gpF l 0 /\ (f : Int) <= z /\ z < t := by
  obtain ⟨p, rfl⟩ : ∃ p : Nat, z = p := ⟨z.toNat, by omega⟩
  obtain ⟨f, t, h2, h3, h4⟩ := (gp_ch0 l).has (x := p) (Nat.zero_le _) (by omega)
  exact ⟨f, t, h2, by omega, by omega⟩
 have HN := hid (show abv z l.length (gbd l) = t from (gp_ch0 l).abv_in hm h2 h3 _)
 rw [show arn z (gbd l) = (f, t) from (gp_ch0 l).arn_in hm h2 h3] at HA
 rw [HN.out]
 clear hm h2 h3 HN
 go_enter Tryz.func21, Tryz.ntmps21
 go_wp2_with fail
 refine HA.out.mono ?_
 rintro e w1 ⟨rfl, hb⟩
 have HB := hid hb
 clear hb HA
 go_wp2
 go_ret
 exact ⟨rfl, HB.out⟩
end Go.Proofs.YtdpohgoikbeplaaGreatDoor.Br
namespace Go.Proofs.YtdpohgoikbeplaaGreatDoor.Pw
open Go.RowKit Go.Shelf Wt
def Cb (W : World) (B : Nat) (c : Array Value) (t : Nat) : Prop := W.heap[B]? = some (.cells c t (0, 0))
theorem Cb.lt {W : World} {B : Nat} {c : Array Value} {t : Nat} (h : Cb W B c t) : B < W.heap.size := (Array.getElem?_eq_some_iff.1 h).1
theorem Cb.cell {W : World} {B : Nat} {c : Array Value} {t : Nat} (h : Cb W B c t) (i : Nat) : W.cell? ⟨B, i, none⟩ = c[i]? := by
 unfold Cb at h
 simp [World.cell?, h]
theorem Cb.frozen {W : World} {B : Nat} {c : Array Value} {t : Nat} (h : Cb W B c t) (i : Nat) : W.frozen? ⟨B, i, none⟩ = false := by
 unfold Cb at h
 simp [World.frozen?, h]
theorem Cb.new (w : World) (c : Array Value) (t : Nat) : Cb (w.alloc (.cells c t)) w.heap.size c t := World.alloc_heap_new w _
theorem Cb.below {W W' : World} {B : Nat} {c : Array Value} {t : Nat} (h : Cb W B c t) (hb : Below W.heap.size W W') : Cb W' B c t := (hb.block _ h.lt).trans h
theorem Cb.alloc {W : World} {B : Nat} {c : Array Value} {t : Nat} (h : Cb W B c t) (o : Obj) : Cb (W.alloc o) B c t := h.below ((Below.refl _ _).alloc (Nat.le_refl _) _)
theorem Cb.set {W : World} {B : Nat} {c : Array Value} {t : Nat} (h : Cb W B c t) (i : Nat) (v : Value) : Cb (W.setCell ⟨B, i, none⟩ v) B (c.setIfInBounds i v) t := by
 obtain ⟨hlt, hk⟩ := Array.getElem?_eq_some_iff.1 h
 show (W.heap.modify B _)[B]? = _
 rw [Array.getElem?_eq_getElem (by rw [Array.size_modify]; exact hlt), Array.getElem_modify_self, hk]
 rfl
theorem Cb.other {W : World} {B B' : Nat} {c : Array Value} {t : Nat} (h : Cb W B c t) (hne : B ≠ B') (i : Nat) (v : Value) : Cb (W.setCell ⟨B', i, none⟩ v) B c t := (Below.heap_setCell _ _ _ B hne).trans h
theorem Cb.kept {W W' : World} {row : Option Nat} {B : Nat} {c : Array Value} {t : Nat} (h : Cb W B c t) (hg : W.grownBy W' row) (hne : some B ≠ row) : Cb W' B c t := (hg.block B h.lt hne).trans h
theorem Cb.one {W : World} {B : Nat} {v : Value} {t : Nat} (h : Cb W B #[v] t) : W.cell? ⟨B, 0, none⟩ = some v := (h.cell 0).trans rfl
theorem seqS_in {α : Type} {n lp g : Nat} {lb : Array Value} {encs : α -> Array Value} {Kp : World -> World -> Prop} {S Sp : List α -> Prop} {w : World} (h : SeqS Fence.wide n Tryz.prog g lb encs Kp S Sp w) : SeqS (Fence.wide.inRound lp) n Tryz.prog g lb encs Kp S Sp w := h
theorem kr_set {K : Nat -> Prop} (W : World) (B : Nat) (v : Value) (h : ∀ k, K k -> k ≠ B) : KrW K W (W.setCell ⟨B, 0, none⟩ v) := ⟨KeepsWalks.setCell W _ v, fun k hk => Below.heap_setCell _ _ _ k (h k hk)⟩
theorem kr_below {K : Nat -> Prop} {V U : World} (hb : Below V.heap.size V U) (h : ∀ k, K k -> k < V.heap.size) : KrW K V U := ⟨KeepsWalks.of_grownBy (wgrown hb) (fun j o e => by cases e), fun k hk => hb.block k (h k hk)⟩
def mkD (D : List Nat) : List Deferred := D.map fun d => { target := .collected d, args := #[] }
structure Marks (D : List Nat) (B : Nat) (w : World) : Prop where
 at' : ∀ d ∈ D, w.heap[d]? = some (.deferred (some []))
 low : ∀ d ∈ D, B <= d
 nodup : D.Nodup
theorem Marks.nil (B : Nat) (w : World) : Marks [] B w := ⟨fun _ h => (by cases h), fun _ h => (by cases h), List.nodup_nil⟩
theorem Marks.lt {D : List Nat} {B : Nat} {w : World} (h : Marks D B w) {d : Nat} (hd : d ∈ D) : d < w.heap.size := (Array.getElem?_eq_some_iff.1 (h.at' d hd)).1
theorem Marks.more {D : List Nat} {B d : Nat} {w w' : World} (h : Marks D B w) (hd : w'.heap[d]? = some (.deferred (some []))) (hn : w.heap.size <= d) (hB : B <= w.heap.size) (hk : ∀ e, e < w.heap.size -> e ∈ D -> w'.heap[e]? = w.heap[e]?) : Marks (d :: D) B w' := by
 refine ⟨fun e he => ?_, fun e he => ?_, List.nodup_cons.2 ⟨fun he => ?_, h.nodup⟩⟩
 ·rcases List.mem_cons.1 he with rfl | he
  ·exact hd
  ·exact (hk e (h.lt he) he).trans (h.at' e he)
 ·rcases List.mem_cons.1 he with rfl | he
  ·omega
  ·exact h.low e he
 ·have := h.lt he
  omega
structure Shutd (B : Nat) (X Y : World) : Prop where
 low : Below B X Y
 cells : ∀ (k : Nat) (o : Obj), X.heap[k]? = some o -> o.isCells = true -> Y.heap[k]? = some o
theorem Shutd.refl (B : Nat) (X : World) : Shutd B X X := ⟨Below.refl _ _, fun _ _ h _ => h⟩
theorem Shutd.trans {B : Nat} {X Y Z : World} (h : Shutd B X Y) (k : Shutd B Y Z) : Shutd B X Z := ⟨h.low.trans k.low, fun i o h1 h2 => k.cells i o (h.cells i o h1 h2) h2⟩
theorem leaves_marks {fn : Func} {tmps : Array Value} {R : Ending -> World -> Prop} (n B : Nat) : ∀ (D : List Nat) (w : World), Marks D B w -> (∀ w', Shutd B w w' -> LeavesIn Fence.wide n Tryz.prog fn tmps R [] .returning w') -> LeavesInM Fence.wide n Tryz.prog fn tmps R (mkD D) .returning w
 | [], w, _, h => h w (Shutd.refl B w)
 | d :: D, w, hm, h => by
  have hd := hm.at' d (.head _)
  have hlt := (Array.getElem?_eq_some_iff.1 hd).1
  have hs : Shutd B w (w.putObj d (.deferred none)) := ⟨(Below.refl B w).grown (grownBy_putObj' w d _) (by have := hm.low d (.head _); omega) (fun k e => by cases e; exact hm.low d (.head _)), fun k o h1 h2 => by
   have : k ≠ d := fun e => by subst e; rw [hd] at h1; cases h1; cases h2
   rw [World.putObj_heap_other this]; exact h1⟩
  refine ⟨by simp, .inl ⟨_, _, rfl, run_takeDeferred hd, leaves_marks n B D _ ⟨fun e he => ?_, fun e he => hm.low e (.tail _ he), (List.nodup_cons.1 hm.nodup).2⟩ (fun w' hw => h w' (hs.trans hw))⟩⟩
  have : e ≠ d := fun h1 => (List.nodup_cons.1 hm.nodup).1 (h1 ▸ he)
  rw [World.putObj_heap_other this]; exact hm.at' e (.tail _ he)
theorem wpIn_loop_inv {F : Fence} {n : Nat} {P : Program} {Q : Exit -> Act -> World -> Prop} {c : Code} (Inv : Nat -> Act -> World -> Prop) (h0 : ∀ a w, ¬ Inv 0 a w)
  (h : ∀ m a w, Inv (m + 1) a w -> c.wpIn F n P (Exit.then (Inv m) Q) a w) (m : Nat) (a : Act) (w : World) (hi : Inv m a w) : (Code.loop c).wpIn F n P Q a w := by
 refine wpIn_loop_rounds m ?_
 have key : ∀ m a w, Inv m a w -> Code.roundsIn F n P c Q m a w := by
  intro m
  induction m with
  | zero => exact fun a w hi => absurd hi (h0 a w)
  | succ m ih =>
   intro a w hi
   rw [roundsIn_succ]; refine wpIn_mono (h m a w hi) ?_
   intro e a' w' hq
   cases e with
   | normal => exact ih a' w' hq
   | _ => exact hq
 exact key m a w hi
def at_ (a : Act) (k : Nat) : Value := a.tmps.getD k undef
theorem ofFn_all {k : Nat} (t : Array Value) (h : t.size = k) : t = Array.ofFn (fun i : Fin k => t.getD i undef) := by
 apply Array.ext
 ·simp [h]
 ·intro i h1 h2
  simp [Array.getD, h1]
theorem ofFnP (f : Nat -> Value) : Array.ofFn (fun i : Fin 121 => f i) = #[f 0, f 1, f 2, f 3, f 4, f 5, f 6, f 7, f 8, f 9, f 10, f 11, f 12, f 13, f 14, f 15, f 16, f 17, f 18, f 19, f 20, f 21, f 22, f 23, f 24, f 25, f 26, f 27, f 28, f 29, f 30, f 31, f 32, f 33, f 34, f 35, f 36, f 37, f 38, f 39, f 40, f 41, f 42, f 43, f 44, f 45, f 46, f 47, f 48, f 49, f 50, f 51, f 52, f 53, f 54, f 55, f 56, f 57, f 58, f 59, f 60, f 61, f 62, f 63, f 64, f 65, f 66, f 67, f 68, f 69, f 70, f 71, f 72, f 73, f 74, f 75, f 76, f 77, f 78, f 79, f 80, f 81, f 82, f 83, f 84, f 85, f 86, f 87, f 88, f 89, f 90, f 91, f 92, f 93, f 94, f 95, f 96, f 97, f 98, f 99, f 100, f 101, f 102, f 103, f 104, f 105, f 106, f 107, f 108, f 109, f 110, f 111, f 112, f 113, f 114, f 115, f 116, f 117, f 118, f 119, f 120] := by kernel_rfl
theorem frameP (a : Act) (D : List Deferred) (hs : a.tmps.size = 121) (hd : a.defers = D) (v0 v1 v3 v4 v5 v6 v7 v8 v9 : Value) (h0 : at_ a 0 = v0) (h1 : at_ a 1 = v1) (h3 : at_ a 3 = v3) (h4 : at_ a 4 = v4) (h5 : at_ a 5 = v5) (h6 : at_ a 6 = v6) (h7 : at_ a 7 = v7) (h8 : at_ a 8 = v8) (h9 : at_ a 9 = v9) :
  ∃ u : Nat -> Value, a = { tmps := #[v0, v1, u 2, v3, v4, v5, v6, v7, v8, v9, u 10, u 11, u 12, u 13, u 14, u 15, u 16, u 17, u 18, u 19, u 20, u 21, u 22, u 23, u 24, u 25, u 26, u 27, u 28, u 29, u 30, u 31, u 32, u 33, u 34, u 35, u 36, u 37, u 38, u 39, u 40, u 41, u 42, u 43, u 44, u 45, u 46, u 47, u 48, u 49, u 50, u 51, u 52, u 53, u 54, u 55, u 56, u 57, u 58, u 59, u 60, u 61, u 62, u 63, u 64, u 65, u 66, u 67, u 68, u 69, u 70, u 71, u 72, u 73, u 74, u 75, u 76, u 77, u 78, u 79, u 80, u 81, u 82, u 83, u 84, u 85, u 86, u 87, u 88, u 89, u 90, u 91, u 92, u 93, u 94, u 95, u 96, u 97, u 98, u 99, u 100, u 101, u 102, u 103, u 104, u 105, u 106, u 107, u 108, u 109, u 110, u 111, u 112, u 113, u 114, u 115, u 116, u 117, u 118, u 119, u 120], defers := D } := by
 obtain ⟨t, d⟩ := a
 subst hd
 refine ⟨fun i => t.getD i undef, ?_⟩
 simp only [at_] at h0 h1 h3 h4 h5 h6 h7 h8 h9
 subst h0 h1 h3 h4 h5 h6 h7 h8 h9
 exact congrArg (fun t => (Act.mk t d : Act)) ((ofFn_all t hs).trans (ofFnP fun i => t.getD i undef))
theorem results_bool {fn : Func} (h : fn.results = #[.cell 4 4]) (tmps : Array Value) (w : World) (g : Nat) (v : Value) (hp : tmps[4]?.getD undef = .pointer (some ⟨g, 0, none⟩)) (hg : Cb w g #[v] 4) : (results fn tmps).run Tryz.prog w = .ok v w := by
 have c := hg.one
 simp only [results, h]
 go_simp
end Go.Proofs.YtdpohgoikbeplaaGreatDoor.Pw
