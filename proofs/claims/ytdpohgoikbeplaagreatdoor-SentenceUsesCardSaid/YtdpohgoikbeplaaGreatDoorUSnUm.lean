/- SnUm, SnTrm: parts of the proof, joined. -/
import Derived.Test.YtdpohgoikbeplaaGreatDoorUPtSnM
import Derived.Test.YtdpohgoikbeplaaGreatDoorUSnMov
namespace Go.Proofs.YtdpohgoikbeplaaGreatDoor.Sn
open Wt
theorem isE_edge (s : List UInt8) (z : Int) (h : isE s z = true) : ∃ i, i <= (rl s).length /\ z = (pos s i : Nat) := by
 by_cases h0 : z <= 0
 ·unfold isE at h
  rw [if_pos h0] at h
  have : z = 0 := by simpa using h
  exact ⟨0, Nat.zero_le _, by rw [this]; rfl⟩
 by_cases h1 : (s.length : Int) <= z
 ·unfold isE at h
  rw [if_neg h0, if_pos h1] at h
  have : z = s.length := by simpa using h
  exact ⟨_, Nat.le_refl _, by rw [this, pos_all s _ (Nat.le_refl _)]⟩
 obtain ⟨p, rfl⟩ : ∃ p : Nat, z = p := ⟨z.toNat, by omega⟩
 obtain ⟨i, hi, h2, h3⟩ := pos_has s p (rl s).length (Nat.le_refl _) (by rw [pos_all s _ (Nat.le_refl _)]; omega)
 rw [isE_in s i p hi h2 h3 (by omega)] at h
 have : pos s i = p := by simpa using h
 exact ⟨i, Nat.le_of_lt hi, by rw [this]⟩
theorem pos_lt2 (s : List UInt8) {i j : Nat} (hi : i <= (rl s).length) (h : pos s i <= pos s j) : i <= j := by
 rcases Nat.lt_or_ge j i with h1 | h1
 ·have := Sg.pos_inc s h1 hi
  omega
 ·exact h1
theorem pos_drop (s : List UInt8) (a k : Nat) (h : a <= (rl s).length) : pos s a + pos (s.drop (pos s a)) k = pos s (a + k) := by
 unfold pos
 rw [show rl (s.drop (psm ((rl s).take a))) = (rl s).drop a from rl_drop s a h, List.take_add, psm_app]
theorem stp_take (c : List Int) (f : Int -> Bool) (m : Nat) : ∀ k, k <= m -> Pt.stp (c.take m) f k = Pt.stp c f k
 | 0, _ => rfl
 | k + 1, h => by
  unfold Pt.stp
  rw [stp_take c f m k (by omega), show (c.take m).getD k 0 = c.getD k 0 by
   rw [List.getD_eq_getElem?_getD, List.getD_eq_getElem?_getD, List.getElem?_take_of_lt (by omega)]]
theorem stp_drop (c : List Int) (f : Int -> Bool) (a k : Nat) (ha : f (c.getD a 0) = false) (hk : 0 < k) : a + Pt.stp (c.drop a) f k = Pt.stp c f (a + k) := by
 have hd : ∀ j, (c.drop a).getD j 0 = c.getD (a + j) 0 := fun j => by
  rw [List.getD_eq_getElem?_getD, List.getD_eq_getElem?_getD, List.getElem?_drop]
 have hj : 0 < Pt.stp (c.drop a) f k := by
  rcases Nat.eq_zero_or_pos (Pt.stp (c.drop a) f k) with h | h
  ·have := Pt.stp_in (c.drop a) f k 0 (by omega) hk
   rw [hd, Nat.add_zero, ha] at this
   cases this
  ·exact h
 symm
 refine Pt.stp_eq (by have := Pt.stp_le (c.drop a) f k; omega) (fun m h1 h2 => ?_) (.inr ?_)
 ·have := Pt.stp_in (c.drop a) f k (m - a) (by omega) (by omega)
  rw [hd, show a + (m - a) = m by omega] at this
  exact this
 ·have := Pt.stp_out (c.drop a) f k hj
  rw [hd] at this
  rw [show a + Pt.stp (c.drop a) f k - 1 = a + (Pt.stp (c.drop a) f k - 1) by omega]
  exact this
theorem bk_bkc (l : List UInt8) : bk l = Pt.bkc (fw l) (rl l).length := by
 rw [bk_fw]
 unfold Pt.bkc
 rw [List.take_of_length_le (by rw [fw_len]; exact Nat.le_refl _)]
theorem ltl_pos (l : List UInt8) (m : Nat) (h : (rl l).length = m + 1) : ltl l = l.take (pos l m) := by
 have hne : l ≠ [] := fun e => by rw [e, rl_nil] at h; cases h
 have h1 := rl_snoc l hne
 have h2 : (rl (ltl l)).length = m := by
  have := congrArg List.length h1
  rw [List.length_append, List.length_singleton, h] at this
  omega
 have h3 : (rl l).take m = rl (ltl l) := by rw [h1, <- h2, List.take_left']; rfl
 have h4 : pos l m = (ltl l).length := by
  unfold pos
  rw [h3]; exact rl_sum _ (ltl l) (Nat.le_refl _)
 rw [h4]
 unfold ltl
 rw [List.length_take]
 have := slast_bd l hne
 rw [Nat.min_eq_left (by omega)]
theorem swth_pos (x : Nat) : ∀ (n : Nat) (l : List UInt8), (rl l).length = n -> swth x l = l.take (pos l (Pt.stp (fw l) (shas x) n))
 | 0, l, h => by
  have hl : l = [] := by
   by_cases e : l = []
   ·exact e
   ·rw [rl_cons l e] at h; cases h
  subst hl
  rfl
 | m + 1, l, h => by
  have hne : l ≠ [] := fun e => by rw [e, rl_nil] at h; cases h
  have hs : slast l = (fw l).getD m 0 := by
   rw [slast_hd, bk_bkc, h, Pt.bkc_s (by rw [fw_len]; omega), List.headD_cons]
  unfold Pt.stp
  rw [<- hs]
  cases hk : shas x (slast l) with
  | true =>
   have hr : rl (ltl l) = (rl l).take m := by rw [ltl_pos l m h]; exact rl_take l m (by omega)
   have hf : fw (ltl l) = (fw l).take m := by unfold fw; rw [hr, List.map_take]
   have hle := Pt.stp_le (fw l) (shas x) m
   have hlm := pos_le2 l hle (by omega)
   rw [swth_yes x l hne hk, if_pos rfl, swth_pos x m (ltl l) (by rw [hr, List.length_take]; omega), hf, stp_take _ _ _ _ (Nat.le_refl _)]
   have hp : pos (ltl l) (Pt.stp (fw l) (shas x) m) = pos l (Pt.stp (fw l) (shas x) m) := by
    rw [ltl_pos l m h]; exact pos_take l _ m hle (by omega)
   rw [hp, ltl_pos l m h, List.take_take, Nat.min_eq_left hlm]
  | false =>
   rw [swth_no x l hne hk, if_neg (by simp), pos_all l _ (by omega), List.take_length]
def trA (t : List UInt8) : Nat := Sg.up (fun k => !shas 30 ((fw t).getD k 0)) (rl t).length 0
def trZ (t : List UInt8) : Nat := Pt.stp (fw t) (shas 30) (rl t).length
theorem trim_end (t : List UInt8) (h : trA t < (rl t).length) : pos t (trA t) + (swth 30 (t.drop (pos t (trA t)))).length = pos t (trZ t) := by
 have h1 : (!shas 30 ((fw t).getD (trA t) 0)) = true := Sg.up_yes (fun k => !shas 30 ((fw t).getD k 0)) (rl t).length 0 (by rw [Nat.zero_add]; exact h)
 have hr : rl (t.drop (pos t (trA t))) = (rl t).drop (trA t) := rl_drop t _ (Nat.le_of_lt h)
 have hl : (rl (t.drop (pos t (trA t)))).length = (rl t).length - trA t := by rw [hr, List.length_drop]
 have hd := stp_drop (fw t) (shas 30) (trA t) ((rl t).length - trA t) (by simpa using h1) (by omega)
 rw [swth_pos 30 _ _ hl, fw_drop t _ (Nat.le_of_lt h), List.length_take, Nat.min_eq_left (pos_le _ _ (by rw [hl]; exact Pt.stp_le _ _ _)), pos_drop t _ _ (Nat.le_of_lt h), hd]
 unfold trZ
 rw [show trA t + ((rl t).length - trA t) = (rl t).length by omega]
def wth (s : List UInt8) (f t : Int) : Bool := decide (f <= t) && (isE s f && isE s t)
theorem wth_pos (s : List UInt8) (f t : Int) (h : wth s f t = true) : ∃ i j, i <= j /\ j <= (rl s).length /\ f = (pos s i : Nat) /\ t = (pos s j : Nat) := by
 unfold wth at h
 rw [Bool.and_eq_true, Bool.and_eq_true, decide_eq_true_eq] at h
 obtain ⟨h1, h2, h3⟩ := h
 obtain ⟨i, hi, rfl⟩ := isE_edge s f h2
 obtain ⟨j, hj, rfl⟩ := isE_edge s t h3
 exact ⟨i, j, pos_lt2 s hi (by omega), hj, rfl, rfl⟩
def mid (s : List UInt8) (f t : Nat) : List UInt8 := (s.take t).drop f
def trmE (s : List UInt8) (f t : Int) : Int × Int :=
 if wth s f t = true then (if trA (mid s f.toNat t.toNat) < (rl (mid s f.toNat t.toNat)).length then (f + (pos (mid s f.toNat t.toNat) (trA (mid s f.toNat t.toNat)) : Nat), f + (pos (mid s f.toNat t.toNat) (trZ (mid s f.toNat t.toNat)) : Nat)) else (t, t)) else (0, 0)
def kndE (s : List UInt8) (f t : Int) : Int := if wth s f t = true then kndR (bk (mid s f.toNat t.toNat)) else 0
end Go.Proofs.YtdpohgoikbeplaaGreatDoor.Sn
namespace Go.Proofs.YtdpohgoikbeplaaGreatDoor.Sn
open Go.RowKit Wt
theorem ext_mid (l : List UInt8) (f t : Nat) : (⟨l.toArray⟩ : ByteArray).extract f t = ⟨(mid l f t).toArray⟩ := by
 apply ByteArray.ext
 simp [ByteArray.data_extract, List.drop_take, mid]
theorem sspans_any (s : List UInt8) (f t : Int) (w : World) (ht : TbW w) (hl : s.length <= 1000000000) :
  Calls Tryz.prog 84 #[.string ⟨s.toArray⟩, .int .i64 f, .int .i64 t] w fun e w' => e = .returned (.bool (wth s f t)) /\ Below w.heap.size w w' := by
 have HT := hid ht
 clear ht
 by_cases h0 : f <= t
 ·have HV := hid (show wth s f t = (isE s f && isE s t) by unfold wth; rw [decide_eq_true h0, Bool.true_and])
  go_enter Tryz.func84, Tryz.ntmps84
  go_wp2_with fail
  refine (is_any s f w (by omega) HT.out.tabs HT.out.two).mono ?_
  rintro e w1 ⟨rfl, be⟩; have HB1 := hid be
  have HT1 := hid (HT.out.below be)
  clear be; obtain ⟨b, hb⟩ : ∃ b, b = isE s f := ⟨_, rfl⟩
  rw [<- hb] at HV
  rw [<- hb]; clear hb
  cases b with
  | false =>
   have HV2 := hid (show wth s f t = false from HV.out)
   clear HV
   go_wp2
   go_ret; exact ⟨by rw [HV2.out]; rfl, HB1.out⟩
  | true =>
   have HV2 := hid (show wth s f t = isE s t from HV.out)
   clear HV
   go_wp2_with fail
   refine (is_any s t w1 (by omega) HT1.out.tabs HT1.out.two).mono ?_
   rintro e w2 ⟨rfl, be⟩; have HB2 := hid (HB1.out.trans (be.mono HB1.out.size))
   clear be; obtain ⟨b, hb⟩ : ∃ b, b = isE s t := ⟨_, rfl⟩
   rw [<- hb] at HV2
   rw [<- hb]; clear hb
   go_wp2
   go_ret; exact ⟨by rw [HV2.out]; rfl, HB2.out⟩
 ·have HV := hid (show wth s f t = false by unfold wth; rw [decide_eq_false h0, Bool.false_and])
  clear HT
  go_enter Tryz.func84, Tryz.ntmps84
  go_wp2
  go_ret; exact ⟨by rw [HV.out]; rfl, Below.refl _ _⟩
set_option maxHeartbeats 1000000 in
theorem skind_any (s : List UInt8) (f t : Int) (w : World) (ht : TbW w) (hl : s.length <= 1000000000) :
  Calls Tryz.prog 51 #[.string ⟨s.toArray⟩, .int .i64 f, .int .i64 t] w fun e w' => e = .returned (.int .i64 (kndE s f t)) /\ Below w.heap.size w w' := by
 have HS := hid (sspans_any s f t w ht hl)
 have HT := hid ht
 clear ht
 cases hw : wth s f t with
 | false =>
  have HV := hid (show kndE s f t = 0 by unfold kndE; rw [hw, if_neg (by simp)])
  rw [hw] at HS
  clear hw HT
  go_enter Tryz.func51, Tryz.ntmps51
  go_wp2_with fail
  refine HS.out.mono ?_
  rintro e w1 ⟨rfl, be⟩; have HB1 := hid be
  clear be
  go_wp2
  go_ret; exact ⟨by rw [HV.out]; rfl, HB1.out⟩
 | true =>
  obtain ⟨i, j, hij, hj, rfl, rfl⟩ := wth_pos s f t hw
  have hp2 := pos_le2 s hij hj
  have hp4 := pos_le s j hj
  obtain ⟨l, hll⟩ : ∃ l, l = mid s (pos s i) (pos s j) := ⟨_, rfl⟩
  have HL := hid hll
  have hln : l.length <= 1000000000 := by rw [hll]; unfold mid; rw [List.length_drop, List.length_take]; omega
  have HLE := hid (swth_le 10270 _ l (Nat.le_refl _))
  have HV := hid (show kndE s (pos s i : Nat) (pos s j : Nat) = if slast (swth 10270 l) == 9 then 1 else if slast (swth 10270 l) == 10 then 2 else 0 by
   unfold kndE kndR
   rw [hw, if_pos rfl, Int.toNat_natCast, Int.toNat_natCast, <- hll, <- swth_bk 10270 _ l (Nat.le_refl _), <- slast_hd])
  rw [hw] at HS
  obtain ⟨f, hf⟩ : ∃ f, f = pos s i := ⟨_, rfl⟩
  obtain ⟨t, hte⟩ : ∃ t, t = pos s j := ⟨_, rfl⟩
  rw [<- hf] at hp2 HS HL HV ⊢
  rw [<- hte] at hp2 hp4 HS HL HV ⊢
  have hp3 : (f : Int) <= (t : Int) := by omega
  clear hf hte hij hj hll hw
  go_enter Tryz.func51, Tryz.ntmps51
  go_wp2_with fail
  refine HS.out.mono ?_
  rintro e w1 ⟨rfl, be⟩; have HB1 := hid be
  clear be HS
  go_wp2_with fail
  rw [ext_mid, <- HL.out]; refine (swth_any 10270 l w1 (HT.out.below HB1.out) hln).mono ?_
  rintro e w2 ⟨rfl, be⟩; have HB2 := hid (HB1.out.trans (be.mono HB1.out.size))
  clear be
  go_wp2_with fail
  refine (slast_any (swth 10270 l) w2 (HT.out.below HB2.out) (by have := HLE.out; omega)).mono ?_
  rintro e w3 ⟨rfl, be⟩; have HB3 := hid (HB2.out.trans (be.mono HB2.out.size))
  obtain ⟨c, hc⟩ : ∃ c, c = slast (swth 10270 l) := ⟨_, rfl⟩
  obtain ⟨m, hm⟩ : ∃ m : Nat, m = (decLast (swth 10270 l)).2 := ⟨_, rfl⟩
  rw [<- hc] at HV
  rw [<- hc, <- hm]; clear hc hm be
  by_cases h9 : c = 9
  ·subst h9
   go_wp2
   go_ret; exact ⟨by rw [HV.out]; rfl, HB3.out⟩
  have b9 : (c == 9) = false := beq_eq_false_iff_ne.2 h9
  by_cases h10 : c = 10
  ·subst h10
   go_wp2
   go_ret; exact ⟨by rw [HV.out]; rfl, HB3.out⟩
  have b10 : (c == 10) = false := beq_eq_false_iff_ne.2 h10
  have HV2 := hid (show kndE s (f : Nat) (t : Nat) = 0 by rw [HV.out, b9, b10]; rfl)
  clear HV
  go_wp2
  go_ret; exact ⟨by rw [HV2.out]; rfl, HB3.out⟩
def trU (l : List UInt8) (k : Nat) : Nat := Sg.up (fun k => !shas 30 ((fw l).getD k 0)) ((rl l).length - k) k
theorem trU_end (l : List UInt8) (k : Nat) (h : (rl l).length <= k) : trU l k = k := by
 unfold trU
 rw [show (rl l).length - k = 0 by omega]; rfl
theorem trU_yes (l : List UInt8) (k : Nat) (h : k < (rl l).length) (hc : shas 30 ((fw l).getD k 0) = true) : trU l k = trU l (k + 1) := by
 unfold trU
 rw [show (rl l).length - k = ((rl l).length - (k + 1)) + 1 by omega]
 conv => lhs; unfold Sg.up
 rw [if_neg (by rw [hc]; simp)]
theorem trU_no (l : List UInt8) (k : Nat) (h : k < (rl l).length) (hc : shas 30 ((fw l).getD k 0) = false) : trU l k = k := by
 unfold trU
 rw [show (rl l).length - k = ((rl l).length - (k + 1)) + 1 by omega]
 unfold Sg.up
 rw [if_pos (by rw [hc]; simp)]
theorem fw_at (l : List UInt8) (k : Nat) (h : k < (rl l).length) : (fw l).getD k 0 = sncls ((dec (l.drop (pos l k))).1 : Int) := by
 have h1 := rl_drop l k (Nat.le_of_lt h)
 have hne : l.drop (pos l k) ≠ [] := drop_ne l _ (pos_end l k h)
 rw [rl_cons _ hne, List.drop_eq_getElem_cons h] at h1
 have h2 := (List.cons.inj h1).1
 rw [List.getD_eq_getElem?_getD, List.getElem?_eq_getElem (by rw [fw_len]; exact h)]
 show (fw l)[k]'(by rw [fw_len]; exact h) = _
 unfold fw
 rw [List.getElem_map, <- h2]
set_option maxHeartbeats 4000000 in
theorem strim_any (s : List UInt8) (f t : Int) (w : World) (ht : TbW w) (hl : s.length <= 1000000000) :
  Calls Tryz.prog 48 #[.string ⟨s.toArray⟩, .int .i64 f, .int .i64 t] w fun e w' => e = .returned (.tuple #[.int .i64 (trmE s f t).1, .int .i64 (trmE s f t).2]) /\ Below w.heap.size w w' := by
 have HS := hid (sspans_any s f t w ht hl)
 have HT := hid ht
 clear ht
 cases hw : wth s f t with
 | false =>
  have HV := hid (show trmE s f t = (0, 0) by unfold trmE; rw [hw, if_neg (by simp)])
  rw [hw] at HS
  rw [HV.out]; clear hw HT HV
  go_enter Tryz.func48, Tryz.ntmps48
  go_wp2_with fail
  refine HS.out.mono ?_
  rintro e w1 ⟨rfl, be⟩; have HB1 := hid be
  clear be
  go_wp2
  go_ret2; exact ⟨rfl, HB1.out⟩
 | true =>
  obtain ⟨i, j, hij, hj, rfl, rfl⟩ := wth_pos s f t hw
  have hp2 := pos_le2 s hij hj
  have hp4 := pos_le s j hj
  obtain ⟨l, hll⟩ : ∃ l, l = mid s (pos s i) (pos s j) := ⟨_, rfl⟩
  have HL := hid hll
  have hln : l.length = pos s j - pos s i := by rw [hll]; unfold mid; rw [List.length_drop, List.length_take]; omega
  have HV := hid (show trmE s (pos s i : Nat) (pos s j : Nat) = if trA l < (rl l).length then (((pos s i : Nat) : Int) + ((pos l (trA l) : Nat) : Int), ((pos s i : Nat) : Int) + ((pos l (trZ l) : Nat) : Int)) else (((pos s j : Nat) : Int), ((pos s j : Nat) : Int)) by
   unfold trmE
   rw [hw, if_pos rfl, Int.toNat_natCast, Int.toNat_natCast, <- hll])
  rw [hw] at HS
  have HMD := hid (show ∀ o, o <= l.length -> mid s (pos s i + o) (pos s j) = l.drop o from fun o _ => by
   rw [hll]
   unfold mid
   rw [List.drop_drop])
  obtain ⟨f, hf⟩ : ∃ f, f = pos s i := ⟨_, rfl⟩
  obtain ⟨t, hte⟩ : ∃ t, t = pos s j := ⟨_, rfl⟩
  rw [<- hf] at hp2 HS HL HV HMD hln ⊢
  rw [<- hte] at hp2 hp4 HS HL HV HMD hln ⊢
  have hp3 : (f : Int) <= (t : Int) := by omega
  clear hf hte hij hj hll hw; have HSZ := hid (show (⟨l.toArray⟩ : ByteArray).size = l.length by show l.toArray.size = _; simp)
  go_enter Tryz.func48, Tryz.ntmps48
  go_wp2_with fail
  refine HS.out.mono ?_
  rintro e w0 ⟨rfl, be⟩; have HB0 := hid (be.trans ((Below.refl w.heap.size w0).alloc be.size (.stringIter ⟨l.toArray⟩ 0)))
  have HIT0 := hid (World.iter_heap w0 ⟨l.toArray⟩ 0)
  have hw0 := be.size
  clear be HS
  go_wp2; rw [ext_mid, <- HL.out]; obtain ⟨it, hit⟩ : ∃ it, it = w0.heap.size := ⟨_, rfl⟩
  rw [<- hit] at HIT0 hw0 ⊢
  have HW0 := hid hw0
  clear hit
  go_loopw [1, 8, 9] (fun v _ _ wr => v = .int .i64 (f : Int) /\ ∃ (p k : Nat), Hid (p = pos l k) /\ Hid (k <= (rl l).length) /\ Hid (trA l = trU l k) /\ Hid (wr.heap[it]? = some (.stringIter ⟨l.toArray⟩ p)) /\ Hid (Below w.heap.size w wr)) (fun _ _ _ wr => l.length - wr.iterPos it)
  case atStart => exact ⟨rfl, 0, 0, rfl, Nat.zero_le _, rfl, HIT0, HB0⟩
  case round =>
   obtain ⟨rfl, p, k, HPK, HKN, HA, HI, HB⟩ := hrel
   have hin : it < wr.heap.size := (Array.getElem?_eq_some_iff.1 HI.out).1
   by_cases hlt : p < l.length
   ·have hkn : k < (rl l).length := by
     rcases Nat.lt_or_ge k (rl l).length with h | h
     ·exact h
     ·have h1 := HPK.out; rw [pos_all l k h] at h1; omega
    have hnx := wnext_at (P := Tryz.prog) wr it ⟨l.toArray⟩ p 0 HI.out (by rw [HSZ.out]; exact hlt)
    rw [decode_place l p hlt] at hnx
    have hst := pos_step l k hkn
    rw [<- HPK.out] at hst
    have d1 := dec_ge _ (drop_ne l p hlt)
    have HCL := hid (show (fw l).getD k 0 = sncls ((dec (l.drop p)).1 : Int) by rw [HPK.out]; exact fw_at l k hkn)
    have HY := hid (trU_yes l k hkn)
    have HN := hid (trU_no l k hkn)
    have HKN1 := hid hkn
    obtain ⟨nn, hnn⟩ : ∃ nn, nn = (dec (l.drop p)).2 := ⟨_, rfl⟩
    obtain ⟨rr, hrr⟩ : ∃ rr : Int, rr = ((dec (l.drop p)).1 : Int) := ⟨_, rfl⟩
    rw [<- hnn] at hnx d1 hst
    rw [<- hrr] at hnx HCL
    have HST := hid hst
    obtain ⟨w1, hw1⟩ : ∃ w1, w1 = wr.putObj it (.stringIter ⟨l.toArray⟩ (p + nn)) := ⟨_, rfl⟩
    rw [<- hw1] at hnx
    have HI1 := hid (show w1.heap[it]? = some (.stringIter ⟨l.toArray⟩ (p + nn)) by rw [hw1]; exact World.putObj_heap_same hin)
    have HB1 := hid (show Below w.heap.size w w1 by rw [hw1]; exact HB.out.trans ⟨rfl, rfl, rfl, by simp [World.putObj], fun j hj => World.putObj_heap_other (by have := HW0.out; omega)⟩)
    have HM := hid (show l.length - wr.iterPos it = l.length - p by unfold World.iterPos; rw [HI.out])
    clear hnn hrr hw1 HI HB hkn hst
    go_wp2_with fail
    refine (sncls_any rr w1).mono ?_
    rintro e w2 ⟨rfl, hw2⟩; obtain rfl := hw2.symm
    clear hw2; obtain ⟨c0, c1⟩ := sn_bd rr
    obtain ⟨c, hc⟩ : ∃ c, c = sncls rr := ⟨_, rfl⟩
    rw [<- hc] at HCL c0 c1
    rw [<- hc]; rw [HCL.out] at HY HN
    clear hc hnx
    go_wp2_with fail
    refine (shas_any 30 _ c w1 rfl c0 c1).mono ?_
    rintro e w2 ⟨rfl, hw2⟩; obtain rfl := hw2.symm
    clear hw2; obtain ⟨b, hb⟩ : ∃ b, b = shas 30 c := ⟨_, rfl⟩
    rw [<- hb] at HY HN
    rw [<- hb]; clear hb
    cases b with
    | true =>
     have HA1 := hid (show trA l = trU l (k + 1) from HA.out.trans (HY.out rfl))
     have HK1 := hid (show p + nn = pos l (k + 1) from HST.out)
     clear HY HN HA
     go_wp2
     go_roundw
     case rel => exact ⟨rfl, p + nn, k + 1, HK1, HKN1.out, HA1, HI1, HB1⟩
     case measure =>
      rw [HM.out]
      unfold World.iterPos
      rw [HI1.out]
      simp only []
      omega
    | false =>
     have hak : trA l = k := HA.out.trans (HN.out rfl)
     have hlt2 : trA l < (rl l).length := by rw [hak]; exact HKN1.out
     have HE := hid (trim_end l hlt2)
     have HV2 := hid (show trmE s (f : Nat) (t : Nat) = ((f : Int) + (p : Int), (f : Int) + ((pos l (trZ l) : Nat) : Int)) by rw [HV.out, if_pos hlt2, hak, <- HPK.out])
     rw [hak, <- HPK.out] at HE
     have HMp := hid (HMD.out p (Nat.le_of_lt hlt))
     have hdl : (l.drop p).length <= 1000000000 := by rw [List.length_drop]; omega
     have HDL := hid (swth_le 30 _ (l.drop p) (Nat.le_refl _))
     have HD2 := hid (show (l.drop p).length = l.length - p from List.length_drop)
     clear HY HN HA HV hlt2 hak HMD HCL HPK HKN; have q1 : (f : Int) + (p : Int) <= (t : Int) := by omega
     have q0 : (0 : Int) <= (f : Int) + (p : Int) := by omega
     have q2 : IntKind.i64.wrap ((f : Int) + (p : Int)) = (f : Int) + (p : Int) := by rw [IntKind.wrap_i64]; omega
     have q3 : ((f : Int) + (p : Int)).toNat = f + p := by omega
     go_wp2_with fail
     rw [ext_mid, HMp.out]; refine (swth_any 30 (l.drop p) w1 (HT.out.below HB1.out) hdl).mono ?_
     rintro e w2 ⟨rfl, be⟩; have HB2 := hid (HB1.out.trans (be.mono HB1.out.size))
     clear be; have HZ := hid (show ((f : Int) + (p : Int)) + ((swth 30 (l.drop p)).length : Int) = (f : Int) + ((pos l (trZ l) : Nat) : Int) by have := HE.out; omega)
     have q4 : IntKind.i64.wrap ((f : Int) + (p : Int) + ((swth 30 (l.drop p)).length : Int)) = (f : Int) + (p : Int) + ((swth 30 (l.drop p)).length : Int) := by rw [IntKind.wrap_i64]; have := HDL.out; have := HD2.out; omega
     clear HE HDL HD2
     go_wp2
     go_ret2; exact ⟨by rw [HV2.out, <- HZ.out]; rfl, HB2.out⟩
   ·have hnx := wnext_stop (P := Tryz.prog) wr it ⟨l.toArray⟩ p 0 HI.out (by rw [HSZ.out]; exact hlt)
    have hge : ¬ trA l < (rl l).length := by
     have hk : (rl l).length <= k := by
      rcases Nat.lt_or_ge k (rl l).length with h | h
      ·have := pos_end l k h
       have := HPK.out
       omega
      ·exact h
     rw [HA.out, trU_end l k hk]; omega
    have HV2 := hid (show trmE s (f : Nat) (t : Nat) = ((t : Int), (t : Int)) by rw [HV.out, if_neg hge])
    clear HV hge
    go_wp2
    go_ret2; exact ⟨by rw [HV2.out]; rfl, HB.out⟩
end Go.Proofs.YtdpohgoikbeplaaGreatDoor.Sn
