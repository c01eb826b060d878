/- SnMov: parts of the proof, joined. -/
import Derived.Test.YtdpohgoikbeplaaGreatDoorSSnFun2
import Derived.Test.YtdpohgoikbeplaaGreatDoorSSgMath
namespace Go.Proofs.YtdpohgoikbeplaaGreatDoor.Sn
open Go.RowKit Wt
def sC (s : List UInt8) (k : Nat) : Bool := scut s (pos s k)
def spF (s : List UInt8) : List (Nat × Nat) := Sg.byt s (Sg.pcF (sC s) (rl s).length 0)
def sbd (s : List UInt8) : List Nat := Br.bds 0 (spF s)
def sbs (s : List UInt8) : List Nat := if s = [] then [] else sbd s
theorem sp_ch0 (s : List UInt8) : Br.Chn 0 s.length (spF s) := Sg.pc_chn s (sC s) _ 0 (Nat.le_refl _) (Nat.zero_le _)
theorem onwT_up (s : List UInt8) (i : Nat) : ∀ (d j : Nat), (rl s).length - j <= d -> i < j -> j <= (rl s).length -> onwT s (pos s i) (pos s j - pos s i) = pos s (Sg.up (sC s) ((rl s).length - j) j)
 | d, j, hd, hij, hj => by
  have hm := pos_mono s (j - i) i (by omega)
  rw [show i + (j - i) = j by omega] at hm
  have hpp : pos s i + (pos s j - pos s i) = pos s j := by omega
  by_cases hlt : j < (rl s).length
  ·cases d with
   | zero => omega
   | succ d =>
    have hl := pos_end s j hlt
    have hin : pos s j - pos s i < (s.drop (pos s i)).length := by rw [List.length_drop]; omega
    obtain ⟨f, hf⟩ : ∃ f, (rl s).length - j = f + 1 := ⟨(rl s).length - (j + 1), by omega⟩
    rw [hf]
    unfold Sg.up
    cases hc : sC s j with
    | true =>
     rw [if_pos rfl, onwT_here s _ _ hin (by omega) (by rw [hpp]; exact hc), hpp]
    | false =>
     have hs := pos_step s j hlt
     have hs2 := pos_lt s j hlt
     rw [if_neg (by simp), onwT_next s _ _ hin (fun h => by rw [hpp] at h; have h2 : sC s j = true := h.2; rw [hc] at h2; cases h2), List.drop_drop, hpp, show pos s j - pos s i + (dec (s.drop (pos s j))).2 = pos s (j + 1) - pos s i by omega, onwT_up s i d (j + 1) (by omega) (by omega) hlt, show (rl s).length - (j + 1) = f by omega]
  ·obtain rfl : j = (rl s).length := by omega
   rw [Nat.sub_self]
   unfold Sg.up
   rw [pos_all s _ (Nat.le_refl _)] at *
   exact onwT_end s _ _ (by rw [List.length_drop]; omega)
theorem snx_nx (s : List UInt8) (i : Nat) (hi : i < (rl s).length) : snx s (pos s i) = pos s (Sg.nx (sC s) (rl s).length i) := by
 have hl := pos_end s i hi
 have hs := pos_step s i hi
 have hs2 := pos_lt s i hi
 unfold snx Sg.nx
 rw [onwT_next s _ 0 (by rw [List.length_drop]; omega) (fun h => by omega), List.drop_zero, Nat.zero_add, show (dec (s.drop (pos s i))).2 = pos s (i + 1) - pos s i by omega]
 exact onwT_up s i _ (i + 1) (Nat.le_refl _) (by omega) hi
theorem pos_has (s : List UInt8) (z : Nat) : ∀ k, k <= (rl s).length -> z < pos s k -> ∃ i, i < k /\ pos s i <= z /\ z < pos s (i + 1)
 | 0, _, h => by rw [pos_0] at h; omega
 | k + 1, hk, h => by
  by_cases h2 : z < pos s k
  ·obtain ⟨i, h3, h4⟩ := pos_has s z k (by omega) h2
   exact ⟨i, by omega, h4⟩
  ·exact ⟨k, by omega, by omega, h⟩
theorem bg_in (s : List UInt8) (i z : Nat) (hi : i < (rl s).length) (h1 : pos s i <= z) (h2 : z < pos s (i + 1)) : bgF s z 4 = pos s i := by
 obtain ⟨P, hP⟩ := mks_pos s i (Nat.le_of_lt hi)
 have hl := pos_end s i hi
 have hs := pos_step s i hi
 have hle := pos_le s (i + 1) hi
 rw [mks_at s _ hl] at hP
 exact begin_is s z (pos s i) P (by omega) h1 (by unfold wid; omega) hP
theorem back_in (s : List UInt8) (i z : Nat) (hi : i < (rl s).length) (h1 : pos s i < z) (h2 : z <= pos s (i + 1)) : backE s (z : Int) = (pos s i : Nat) := by
 have hle := pos_le s (i + 1) hi
 unfold backE
 rw [if_neg (by omega), if_neg (by omega), Int.toNat_natCast, bg_in s i (z - 1) hi (by omega) (by omega)]
theorem isE_in (s : List UInt8) (i z : Nat) (hi : i < (rl s).length) (h1 : pos s i <= z) (h2 : z < pos s (i + 1)) (h0 : 0 < z) : isE s (z : Int) = (pos s i == z) := by
 have hle := pos_le s (i + 1) hi
 unfold isE
 rw [if_neg (by omega), if_neg (by omega), Int.toNat_natCast, bg_in s i z hi h1 h2]
theorem sp_mem (s : List UInt8) (i : Nat) (hi : i < (rl s).length) : (pos s (Sg.dn (sC s) i), pos s (Sg.nx (sC s) (rl s).length i)) ∈ spF s := by
 have h := Sg.pc_mem (C := sC s) _ 0 i (Nat.le_refl _) (Nat.zero_le _) hi (.inl rfl)
 exact List.mem_map.2 ⟨_, h, rfl⟩
theorem pos_le2 (s : List UInt8) {i j : Nat} (h : i <= j) (hj : j <= (rl s).length) : pos s i <= pos s j := by
 have := pos_mono s (j - i) i (by omega)
 rw [show i + (j - i) = j by omega] at this
 omega
set_option maxHeartbeats 2000000 in
theorem snext_at (s : List UInt8) (z p : Nat) (w : World) (ht : TbW w) (hl : s.length <= 1000000000) (hz : z < s.length) (hpz : p <= z) (hbk : backE s ((z + 1 : Nat) : Int) = (p : Nat)) :
  Calls Tryz.prog 44 #[.string ⟨s.toArray⟩, .int .i64 z] w fun e w' => e = .returned (.int .i64 (snx s p)) /\ Below w.heap.size w w' := by
 have HT := hid ht
 have HBK := hid (show backE s ((z : Int) + 1) = (p : Nat) from by rw [<- hbk, Int.natCast_add]; rfl)
 have hp : p < s.length := by omega
 obtain ⟨l, hll⟩ : ∃ l, l = s.drop p := ⟨_, rfl⟩
 have hdl : l.length = s.length - p := by rw [hll]; exact List.length_drop
 have HLL := hid hll
 have HSZ := hid (show (⟨l.toArray⟩ : ByteArray).size = l.length by show l.toArray.size = _; simp)
 clear ht hll hbk hpz
 go_enter Tryz.func44, Tryz.ntmps44
 go_wp2_with fail
 refine (back_any s _ w (by omega) HT.out.tabs HT.out.two).mono ?_
 rintro e w0 ⟨rfl, be⟩
 rw [HBK.out]
 have HB0 := hid (be.trans ((Below.refl w.heap.size w0).alloc be.size (.stringIter ⟨l.toArray⟩ 0)))
 have HIT0 := hid (World.iter_heap w0 ⟨l.toArray⟩ 0)
 have hw0 := be.size
 clear be
 go_wp2
 rw [ext_drop, <- HLL.out]
 obtain ⟨it, hit⟩ : ∃ it, it = w0.heap.size := ⟨_, rfl⟩
 rw [<- hit] at HIT0 hw0 ⊢
 have HW0 := hid hw0
 clear hit
 go_loopw [6] (fun _ wr => ∃ t : Nat, Hid (snx s p = onwT s p t) /\ Hid (wr.heap[it]? = some (.stringIter ⟨l.toArray⟩ t)) /\ Hid (Below w.heap.size w wr)) (fun _ wr => l.length - wr.iterPos it)
 case atStart => exact ⟨0, rfl, HIT0, HB0⟩
 case round =>
  obtain ⟨t, HP, HI, HB⟩ := hrel
  have hin : it < wr.heap.size := (Array.getElem?_eq_some_iff.1 HI.out).1
  by_cases hlt : t < l.length
  ·have hnx := wnext_at (P := Tryz.prog) wr it ⟨l.toArray⟩ t 0 HI.out (by rw [HSZ.out]; exact hlt)
   rw [decode_place l t hlt] at hnx
   have d1 := dec_ge _ (drop_ne l t hlt)
   obtain ⟨nn, hnn⟩ : ∃ nn, nn = (dec (l.drop t)).2 := ⟨_, rfl⟩
   obtain ⟨rr, hrr⟩ : ∃ rr, rr = (dec (l.drop t)).1 := ⟨_, rfl⟩
   rw [<- hnn] at hnx d1
   rw [<- hrr] at hnx
   have HNN := hid hnn
   obtain ⟨w1, hw1⟩ : ∃ w1, w1 = wr.putObj it (.stringIter ⟨l.toArray⟩ (t + nn)) := ⟨_, rfl⟩
   rw [<- hw1] at hnx
   have HI1 := hid (show w1.heap[it]? = some (.stringIter ⟨l.toArray⟩ (t + nn)) by rw [hw1]; exact World.putObj_heap_same hin)
   have HB1 := hid (show Below w.heap.size w w1 by rw [hw1]; exact HB.out.trans ⟨rfl, rfl, rfl, by simp [World.putObj], fun j hj => World.putObj_heap_other (by have := HW0.out; omega)⟩)
   have HM := hid (show l.length - wr.iterPos it = l.length - t by unfold World.iterPos; rw [HI.out])
   have hin1 : it < w1.heap.size := (Array.getElem?_eq_some_iff.1 HI1.out).1
   have hlt' : t < (s.drop p).length := by rw [<- HLL.out]; exact hlt
   have HLT := hid hlt'
   clear hnn hrr hw1 HI HB hlt'
   by_cases h0 : 0 < t
   ·have h0i : (0 : Int) < (t : Int) := by omega
    have hpt : p + t <= s.length := by omega
    go_wp2_with fail
    refine (scut_any s (p + t) w1 (HT.out.below HB1.out) hl hpt).mono ?_
    rintro e w2 ⟨rfl, be⟩; have HB2 := hid (HB1.out.trans (be.mono HB1.out.size))
    have HI2 := hid (show w2.heap[it]? = some (.stringIter ⟨l.toArray⟩ (t + nn)) from (be.block _ hin1).trans HI1.out)
    obtain ⟨v, hv⟩ : ∃ v, v = scut s (p + t) := ⟨_, rfl⟩
    have HV := hid hv
    rw [<- hv]; clear be hv HB1 HI1 hnx
    cases v with
    | true =>
     have HE := hid (HP.out.trans (onwT_here s p t HLT.out h0 HV.out.symm))
     go_wp2
     go_ret; exact ⟨by rw [HE.out]; simp, HB2.out⟩
    | false =>
     have HE := hid (HP.out.trans (onwT_next s p t HLT.out (fun h => by rw [<- HV.out] at h; cases h.2)))
     go_wp2
     go_roundw
     case rel => exact ⟨t + nn, (by show _ = _; rw [HE.out, HNN.out, HLL.out]), HI2, HB2⟩
     case measure =>
      rw [HM.out]
      unfold World.iterPos
      rw [HI2.out]
      simp only []
      omega
   ·have h00 : t = 0 := by omega
    have HE := hid (HP.out.trans (onwT_next s p t HLT.out (fun h => h0 h.1)))
    have HT0 := hid h00
    have h0i : ¬ (0 : Int) < (t : Int) := by omega
    clear h00
    go_wp2
    go_roundw
    case rel => exact ⟨t + nn, (by show _ = _; rw [HE.out, HNN.out, HLL.out]), HI1, HB1⟩
    case measure =>
     rw [HM.out]
     unfold World.iterPos
     rw [HI1.out]
     simp only []
     omega
  ·have hnx := wnext_stop (P := Tryz.prog) wr it ⟨l.toArray⟩ t 0 HI.out (by rw [HSZ.out]; exact hlt)
   have HE := hid (HP.out.trans (onwT_end s p t (by rw [<- HLL.out]; exact hlt)))
   go_wp2
   go_ret; exact ⟨by rw [HE.out]; rfl, HB.out⟩
theorem snext_any (s : List UInt8) (z : Int) (w : World) (ht : TbW w) (hl : s.length <= 1000000000) :
  Calls Tryz.prog 44 #[.string ⟨s.toArray⟩, .int .i64 z] w fun e w' => e = .returned (.int .i64 (Br.abv z s.length (sbd s) : Nat)) /\ Below w.heap.size w w' := by
 by_cases h0 : z < 0
 ·have HN := hid (show Br.abv z s.length (sbd s) = 0 from Br.abv_low (by omega) _)
  rw [HN.out]; clear HN ht
  go_enter Tryz.func44, Tryz.ntmps44
  go_wp2
  go_ret; exact ⟨rfl, Below.refl _ _⟩
 by_cases h1 : (s.length : Int) <= z
 ·have HN := hid (show Br.abv z s.length (sbd s) = s.length from (sp_ch0 s).abv_high h1 _)
  rw [HN.out]; clear HN ht
  go_enter Tryz.func44, Tryz.ntmps44
  go_wp2
  go_ret; exact ⟨rfl, Below.refl _ _⟩
 obtain ⟨p, rfl⟩ : ∃ p : Nat, z = p := ⟨z.toNat, by omega⟩
 obtain ⟨i, hi, h2, h3⟩ := pos_has s p (rl s).length (Nat.le_refl _) (by rw [pos_all s _ (Nat.le_refl _)]; omega)
 have h4 := pos_le2 s (Sg.dn_le (sC s) i) (Nat.le_of_lt hi)
 have h5 := pos_le2 s (i := i + 1) (Sg.nx_gt (sC s) (rl s).length i) (Sg.nx_le hi)
 have e : Br.abv (p : Int) s.length (sbd s) = pos s (Sg.nx (sC s) (rl s).length i) := (sp_ch0 s).abv_in (sp_mem s i hi) (by omega) (by omega) _
 rw [e, <- snx_nx s i hi]
 exact snext_at s p (pos s i) w ht hl (by omega) h2 (back_in s i (p + 1) hi (by omega) (by omega))
set_option maxHeartbeats 2000000 in
theorem sprev_at (s : List UInt8) (z i : Nat) (w : World) (ht : TbW w) (hl : s.length <= 1000000000) (hz : z <= s.length) (hi : i < (rl s).length) (h1 : pos s i < z) (h2 : z <= pos s (i + 1)) :
  Calls Tryz.prog 45 #[.string ⟨s.toArray⟩, .int .i64 z] w fun e w' => e = .returned (.int .i64 (pos s (Sg.dn (sC s) i) : Nat)) /\ Below w.heap.size w w' := by
 have HT := hid ht
 have HB := hid (back_in s i z hi h1 h2)
 have H1 := hid h1
 have hzi : ¬ (s.length : Int) < (z : Int) := by omega
 clear ht h1 h2
 go_enter Tryz.func45, Tryz.ntmps45
 go_wp2
 go_loopw [1] (fun fr wr => ∃ (p j : Nat), fr = .int .i64 p /\ Hid (j < (rl s).length) /\ Hid (backE s (p : Int) = (pos s j : Nat)) /\ Hid (Sg.dn (sC s) i = Sg.dn (sC s) j) /\ Hid (pos s j < p) /\ Hid (Below w.heap.size w wr)) (fun fr _ => (intOf fr).toNat)
 case atStart => exact ⟨z, i, rfl, hi, HB, rfl, H1, Below.refl _ _⟩
 case round =>
  obtain ⟨p, j, rfl, HJ, HBK, HD, HLT, HBl⟩ := hrel
  go_wp2_with fail
  refine (back_any s (p : Int) wr (by omega) (HT.out.below HBl.out).tabs (HT.out.below HBl.out).two).mono ?_
  rintro e w1 ⟨rfl, be⟩; rw [HBK.out]; have HB1 := hid (HBl.out.trans (be.mono HBl.out.size))
  have hpl := pos_end s j HJ.out
  have HC := hid (show sC s j = scut s (pos s j) from rfl)
  obtain ⟨q, hq⟩ : ∃ q, q = pos s j := ⟨_, rfl⟩
  have HQ := hid hq
  have hlt := HLT.out
  rw [<- hq] at hlt hpl HC
  rw [<- hq]; clear be hq HBl HLT
  by_cases h0 : q = 0
  ·subst h0
   have HE := hid (show pos s (Sg.dn (sC s) i) = 0 by
    have hj0 : j = 0 := by
     rcases Nat.eq_zero_or_pos j with h | h
     ·exact h
     ·have h1 := pos_mono s j 0 (by have := HJ.out; omega)
      have h2 := HQ.out
      rw [Nat.zero_add] at h1
      omega
    rw [HD.out, hj0]
    rfl)
   go_wp2
   go_ret; exact ⟨by rw [HE.out]; rfl, HB1.out⟩
  ·have h0i : ¬ (q : Int) = 0 := by omega
   have b0 : ((q : Int) == 0) = false := beq_eq_false_iff_ne.2 h0i
   go_wp2_with fail
   refine (scut_any s q w1 (HT.out.below HB1.out) hl (by omega)).mono ?_
   rintro e w2 ⟨rfl, be⟩; have HB2 := hid (HB1.out.trans (be.mono HB1.out.size))
   obtain ⟨v, hv⟩ : ∃ v, v = scut s q := ⟨_, rfl⟩
   rw [<- hv] at HC
   rw [<- hv]; clear be hv HB1; obtain ⟨j', hj'⟩ : ∃ j', j = j' + 1 := ⟨j - 1, by
    rcases Nat.eq_zero_or_pos j with h | h
    ·exfalso
     have h2 := HQ.out
     rw [h, pos_0] at h2
     omega
    ·omega⟩
   subst hj'
   cases v with
   | true =>
    have HE := hid (show pos s (Sg.dn (sC s) i) = q by
     rw [HD.out]
     unfold Sg.dn
     rw [if_pos HC.out, <- HQ.out])
    go_wp2
    go_ret; exact ⟨by rw [HE.out]; rfl, HB2.out⟩
   | false =>
    have HD2 := hid (show Sg.dn (sC s) i = Sg.dn (sC s) j' by
     rw [HD.out]
     conv => lhs; unfold Sg.dn
     rw [if_neg (by rw [HC.out]; simp)])
    have HBK2 := hid (show backE s (q : Int) = (pos s j' : Nat) by rw [HQ.out]; exact back_pos s j' (by have := HJ.out; omega))
    have HLT2 := hid (show pos s j' < q by rw [HQ.out]; exact pos_lt s j' (by have := HJ.out; omega))
    have HJ2 := hid (show j' < (rl s).length by have := HJ.out; omega)
    go_wp2
    go_roundw
    case rel => exact ⟨q, j', rfl, HJ2, HBK2, HD2, HLT2, HB2⟩
    case measure => simp [intOf]; omega
theorem sprev_any (s : List UInt8) (z : Int) (w : World) (ht : TbW w) (hl : s.length <= 1000000000) :
  Calls Tryz.prog 45 #[.string ⟨s.toArray⟩, .int .i64 z] w fun e w' => e = .returned (.int .i64 (Br.blw z 0 (sbd s) : Nat)) /\ Below w.heap.size w w' := by
 by_cases h1 : (s.length : Int) < z
 ·have HN := hid (show Br.blw z 0 (sbd s) = s.length from (sp_ch0 s).blw_high h1 _)
  rw [HN.out]; clear HN ht
  go_enter Tryz.func45, Tryz.ntmps45
  go_wp2
  go_ret; exact ⟨rfl, Below.refl _ _⟩
 by_cases h0 : z <= 0
 ·have HN := hid (show Br.blw z 0 (sbd s) = 0 from (sp_ch0 s).blw_low (by omega) _)
  have HT := hid ht
  rw [HN.out]; have HBK := hid (show backE s z = 0 by unfold backE; rw [if_pos (by omega)])
  clear HN ht
  go_enter Tryz.func45, Tryz.ntmps45
  go_wp2
  go_loopw [1] (fun fr wr => fr = .int .i64 z /\ wr = w) (fun _ _ => 0)
  case atStart => exact ⟨rfl, rfl⟩
  case round =>
   obtain ⟨rfl, rfl⟩ := hrel
   go_wp2_with fail
   refine (back_any s z wr (by omega) HT.out.tabs HT.out.two).mono ?_
   rintro e w1 ⟨rfl, be⟩; rw [HBK.out]; have HB1 := hid be
   clear be
   go_wp2
   go_ret; exact ⟨rfl, HB1.out⟩
 obtain ⟨p, rfl⟩ : ∃ p : Nat, z = p := ⟨z.toNat, by omega⟩
 obtain ⟨i, hi, h2, h3⟩ := pos_has s (p - 1) (rl s).length (Nat.le_refl _) (by rw [pos_all s _ (Nat.le_refl _)]; omega)
 have h4 := pos_le2 s (Sg.dn_le (sC s) i) (Nat.le_of_lt hi)
 have h5 := pos_le2 s (i := i + 1) (Sg.nx_gt (sC s) (rl s).length i) (Sg.nx_le hi)
 have e : Br.blw (p : Int) 0 (sbd s) = pos s (Sg.dn (sC s) i) := (sp_ch0 s).blw_in (sp_mem s i hi) (by omega) (by omega) _
 rw [e]
 exact sprev_at s p i w ht hl (by omega) hi (by omega) (by omega)
theorem sis_any (s : List UInt8) (z : Int) (w : World) (ht : TbW w) (hl : s.length <= 1000000000) :
  Calls Tryz.prog 43 #[.string ⟨s.toArray⟩, .int .i64 z] w fun e w' => e = .returned (.bool (!s.isEmpty && (sbd s).any fun x => (x : Int) == z)) /\ Below w.heap.size w w' := by
 have HT := hid ht
 clear ht
 by_cases hne : s = []
 ·subst hne
  clear HT
  by_cases h0 : z <= 0
  ·go_enter Tryz.func43, Tryz.ntmps43
   go_wp2
   go_ret; exact ⟨rfl, Below.refl _ _⟩
  ·have h1 : (0 : Int) <= z := by omega
   go_enter Tryz.func43, Tryz.ntmps43
   go_wp2
   go_ret; exact ⟨rfl, Below.refl _ _⟩
 have he : s.isEmpty = false := by simpa using hne
 have h9 : 0 < s.length := List.length_pos_iff.2 hne
 rw [he, Bool.not_false, Bool.true_and]
 have HNE := hid hne
 clear hne
 by_cases h0 : z < 0
 ·have HN := hid (show ((sbd s).any fun x => (x : Int) == z) = false by unfold sbd; rw [(sp_ch0 s).is_out (.inl (by omega))]; simp; omega)
  rw [HN.out]; have e0 : (z == 0) = false := by simp; omega
  have e1 : (z == (s.length : Int)) = false := by simp; omega
  have hz0 : z <= 0 := by omega
  clear HN HT
  go_enter Tryz.func43, Tryz.ntmps43
  go_wp2
  go_ret; exact ⟨rfl, Below.refl _ _⟩
 by_cases h1 : (s.length : Int) <= z
 ·have HN := hid (show ((sbd s).any fun x => (x : Int) == z) = decide ((s.length : Int) = z) from (sp_ch0 s).is_out (.inr h1))
  rw [HN.out]; have e0 : (z == 0) = false := by simp; omega
  have hz0 : ¬ z <= 0 := by omega
  clear HN HT h0
  by_cases hz : z = (s.length : Int)
  ·subst hz
   go_enter Tryz.func43, Tryz.ntmps43
   go_wp2
   go_ret; exact ⟨by simp, Below.refl _ _⟩
  ·have e1 : (z == (s.length : Int)) = false := by simpa using hz
   have e2 : decide ((s.length : Int) = z) = false := decide_eq_false (fun h => hz h.symm)
   rw [e2]; clear e2
   go_enter Tryz.func43, Tryz.ntmps43
   go_wp2
   go_ret; exact ⟨rfl, Below.refl _ _⟩
 obtain ⟨p, rfl⟩ : ∃ p : Nat, z = p := ⟨z.toNat, by omega⟩
 obtain ⟨i, hi, h2, h3⟩ := pos_has s p (rl s).length (Nat.le_refl _) (by rw [pos_all s _ (Nat.le_refl _)]; omega)
 have h4 := pos_le2 s (Sg.dn_le (sC s) i) (Nat.le_of_lt hi)
 have h5 := pos_le2 s (i := i + 1) (Sg.nx_gt (sC s) (rl s).length i) (Sg.nx_le hi)
 have HN := hid (show ((sbd s).any fun x => (x : Int) == (p : Int)) = decide ((pos s (Sg.dn (sC s) i) : Int) = p) from (sp_ch0 s).is_in (sp_mem s i hi) (by omega) (by omega))
 rw [HN.out]
 clear HN h4 h5
 by_cases hp0 : p = 0
 ·subst hp0
  have HE := hid (show decide ((pos s (Sg.dn (sC s) i) : Int) = ((0 : Nat) : Int)) = true by
   have hi0 : i = 0 := by
    rcases Nat.eq_zero_or_pos i with h | h
    ·exact h
    ·have h6 := pos_mono s i 0 (by omega)
     rw [Nat.zero_add] at h6
     omega
   rw [hi0]
   rfl)
  rw [HE.out]; clear HE HT h2 h3 h0 h1
  go_enter Tryz.func43, Tryz.ntmps43
  go_wp2
  go_ret; exact ⟨rfl, Below.refl _ _⟩
 have hz0 : ¬ (p : Int) <= 0 := by omega
 have HI := hid (isE_in s i p hi h2 h3 (by omega))
 clear h0
 by_cases hpe : pos s i = p
 ·have HE := hid (show scut s p = decide ((pos s (Sg.dn (sC s) i) : Int) = p) by
   obtain ⟨i', rfl⟩ : ∃ i', i = i' + 1 := ⟨i - 1, by
    rcases Nat.eq_zero_or_pos i with h | h
    ·rw [h, pos_0] at hpe; omega
    ·omega⟩
   unfold Sg.dn
   cases hc : sC s (i' + 1) with
   | true =>
    rw [if_pos rfl, hpe, decide_eq_true rfl, <- hpe]; exact hc
   | false =>
    have h6 := pos_le2 s (Sg.dn_le (sC s) i') (by omega)
    have h7 := pos_lt s i' (by omega)
    rw [if_neg (by simp), decide_eq_false (by omega), <- hpe]
    exact hc)
  have HI2 := hid (show isE s (p : Int) = true by rw [HI.out, hpe]; simp)
  rw [<- HE.out]; clear HI HE h2 h3 hpe
  go_enter Tryz.func43, Tryz.ntmps43
  go_wp2_with fail
  refine (is_any s (p : Int) w (by omega) HT.out.tabs HT.out.two).mono ?_
  rintro e w1 ⟨rfl, be⟩; rw [HI2.out]; have HB1 := hid be
  clear be
  go_wp2_with fail
  refine (scut_any s p w1 (HT.out.below HB1.out) hl (by omega)).mono ?_
  rintro e w2 ⟨rfl, be⟩; have HB2 := hid (HB1.out.trans (be.mono HB1.out.size))
  obtain ⟨v, hv⟩ : ∃ v, v = scut s p := ⟨_, rfl⟩
  have HVV := hid hv
  rw [<- hv]; clear be hv
  cases v <;> (go_wp2; go_ret; exact ⟨by rw [<- HVV.out]; rfl, HB2.out⟩)
 ·have HE := hid (show decide ((pos s (Sg.dn (sC s) i) : Int) = p) = false from decide_eq_false (by
   have h6 := pos_le2 s (Sg.dn_le (sC s) i) (Nat.le_of_lt hi)
   omega))
  have HI2 := hid (show isE s (p : Int) = false by rw [HI.out]; simpa using hpe)
  rw [HE.out]; clear HI HE h2 h3 hpe
  go_enter Tryz.func43, Tryz.ntmps43
  go_wp2_with fail
  refine (is_any s (p : Int) w (by omega) HT.out.tabs HT.out.two).mono ?_
  rintro e w1 ⟨rfl, be⟩; rw [HI2.out]; have HB1 := hid be
  clear be
  go_wp2
  go_ret; exact ⟨rfl, HB1.out⟩
end Go.Proofs.YtdpohgoikbeplaaGreatDoor.Sn
