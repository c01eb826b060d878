/- GrPl2: parts of the proof, joined. -/
import Derived.Test.YtbajepdkgeldlaaGreatDoorJGuDoc
namespace Go.Proofs.YtbajepdkgeldlaaGreatDoor.Wt
open Go.RowKit Go.Shelf
attribute [local go_sem] Oper.semAt_some
def PlQ (l : List UInt8) (n : Int) (p : Nat) : Prop := p = Br.plE (Br.gbs l) n l.length
theorem chn_last {p e : Nat} {P : List (Nat × Nat)} (h : Br.Chn p e P) : (Br.bds p P)[P.length]? = some e /\ ∀ x ∈ Br.bds p P, x <= e := by
 induction h with
 | nil => exact ⟨rfl, fun x hx => by simp [Br.bds] at hx; omega⟩
 | @cons p t e P k1 k2 ih =>
  have := k2.le
  rw [Br.bds_cons, List.length_cons, List.getElem?_cons_succ]
  refine ⟨ih.1, fun x hx => ?_⟩
  rcases List.mem_cons.1 hx with h | h
  ·omega
  ·exact ih.2 x h
theorem plq_pre (l : List UInt8) (n : Int) (xs : List (Nat × Nat)) (x : Nat × Nat) (h : xs ++ [x] <+: gpF l 0) (hn : (xs.length : Int) = n) : PlQ l n x.1 := by
 obtain ⟨R, hR⟩ := h
 have hk : (gpF l 0)[xs.length]? = some x := by rw [<- hR]; simp
 have hne : l ≠ [] := fun e => by rw [e] at hk; simp [gpF, rl_nil, pcl_nil, plc] at hk
 have e : Br.gbs l = Br.gbd l := if_neg hne
 unfold PlQ Br.plE
 rw [e, if_neg (by omega), <- hn, Int.toNat_natCast, List.getD_eq_getElem?_getD]
 unfold Br.gbd
 rw [(Br.bds_at (Br.gp_ch0 l) _ _ hk).1]; rfl
theorem plq_all (l : List UInt8) (n : Int) (hn : (gcnt l : Int) <= n) : PlQ l n l.length := by
 unfold PlQ Br.plE
 rw [if_neg (by omega), List.getD_eq_getElem?_getD]
 by_cases hne : l = []
 ·rw [show Br.gbs l = [] from if_pos hne]; rfl
 ·rw [show Br.gbs l = Br.gbd l from if_neg hne]
  have hc := Br.gbd_cnt l
  by_cases e : n.toNat = gcnt l
  ·have h := (chn_last (Br.gp_ch0 l)).1
   have h2 : (gpF l 0).length = gcnt l := by
    unfold Br.gbd at hc
    rw [Br.bds_len] at hc
    omega
   rw [h2, <- e] at h
   unfold Br.gbd
   rw [h]; rfl
  ·rw [List.getElem?_eq_none (by rw [hc]; omega)]; rfl
theorem plq_neg (l : List UInt8) (n : Int) (hn : n < 0) : PlQ l n 0 := (if_pos hn).symm
theorem PlQ.le {l : List UInt8} {n : Int} {p : Nat} (h : PlQ l n p) : p <= l.length := by
 rw [h]
 unfold Br.plE
 split
 ·exact Nat.zero_le _
 ·rw [List.getD_eq_getElem?_getD]
  cases hk : (Br.gbs l)[n.toNat]? with
  | none => exact Nat.le_refl _
  | some x =>
   have hm := List.mem_of_getElem? hk
   unfold Br.gbs at hm
   split at hm
   ·cases hm
   ·exact (chn_last (Br.gp_ch0 l)).2 x hm
set_option maxHeartbeats 4000000 in
set_option maxRecDepth 100000 in
theorem gplace_in (l : List UInt8) (n : Int) (w : World) (ht : TbW w) (hl : l.length <= 100000000) (hn : n <= 9223372036854775807) :
  CallsIn Fence.wide 3 Tryz.prog 31 #[.string ⟨l.toArray⟩, .int .i64 n] w fun e W' => ∃ p : Nat, e = .returned (.int .i64 p) /\ PlQ l n p /\ Below w.heap.size w W' := by
 have HT := hid ht
 clear ht
 obtain ⟨L, hL, hLl⟩ := gp_all l _ 0 (Nat.le_refl _)
 have HL := hid hL
 have HC := hid (gp_cnt hL)
 have hll : L.length <= 100000000 := by omega
 clear hL hLl
 refine callsIn_of_wp_marks Tryz.func31 rfl trivial ?_ rfl
 simp only [Tryz.ntmps31, List.size_toArray, List.length_cons, List.length_nil, Nat.reduceAdd, Nat.reduceSub, Array.replicate_succ, Array.replicate_zero, List.push_toArray, List.append_toArray, List.nil_append, List.cons_append]
 by_cases hneg : n < 0
 ·gi_wp2
  have c1 := (Boxed.new (w.alloc (.cells #[.int .i64 n] 3)) 3 (.int .i64 0)).cell
  rw [World.size_alloc] at c1
  have hB : Below w.heap.size w ((w.alloc (.cells #[.int .i64 n] 3)).alloc (.cells #[.int .i64 0] 3)) := ((Below.refl _ _).alloc (Nat.le_refl _) _).alloc (by simp) _
  refine ⟨_, ?_, 0, rfl, plq_neg l n hneg, hB⟩
  simp [results, Tryz.f31, go_sem, c1]
 ·have h0 : 0 <= n := by omega
  clear hneg
  gi_wp2_with (refine ⟨trivial, ?_⟩; gi_at_call 25; refine (callsIn_wide.2 (geach_any l _)).mono ?_; rintro e w' ⟨rfl, rfl⟩)
  obtain ⟨N, hN⟩ : ∃ N, N = w.heap.size := ⟨_, rfl⟩
  have b0 := ((Boxed.new w 3 (.int .i64 n)).alloc (.cells #[.int .i64 0] 3)).alloc (.cells #[.string ⟨l.toArray⟩] 9)
  have b1 := (Boxed.new (w.alloc (.cells #[.int .i64 n] 3)) 3 (.int .i64 0)).alloc (.cells #[.string ⟨l.toArray⟩] 9)
  have b2 := Boxed.new ((w.alloc (.cells #[.int .i64 n] 3)).alloc (.cells #[.int .i64 0] 3)) 9 (.string ⟨l.toArray⟩)
  have hB : Below w.heap.size w (((w.alloc (.cells #[.int .i64 n] 3)).alloc (.cells #[.int .i64 0] 3)).alloc (.cells #[.string ⟨l.toArray⟩] 9)) := (((Below.refl _ _).alloc (Nat.le_refl _) _).alloc (by simp) _).alloc (by simp; omega) _
  have hsz : (((w.alloc (.cells #[.int .i64 n] 3)).alloc (.cells #[.int .i64 0] 3)).alloc (.cells #[.string ⟨l.toArray⟩] 9)).heap.size = w.heap.size + 3 := by simp
  simp only [World.size_alloc] at b1 b2
  have HTw := hid (HT.out.below hB)
  obtain ⟨W0, hW0⟩ : ∃ W0, W0 = ((w.alloc (.cells #[.int .i64 n] 3)).alloc (.cells #[.int .i64 0] 3)).alloc (.cells #[.string ⟨l.toArray⟩] 9) := ⟨_, rfl⟩
  rw [<- hW0] at b0 b1 b2 hB hsz HTw ⊢
  rw [<- hN] at b0 b1 b2 hB hsz ⊢
  have h2 : 3 <= N := by rw [hN]; exact HT.out.two
  have HN := hid hN
  have HBw := hid hB
  have HS := hid hsz
  have HEa := hid (show WaAt (N + 1 + 1) l W0 from ⟨b2, HTw.out⟩)
  clear hN hB hsz hW0 HTw
  have HI0 := hid (And.intro b0 b1)
  clear b0 b1 b2
  refine rfF (N + 1 + 1) (fun k => k = N \/ k = N + 1) L (by omega) rfl HL.out HEa.out (by omega) rfl (fun k hk => by rintro (h | h) <;> omega)
   (fun pre W => (Boxed W N 3 (.int .i64 (n - (pre.length : Nat))) /\ Boxed W (N + 1) 3 (.int .i64 0)) /\ (pre.length : Int) <= n)
   (fun c pre W => c = .ret /\ ∃ (pr : List (Pl l)) (x : Pl l), pre = pr ++ [x] /\ (pr.length : Int) = n /\ Boxed W (N + 1) 3 (.int .i64 (x.v.1 : Nat)))
   (OwnFrom.and (OwnFrom.and (Own.from (boxed_own _ _ (fun pre : List (Pl l) => Value.int .i64 (n - (pre.length : Nat)))) _) (Own.from (boxed_own _ _ _) _)) (ownFrom_pure _ _))
   (fun c _ A C row hs hg hr => by
    obtain ⟨e, pr, x, e1, e2, e3⟩ := hs
    exact ⟨e, pr, x, e1, e2, boxed_keep e3 hg hr⟩)
   ⟨⟨by simpa using HI0.out.1, HI0.out.2⟩, by simpa using h0⟩ 5 11 ?assign ?body ?done ?stop
  case assign =>
   intro lp x W K hK
   dsimp only [encP]
   gi_wp2
   simpa [fr, encP] using hK
  case body =>
   rintro lp pre x W ⟨⟨v0, v1⟩, hpre⟩ hb he hlt
   have hx1 := x.lt
   have hx2 := x.le
   obtain ⟨f, hf⟩ : ∃ f, f = x.v.1 := ⟨_, rfl⟩
   have HF := hid hf
   dsimp only [fr, encP]
   rw [<- hf] at hx1 ⊢
   clear hf
   have HP : Hid ((pre ++ [x]).length = pre.length + 1) := hid (by simp)
   obtain ⟨k, hk⟩ : ∃ k, k = pre.length := ⟨_, rfl⟩
   have HK := hid hk
   rw [<- hk] at v0 hpre hlt HP
   clear hk
   obtain ⟨m, hm⟩ : ∃ m, m = n - (k : Int) := ⟨_, rfl⟩
   rw [<- hm] at v0
   have hm0 : 0 <= m := by omega
   have hm1 : m <= 9223372036854775807 := by omega
   have HM := hid hm
   have c0 := v0.cell
   have HV := hid (And.intro v0 v1)
   clear hm hpre
   by_cases hz : m = 0
   ·subst hz
    have f1 := v1.frozen
    have e1 := v1.cell
    clear v0 v1
    gi_wp2
    refine ⟨BS.set W _ _ (.inr rfl), rfl, pre, x, rfl, ?_, ?_⟩
    ·have := HM.out
     have := HK.out
     omega
    ·rw [<- HF.out]
     exact HV.out.2.set _
   ·have f1 := v0.frozen
    clear v0 v1
    gi_wp2
    refine ⟨BS.set W _ _ (.inl rfl), ⟨?_, HV.out.2.other (B' := N) (by omega) _⟩, ?_⟩
    ·have e : m - 1 = n - ((pre ++ [x]).length : Nat) := by rw [HP.out]; have := HM.out; omega
     rw [<- e]
     exact HV.out.1.set _
    ·rw [HP.out]
     have := HM.out
     omega
  case done =>
   rintro D W hD ⟨⟨v0, v1⟩, hpre⟩ hb hK
   have HPQ := hid (plq_all l n (by rw [<- HC.out]; exact hpre))
   clear hpre v0
   have f1 := v1.frozen
   have e1 := v1.cell
   have hll2 : (l.length : Int) <= 100000000 := by omega
   gi_wp2
   have y1 := v1.set (.int .i64 (l.length : Nat))
   have HBS2 := hid (hb.trans (BS.set (S := fun k => k = N \/ k = N + 1) W (N + 1) (.int .i64 (l.length : Nat)) (.inr rfl)))
   have hK' := (BS.set (S := fun k => k = N \/ k = N + 1) W (N + 1) (.int .i64 (l.length : Nat)) (.inr rfl)).others.same D _ hK rfl
   refine ⟨by simp, .inl ⟨_, _, rfl, run_takeDeferred hK', ?_⟩⟩
   have c4 := cell_kept y1.cell (grownBy_putObj' _ D (.deferred none)) (fun r e => by cases e; exact ⟨_, hK', rfl⟩)
   refine ⟨_, ?_, l.length, rfl, HPQ.out, ?_⟩
   ·simp [results, Tryz.f31, go_sem, c4]
   ·have hs3 := HS.out
    have hn := HN.out
    rw [<- hn]
    exact (HBw.out.trans (HBS2.out.lower N (fun k hk => by omega) (by omega))).trans (belowK_b (w := w) (by omega) _ D _ _ (by omega) hK' rfl rfl)
  case stop =>
   rintro D c pre W hD hp' ⟨rfl, pr, x, rfl, e2, e4⟩ hb hK
   gi_wp2
   refine ⟨by simp, .inl ⟨_, _, rfl, run_takeDeferred hK, ?_⟩⟩
   have c4 := cell_kept e4.cell (grownBy_putObj' _ D (.deferred none)) (fun r e => by cases e; exact ⟨_, hK, rfl⟩)
   refine ⟨_, ?_, x.v.1, rfl, ?_, ?_⟩
   ·simp [results, Tryz.f31, go_sem, c4]
   ·refine plq_pre l n (pr.map Pl.v) x.v ?_ (by rw [List.length_map]; exact e2)
    rw [<- HL.out]
    obtain ⟨R, hR⟩ := hp'
    exact ⟨R.map Pl.v, by rw [<- hR]; simp⟩
   ·have hs3 := HS.out
    have hn := HN.out
    rw [<- hn]
    exact (HBw.out.trans (hb.lower N (fun k hk => by omega) (by omega))).trans (belowK_b (w := w) (by omega) W D _ _ (by omega) hK rfl rfl)
theorem gplace_any (l : List UInt8) (n : Int) (w : World) (ht : TbW w) (hl : l.length <= 100000000) (hn : n <= 9223372036854775807) :
  Calls Tryz.prog 31 #[.string ⟨l.toArray⟩, .int .i64 n] w fun e W' => ∃ p : Nat, e = .returned (.int .i64 p) /\ PlQ l n p /\ Below w.heap.size w W' := callsIn_wide.1 (gplace_in l n w ht hl hn)
theorem ext_takeP (l : List UInt8) (p : Nat) : (⟨l.toArray⟩ : ByteArray).extract 0 p = ⟨(l.take p).toArray⟩ := by
 rw [ext_piece l 0 p (Nat.zero_le _), List.drop_zero]
set_option maxHeartbeats 1000000 in
theorem gcut_any (l : List UInt8) (n : Int) (w : World) (ht : TbW w) (hl : l.length <= 100000000) (hn : n <= 9223372036854775807) :
  Calls Tryz.prog 27 #[.string ⟨l.toArray⟩, .int .i64 n] w fun e W' => ∃ p : Nat, e = .returned (.tuple #[.string ⟨(l.take p).toArray⟩, .string ⟨(l.drop p).toArray⟩]) /\ PlQ l n p /\ Below w.heap.size w W' := by
 have HT := hid ht
 clear ht
 go_enter Tryz.func27, Tryz.ntmps27
 go_wp2_with fail
 refine (gplace_any l n w HT.out hl hn).mono ?_
 rintro e w1 ⟨p, rfl, hp, hb⟩
 have hpl := hp.le
 have HPQ := hid hp
 have HB := hid hb
 clear hp hb
 go_wp2_with fail
 go_quiet (fail)
 go_wp2
 rw [ext_takeP, ext_drop]
 go_ret2
 exact ⟨p, rfl, HPQ.out, Br.below_drN HB.out _⟩
end Go.Proofs.YtbajepdkgeldlaaGreatDoor.Wt
