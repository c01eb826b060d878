/- The contract of Count (package grapheme). -/
import Derived.Test.YtlfegdpclappiaaDoorGrLaw
import Derived.Test.YtlfegdpclappiaaDoorGrBndJoint
import Derived.Test.YtlfegdpclappiaaDoorWtFitJoint
namespace Go.Proofs.YtlfegdpclappiaaDoor
open Go.RowKit Go.Shelf
attribute [local go_sem] Oper.semAt_some

/-- How many letters a text has. -/
def gcnt (l : List UInt8) : Nat := (pcl gc (rl l)).length
theorem gp_cnt {l : List UInt8} {L : List (Pl l)} (h : L.map Pl.v = gpF l 0) : L.length = gcnt l := by
  have := congrArg List.length h
  rw [List.length_map] at this
  rw [this]
  unfold gpF gcnt
  rw [plc_len]; rfl
theorem gcnt_le (l : List UInt8) : gcnt l ≤ l.length := by
  obtain ⟨L, hL, hLl⟩ := gp_all l _ 0 (Nat.le_refl _)
  rw [← gp_cnt hL]
  omega
set_option maxHeartbeats 2000000 in
theorem gcount_in (l : List UInt8) (w : World) (ht : TbW w) (hl : l.length ≤ 100000000) :
    CallsIn Fence.wide 3 Tryd.prog 8 #[.string ⟨l.toArray⟩] w fun e W' => e = .returned (.int .i64 (gcnt l)) ∧ Below w.heap.size w W' := by
  have HT := hid ht
  clear ht
  obtain ⟨L, hL, hLl⟩ := gp_all l _ 0 (Nat.le_refl _)
  have HL := hid hL
  have HC := hid (gp_cnt hL)
  have hll : L.length ≤ 100000000 := by omega
  clear hL hLl
  refine callsIn_of_wp_marks Tryd.func8 rfl trivial ?_ rfl
  simp only [Tryd.ntmps8, List.size_toArray, List.length_cons, List.length_nil, Nat.reduceAdd, Nat.reduceSub, Array.replicate_succ, Array.replicate_zero, List.push_toArray, List.append_toArray, List.nil_append, List.cons_append]
  gi_wp2_with (refine ⟨trivial, ?_⟩; gi_at_call 23; refine (callsIn_wide.2 (geach_any l _)).mono ?_; rintro e w' ⟨rfl, rfl⟩)
  have bC := (Boxed.new w 3 (.int .i64 0)).alloc (.cells #[.string ⟨l.toArray⟩] 9)
  have bS := Boxed.new (w.alloc (.cells #[.int .i64 0] 3)) 9 (.string ⟨l.toArray⟩)
  rw [World.size_alloc] at bS
  have hB0 : Below w.heap.size w ((w.alloc (.cells #[.int .i64 0] 3)).alloc (.cells #[.string ⟨l.toArray⟩] 9)) := ((Below.refl _ _).alloc (Nat.le_refl _) _).alloc (by simp) _
  have hEa : WaAt (w.heap.size + 1) l ((w.alloc (.cells #[.int .i64 0] 3)).alloc (.cells #[.string ⟨l.toArray⟩] 9)) := ⟨bS, HT.out.below hB0⟩
  have h2 := HT.out.two
  refine rfE (w.heap.size + 1) (fun k => k = w.heap.size) L (by omega) rfl HL.out hEa (by omega) rfl (fun k hk => by rw [hk]; rintro (h | h) <;> omega)
    (fun pre W => Boxed W w.heap.size 3 (.int .i64 (pre.length : Nat))) (fun _ _ _ => False) (Own.from (boxed_own _ _ (fun pre : List (Pl l) => Value.int .i64 (pre.length : Nat))) _) (fun _ _ _ _ _ hs _ _ => hs) bC
    (fun x => { tmps := #[.string ⟨l.toArray⟩, undef, .int .i64 0, .pointer (some ⟨w.heap.size, 0, none⟩), .string ⟨l.toArray⟩, .func (.func 51) #[] #[.pointer (some ⟨w.heap.size + 1, 0, none⟩)], .int .i64 (x.v.1 : Nat), .int .i64 (x.v.2 : Nat), undef, undef, undef], defers := [] }) ?assign ?body ?done ?stop
  case assign =>
    intro lp x W K hK
    dsimp only [encP]
    gi_wp2
    simpa using hK
  case body =>
    intro lp pre x W hv hb he hlt
    have hc := hv.cell
    have hf := hv.frozen
    gi_wp2
    refine ⟨BS.set W _ _ rfl, ?_⟩
    have := hv.set (.int .i64 ((pre.length : Int) + 1))
    show Boxed _ _ _ _
    rw [List.length_append]
    exact this
  case done =>
    intro D W hD hv hb hK
    have hc := hv.cell
    gi_wp2
    refine ⟨by simp, .inl ⟨_, _, rfl, run_takeDeferred hK, ?_⟩⟩
    refine ⟨_, results_tmp rfl _ _ _, by rw [← HC.out]; rfl, ?_⟩
    exact (hB0.trans (hb.lower w.heap.size (fun k hk => by omega) (by simp; omega))).trans (belowK_b (w := w) (Nat.le_refl _) W D _ _ (by simp at hD; omega) hK rfl rfl)
  case stop =>
    rintro D c pre W _ _ h _
    exact h.elim
theorem gcount_any (l : List UInt8) (w : World) (ht : TbW w) (hl : l.length ≤ 100000000) :
    Calls Tryd.prog 8 #[.string ⟨l.toArray⟩] w fun e W' => e = .returned (.int .i64 (gcnt l)) ∧ Below w.heap.size w W' := callsIn_wide.1 (gcount_in l w ht hl)
end Go.Proofs.YtlfegdpclappiaaDoor
/- The contracts of Place and Cut (package grapheme). -/
namespace Go.Proofs.YtlfegdpclappiaaDoor
open Go.RowKit Go.Shelf
attribute [local go_sem] Oper.semAt_some

/-- What Place tells: whole letters, as many as were asked where the text has them. -/
def PlQ (l : List UInt8) (n : Int) (p : Nat) : Prop :=
  ∃ P Q, pcl gc (rl l) = P ++ Q ∧ p = psm P.flatten ∧ (0 ≤ n → n ≤ gcnt l → (P.length : Int) = n)
theorem plq_pre (l : List UInt8) (n : Int) (xs : List (Nat × Nat)) (x : Nat × Nat) (h : xs ++ [x] <+: gpF l 0) (hn : (xs.length : Int) = n) : PlQ l n x.1 := by
  rw [gpF_0] at h
  obtain ⟨P, Q, h1, h2⟩ := plc_pre _ _ _ h
  have e := congrArg List.length h2
  rw [plc_len, List.length_append] at e
  have hP : P ≠ [] := fun e0 => by rw [e0] at e; simp at e
  obtain ⟨P0, y, rfl⟩ : ∃ P0 y, P = P0 ++ [y] := ⟨P.dropLast, P.getLast hP, (List.dropLast_concat_getLast hP).symm⟩
  rw [plc_app] at h2
  obtain ⟨h3, h4⟩ := List.append_inj' h2 rfl
  have h5 : x = (0 + psm P0.flatten, 0 + psm P0.flatten + psm y) := by simpa [plc] using h4
  refine ⟨P0, [y] ++ Q, by rw [h1, List.append_assoc], by rw [h5]; simp, fun _ _ => ?_⟩
  rw [← hn, h3, plc_len]
theorem plq_all (l : List UInt8) (n : Int) (hn : (gcnt l : Int) ≤ n) : PlQ l n l.length := by
  refine ⟨pcl gc (rl l), [], by rw [List.append_nil], ?_, fun _ h => ?_⟩
  · rw [pcl_all gc _ _ (Nat.le_refl _)]
    exact (rl_sum _ l (Nat.le_refl _)).symm
  · show (gcnt l : Int) = n
    omega
theorem plq_neg (l : List UInt8) (n : Int) (hn : n < 0) : PlQ l n 0 := ⟨[], _, rfl, rfl, fun h => by omega⟩
set_option maxHeartbeats 4000000 in
set_option maxRecDepth 100000 in
theorem gplace_in (l : List UInt8) (n : Int) (w : World) (ht : TbW w) (hl : l.length ≤ 100000000) (hn : n ≤ 9223372036854775807) :
    CallsIn Fence.wide 3 Tryd.prog 38 #[.string ⟨l.toArray⟩, .int .i64 n] w fun e W' => ∃ p : Nat, e = .returned (.int .i64 p) ∧ PlQ l n p ∧ Below w.heap.size w W' := by
  have HT := hid ht
  clear ht
  obtain ⟨L, hL, hLl⟩ := gp_all l _ 0 (Nat.le_refl _)
  have HL := hid hL
  have HC := hid (gp_cnt hL)
  have hll : L.length ≤ 100000000 := by omega
  clear hL hLl
  refine callsIn_of_wp_marks Tryd.func38 rfl trivial ?_ rfl
  simp only [Tryd.ntmps38, List.size_toArray, List.length_cons, List.length_nil, Nat.reduceAdd, Nat.reduceSub, Array.replicate_succ, Array.replicate_zero, List.push_toArray, List.append_toArray, List.nil_append, List.cons_append]
  by_cases hneg : n < 0
  · gi_wp2
    have c1 := (Boxed.new (w.alloc (.cells #[.int .i64 n] 3)) 3 (.int .i64 0)).cell
    rw [World.size_alloc] at c1
    have hB : Below w.heap.size w ((w.alloc (.cells #[.int .i64 n] 3)).alloc (.cells #[.int .i64 0] 3)) := ((Below.refl _ _).alloc (Nat.le_refl _) _).alloc (by simp) _
    refine ⟨_, ?_, 0, rfl, plq_neg l n hneg, hB⟩
    simp [results, Tryd.f38, go_sem, c1]
  · have h0 : 0 ≤ n := by omega
    clear hneg
    gi_wp2_with (refine ⟨trivial, ?_⟩; gi_at_call 23; refine (callsIn_wide.2 (geach_any l _)).mono ?_; rintro e w' ⟨rfl, rfl⟩)
    obtain ⟨N, hN⟩ : ∃ N, N = w.heap.size := ⟨_, rfl⟩
    have b0 := ((Boxed.new w 3 (.int .i64 n)).alloc (.cells #[.int .i64 0] 3)).alloc (.cells #[.string ⟨l.toArray⟩] 9)
    have b1 := (Boxed.new (w.alloc (.cells #[.int .i64 n] 3)) 3 (.int .i64 0)).alloc (.cells #[.string ⟨l.toArray⟩] 9)
    have b2 := Boxed.new ((w.alloc (.cells #[.int .i64 n] 3)).alloc (.cells #[.int .i64 0] 3)) 9 (.string ⟨l.toArray⟩)
    have hB : Below w.heap.size w (((w.alloc (.cells #[.int .i64 n] 3)).alloc (.cells #[.int .i64 0] 3)).alloc (.cells #[.string ⟨l.toArray⟩] 9)) := (((Below.refl _ _).alloc (Nat.le_refl _) _).alloc (by simp) _).alloc (by simp; omega) _
    have hsz : (((w.alloc (.cells #[.int .i64 n] 3)).alloc (.cells #[.int .i64 0] 3)).alloc (.cells #[.string ⟨l.toArray⟩] 9)).heap.size = w.heap.size + 3 := by simp
    simp only [World.size_alloc] at b1 b2
    have HTw := hid (HT.out.below hB)
    obtain ⟨W0, hW0⟩ : ∃ W0, W0 = ((w.alloc (.cells #[.int .i64 n] 3)).alloc (.cells #[.int .i64 0] 3)).alloc (.cells #[.string ⟨l.toArray⟩] 9) := ⟨_, rfl⟩
    rw [← hW0] at b0 b1 b2 hB hsz HTw ⊢
    rw [← hN] at b0 b1 b2 hB hsz ⊢
    have h2 : 2 ≤ N := by rw [hN]; exact HT.out.two
    have HN := hid hN
    have HBw := hid hB
    have HS := hid hsz
    have HEa := hid (show WaAt (N + 1 + 1) l W0 from ⟨b2, HTw.out⟩)
    clear hN hB hsz hW0 HTw
    have HI0 := hid (And.intro b0 b1)
    clear b0 b1 b2
    refine rfF (N + 1 + 1) (fun k => k = N ∨ k = N + 1) L (by omega) rfl HL.out HEa.out (by omega) rfl (fun k hk => by rintro (h | h) <;> omega)
      (fun pre W => (Boxed W N 3 (.int .i64 (n - (pre.length : Nat))) ∧ Boxed W (N + 1) 3 (.int .i64 0)) ∧ (pre.length : Int) ≤ n)
      (fun c pre W => c = .ret ∧ ∃ (pr : List (Pl l)) (x : Pl l), pre = pr ++ [x] ∧ (pr.length : Int) = n ∧ Boxed W (N + 1) 3 (.int .i64 (x.v.1 : Nat)))
      (OwnFrom.and (OwnFrom.and (Own.from (boxed_own _ _ (fun pre : List (Pl l) => Value.int .i64 (n - (pre.length : Nat)))) _) (Own.from (boxed_own _ _ _) _)) (ownFrom_pure _ _))
      (fun c _ A C row hs hg hr => by
        obtain ⟨e, pr, x, e1, e2, e3⟩ := hs
        exact ⟨e, pr, x, e1, e2, boxed_keep e3 hg hr⟩)
      ⟨⟨by simpa using HI0.out.1, HI0.out.2⟩, by simpa using h0⟩ 5 11 ?assign ?body ?done ?stop
    case assign =>
      intro lp x W K hK
      dsimp only [encP]
      gi_wp2
      simpa [fr, encP] using hK
    case body =>
      rintro lp pre x W ⟨⟨v0, v1⟩, hpre⟩ hb he hlt
      have hx1 := x.lt
      have hx2 := x.le
      obtain ⟨f, hf⟩ : ∃ f, f = x.v.1 := ⟨_, rfl⟩
      have HF := hid hf
      dsimp only [fr, encP]
      rw [← hf] at hx1 ⊢
      clear hf
      have HP : Hid ((pre ++ [x]).length = pre.length + 1) := hid (by simp)
      obtain ⟨k, hk⟩ : ∃ k, k = pre.length := ⟨_, rfl⟩
      have HK := hid hk
      rw [← hk] at v0 hpre hlt HP
      clear hk
      obtain ⟨m, hm⟩ : ∃ m, m = n - (k : Int) := ⟨_, rfl⟩
      rw [← hm] at v0
      have hm0 : 0 ≤ m := by omega
      have hm1 : m ≤ 9223372036854775807 := by omega
      have HM := hid hm
      have c0 := v0.cell
      have HV := hid (And.intro v0 v1)
      clear hm hpre
      by_cases hz : m = 0
      · subst hz
        have f1 := v1.frozen
        have e1 := v1.cell
        clear v0 v1
        gi_wp2
        refine ⟨BS.set W _ _ (.inr rfl), rfl, pre, x, rfl, ?_, ?_⟩
        · have := HM.out
          have := HK.out
          omega
        · rw [← HF.out]
          exact HV.out.2.set _
      · have f1 := v0.frozen
        clear v0 v1
        gi_wp2
        refine ⟨BS.set W _ _ (.inl rfl), ⟨?_, HV.out.2.other (B' := N) (by omega) _⟩, ?_⟩
        · have e : m - 1 = n - ((pre ++ [x]).length : Nat) := by rw [HP.out]; have := HM.out; omega
          rw [← e]
          exact HV.out.1.set _
        · rw [HP.out]
          have := HM.out
          omega
    case done =>
      rintro D W hD ⟨⟨v0, v1⟩, hpre⟩ hb hK
      have HPQ := hid (plq_all l n (by rw [← HC.out]; exact hpre))
      clear hpre v0
      have f1 := v1.frozen
      have e1 := v1.cell
      have hll2 : (l.length : Int) ≤ 100000000 := by omega
      gi_wp2
      have y1 := v1.set (.int .i64 (l.length : Nat))
      have HBS2 := hid (hb.trans (BS.set (S := fun k => k = N ∨ k = N + 1) W (N + 1) (.int .i64 (l.length : Nat)) (.inr rfl)))
      have hK' := (BS.set (S := fun k => k = N ∨ k = N + 1) W (N + 1) (.int .i64 (l.length : Nat)) (.inr rfl)).others.same D _ hK rfl
      refine ⟨by simp, .inl ⟨_, _, rfl, run_takeDeferred hK', ?_⟩⟩
      have c4 := cell_kept y1.cell (grownBy_putObj' _ D (.deferred none)) (fun r e => by cases e; exact ⟨_, hK', rfl⟩)
      refine ⟨_, ?_, l.length, rfl, HPQ.out, ?_⟩
      · simp [results, Tryd.f38, go_sem, c4]
      · have hs3 := HS.out
        have hn := HN.out
        rw [← hn]
        exact (HBw.out.trans (HBS2.out.lower N (fun k hk => by omega) (by omega))).trans (belowK_b (w := w) (by omega) _ D _ _ (by omega) hK' rfl rfl)
    case stop =>
      rintro D c pre W hD hp' ⟨rfl, pr, x, rfl, e2, e4⟩ hb hK
      gi_wp2
      refine ⟨by simp, .inl ⟨_, _, rfl, run_takeDeferred hK, ?_⟩⟩
      have c4 := cell_kept e4.cell (grownBy_putObj' _ D (.deferred none)) (fun r e => by cases e; exact ⟨_, hK, rfl⟩)
      refine ⟨_, ?_, x.v.1, rfl, ?_, ?_⟩
      · simp [results, Tryd.f38, go_sem, c4]
      · refine plq_pre l n (pr.map Pl.v) x.v ?_ (by rw [List.length_map]; exact e2)
        rw [← HL.out]
        obtain ⟨R, hR⟩ := hp'
        exact ⟨R.map Pl.v, by rw [← hR]; simp⟩
      · have hs3 := HS.out
        have hn := HN.out
        rw [← hn]
        exact (HBw.out.trans (hb.lower N (fun k hk => by omega) (by omega))).trans (belowK_b (w := w) (by omega) W D _ _ (by omega) hK rfl rfl)
theorem gplace_any (l : List UInt8) (n : Int) (w : World) (ht : TbW w) (hl : l.length ≤ 100000000) (hn : n ≤ 9223372036854775807) :
    Calls Tryd.prog 38 #[.string ⟨l.toArray⟩, .int .i64 n] w fun e W' => ∃ p : Nat, e = .returned (.int .i64 p) ∧ PlQ l n p ∧ Below w.heap.size w W' := callsIn_wide.1 (gplace_in l n w ht hl hn)
theorem PlQ.le {l : List UInt8} {n : Int} {p : Nat} (h : PlQ l n p) : p ≤ l.length := by
  obtain ⟨P, Q, h1, h2, _⟩ := h
  have h3 := pcl_all gc _ (rl l) (Nat.le_refl _)
  rw [h1, List.flatten_append] at h3
  have h4 := rl_sum _ l (Nat.le_refl _)
  rw [← h3, psm_app] at h4
  omega
theorem ext_takeP (l : List UInt8) (p : Nat) : (⟨l.toArray⟩ : ByteArray).extract 0 p = ⟨(l.take p).toArray⟩ := by
  rw [ext_piece l 0 p (Nat.zero_le _), List.drop_zero]
set_option maxHeartbeats 1000000 in
theorem gcut_any (l : List UInt8) (n : Int) (w : World) (ht : TbW w) (hl : l.length ≤ 100000000) (hn : n ≤ 9223372036854775807) :
    Calls Tryd.prog 13 #[.string ⟨l.toArray⟩, .int .i64 n] w fun e W' => ∃ p : Nat, e = .returned (.tuple #[.string ⟨(l.take p).toArray⟩, .string ⟨(l.drop p).toArray⟩]) ∧ PlQ l n p ∧ Below w.heap.size w W' := by
  have HT := hid ht
  clear ht
  go_enter Tryd.func13, Tryd.ntmps13
  go_wp2_with fail
  refine (gplace_any l n w HT.out hl hn).mono ?_
  rintro e w1 ⟨p, rfl, hp, hb⟩
  have hpl := hp.le
  have HPQ := hid hp
  have HB := hid hb
  clear hp hb
  go_wp2_with fail
  go_quiet (fail)
  go_wp2
  rw [ext_takeP, ext_drop]
  go_ret2
  exact ⟨p, rfl, HPQ.out, below_drN HB.out _⟩
end Go.Proofs.YtlfegdpclappiaaDoor
