/- The contract of newScale (package places) at short texts. -/
import Derived.Laws.EntriesVeiled
import Derived.Test.YtffbdnlfknomnaaDoorPcRch0Joint
import Derived.Test.YtffbdnlfknomnaaDoorGrAroJoint
namespace Go.Proofs.YtffbdnlfknomnaaDoor.Wt
open Go.RowKit Go.Shelf
attribute [local go_sem] Oper.semAt_some

theorem Tryd.info104 : (Tryd.prog.info? 104).map (fun i => (i.zero, i.size, i.bytes)) = some (some (.agg #[.int .i64 0, .int .i64 0]), 2, 16) := by kernel_rfl
theorem rise_len : ∀ {B : List Nat} {n : Nat}, B.Pairwise (· < ·) → (∀ p ∈ B, p < n) → B.length ≤ n
  | [], n, _, _ => Nat.zero_le _
  | p :: B, n, h, hn => by
    obtain ⟨h1, h2⟩ := List.pairwise_cons.1 h
    have e : (B.map (· - (p + 1))).Pairwise (· < ·) := by
      rw [List.pairwise_map]
      exact h2.imp_of_mem fun {a b} ha hb hab => by
        have := h1 a ha
        have := h1 b hb
        omega
    have h3 := rise_len (n := n - (p + 1)) e (fun q hq => by
      obtain ⟨z, hz, rfl⟩ := List.mem_map.1 hq
      have := h1 z hz
      have := hn z (List.mem_cons_of_mem _ hz)
      omega)
    rw [List.length_map] at h3
    have := hn p (List.mem_cons_self ..)
    rw [List.length_cons]
    omega
  termination_by B => B.length
theorem spot_new (w : World) (a b : Value) (t : Nat) : ∀ j u, [a, b][j]? = some u → (w.alloc (.cells #[a, b] t)).cell? ((⟨w.heap.size, 0, none⟩ : Addr).add j) = some u := fun j u h => by
  rw [Addr.add_lit, Nat.zero_add, (Cb.new w #[a, b] t).cell j]
  simpa using h
/-- What next is. -/
def nxt (o : Option (Nat × Nat)) : Nat := match o with
  | none => 0
  | some y => y.2 + 128
set_option maxHeartbeats 4000000 in
set_option maxRecDepth 100000 in
theorem newScale_in (m g : Nat) (E : List UInt8 → List Nat) (C : Cnt m g E) (l : List UInt8) (w : World) (ht : TbW w) (hl : l.length ≤ 100) :
    CallsIn Fence.wide 9 Tryd.prog 33 #[.string ⟨l.toArray⟩, .func (.func m) #[] #[]] w fun e W' => ∃ kv, e = .returned (.agg #[.string ⟨l.toArray⟩, .func (.func m) #[] #[], .int .i64 (E l).length, kv]) ∧ Kpd W' w.heap.size kv (kpt l 0 (E l)) ∧ Below w.heap.size w W' := by
  have HT := hid ht
  have h2 := ht.two
  have HC := hid C
  obtain ⟨L, hL⟩ := pn_all l (E l) (C.scl.lt l)
  have HL := hid hL
  have HLEN := hid (show L.length ≤ l.length by
    have h1 := rise_len (C.scl.rise l) (C.scl.lt l)
    rw [← hL, List.length_map] at h1
    exact h1)
  have em := C.em
  clear ht C hL
  refine callsIn_of_wp_marks Tryd.func33 rfl trivial ?_ rfl
  simp only [Tryd.ntmps33, List.size_toArray, List.length_cons, List.length_nil, Nat.reduceAdd, Nat.reduceSub, Array.replicate_succ, Array.replicate_zero, List.push_toArray, List.append_toArray, List.nil_append, List.cons_append]
  gi_wp2_with fail
  refine ⟨trivial, (callsIn_wide.2 (HC.out.made l _)).mono ?_⟩
  rintro e w' ⟨rfl, rfl⟩
  have HE : ∃ w4, w4 = ((((w.alloc (.cells #[.string ⟨l.toArray⟩] 9)).alloc (.cells #[.string ⟨#[]⟩, .nilFunc, .int .i64 0, .slice none 0 0] 75)).alloc (.cells #[.string ⟨l.toArray⟩, .func (.func m) #[] #[], .int .i64 0, .slice none 0 0] 75)).alloc (.cells #[.int .i64 0] 3)) := ⟨_, rfl⟩
  obtain ⟨w4, hw4⟩ := HE
  have hs4 : w4.heap.size = w.heap.size + 4 := by rw [hw4]; simp
  have b0 : Cb w4 w.heap.size #[.string ⟨l.toArray⟩] 9 := by rw [hw4]; exact (((Cb.new w _ _).alloc _).alloc _).alloc _
  have b1 : Cb w4 (w.heap.size + 1) #[.string ⟨#[]⟩, .nilFunc, .int .i64 0, .slice none 0 0] 75 := by
    have := ((Cb.new (w.alloc (.cells #[.string ⟨l.toArray⟩] 9)) #[.string ⟨#[]⟩, .nilFunc, .int .i64 0, .slice none 0 0] 75).alloc (.cells #[.string ⟨l.toArray⟩, .func (.func m) #[] #[], .int .i64 0, .slice none 0 0] 75)).alloc (.cells #[.int .i64 0] 3)
    rw [World.size_alloc] at this
    rw [hw4]; exact this
  have b2 : Cb w4 (w.heap.size + 1 + 1) #[.string ⟨l.toArray⟩, .func (.func m) #[] #[], .int .i64 0, .slice none 0 0] 75 := by
    have := (Cb.new ((w.alloc (.cells #[.string ⟨l.toArray⟩] 9)).alloc (.cells #[.string ⟨#[]⟩, .nilFunc, .int .i64 0, .slice none 0 0] 75)) #[.string ⟨l.toArray⟩, .func (.func m) #[] #[], .int .i64 0, .slice none 0 0] 75).alloc (.cells #[.int .i64 0] 3)
    rw [World.size_alloc, World.size_alloc] at this
    rw [hw4]; exact this
  have b3 : Cb w4 (w.heap.size + 1 + 1 + 1) #[.int .i64 0] 3 := by
    have := Cb.new (((w.alloc (.cells #[.string ⟨l.toArray⟩] 9)).alloc (.cells #[.string ⟨#[]⟩, .nilFunc, .int .i64 0, .slice none 0 0] 75)).alloc (.cells #[.string ⟨l.toArray⟩, .func (.func m) #[] #[], .int .i64 0, .slice none 0 0] 75)) #[.int .i64 0] 3
    rw [World.size_alloc, World.size_alloc, World.size_alloc] at this
    rw [hw4]; exact this
  have hB4 : Below w.heap.size w w4 := by rw [hw4]; exact ((((Below.refl _ _).alloc (Nat.le_refl _) _).alloc (by simp) _).alloc (by simp; omega) _).alloc (by simp; omega) _
  rw [← hw4]
  clear hw4
  have b4 := Boxed.new w4 9 (.string ⟨l.toArray⟩)
  have hB5 : Below w4.heap.size w4 (w4.alloc (.cells #[.string ⟨l.toArray⟩] 9)) := (Below.refl _ _).alloc (Nat.le_refl _) _
  obtain ⟨w5, hw5⟩ : ∃ w5, w5 = w4.alloc (.cells #[.string ⟨l.toArray⟩] 9) := ⟨_, rfl⟩
  have hs5 : w5.heap.size = w.heap.size + 5 := by rw [hw5]; simp; omega
  rw [hs4] at b4 ⊢
  rw [← hw5] at b4 hB5 ⊢
  clear hw5
  obtain ⟨N, hN⟩ : ∃ N, N = w.heap.size := ⟨_, rfl⟩
  have HE5 := hid (show WaAt (N + 4) l w5 from ⟨by rw [hN]; exact b4, (HT.out.below hB4).below hB5⟩)
  have HBW := hid (show Below N w w5 from (by rw [hN]; exact hB4.trans (hB5.mono (by omega))))
  have HB0 := hid (b0.below hB5)
  have HB1 := hid (b1.below hB5)
  have HB2 := hid (b2.below hB5)
  have HB3 := hid (b3.below hB5)
  rw [← hN] at hs5 HB0 HB1 HB2 HB3 h2 ⊢
  have HN := hid hN
  clear b0 b1 b2 b3 b4 hB4 hB5 hs4 hN em
  obtain ⟨i0, hi0, hz0, hz1, hz2⟩ := info_parts Tryd.info104
  have HI0 := hid (And.intro hi0 (And.intro hz0 (And.intro hz1 hz2)))
  clear hi0 hz0 hz1 hz2
  gi_wp2
  refine rangeO rfl (by omega) rfl trivial HC.out.eg (HC.out.seq (9 - 1) (N + 4) l L w5 (by omega) HL.out HE5.out (by omega)) Kt_t (Kt_b (by omega)) (Below.refl _ _) (fun _ => rfl)
    (fun pre V => (Cb V N #[.string ⟨l.toArray⟩] 9 ∧ Cb V (N + 1) #[.string ⟨#[]⟩, .nilFunc, .int .i64 0, .slice none 0 0] 75 ∧ Cb V (N + 1 + 1 + 1) #[.int .i64 (nxt (kpt l 0 (pre.map Pn.v)) : Nat)] 3 ∧ Below N w V ∧ N + 5 ≤ V.heap.size ∧ TbW V) ∧ ∃ kv, Cb V (N + 1 + 1) #[.string ⟨l.toArray⟩, .func (.func m) #[] #[], .int .i64 (pre.length : Nat), kv] 75 ∧ Kpd V (N + 5) kv (kpt l 0 (pre.map Pn.v)))
    (fun _ _ _ => False) ?own (fun _ _ _ _ _ h _ _ => h)
    ⟨⟨HB0.out, HB1.out, HB3.out, HBW.out, by omega, HE5.out.tb⟩, _, HB2.out, rfl⟩
    (fun x a' _ => a' = { tmps := #[.string ⟨l.toArray⟩, .func (.func m) #[] #[], .pointer (some ⟨N, 0, none⟩), undef, .pointer (some ⟨N + 1, 0, none⟩), .pointer (some ⟨N + 1 + 1, 0, none⟩), .pointer (some ⟨N + 1 + 1 + 1, 0, none⟩), .int .i64 (x.v : Nat), .string ⟨l.toArray⟩, .func (.func m) #[] #[], .agg #[.string ⟨l.toArray⟩, .func (.func m) #[] #[], .int .i64 0, .slice none 0 0], .func (.func m) #[] #[], .string ⟨l.toArray⟩, .func (.func g) #[] #[.pointer (some ⟨N + 4, 0, none⟩)], .int .i64 (x.v : Nat), undef, undef, undef, undef, undef, undef, undef, undef, undef, undef, undef, undef, undef, undef, undef, undef, undef, undef, undef, undef, undef, undef, undef, undef], defers := [] })
    (fun _ _ _ _ _ _ h _ _ => h) ?assign ?body ?done ?stop
  case own =>
    rintro pre A C row ⟨⟨k0, k1, k3, kb, ks, kt⟩, kv, k2, kk⟩ hg hr
    refine ⟨⟨cb_keep k0 hg hr, cb_keep k1 hg hr, cb_keep k3 hg hr, ?_, Nat.le_trans ks hg.size, ?_⟩, kv, cb_keep k2 hg hr, kpd_keep kk hg hr⟩
    · refine kb.trans ⟨hg.os, hg.tape, hg.output, hg.size, fun k hk => hg.block k (by omega) fun e => ?_⟩
      have := (hr k e.symm).1
      omega
    · refine ⟨⟨fun c hc => cell_kept (kt.tabs.1 c hc) hg (fun r e => (hr r e).2), fun i hi => ⟨cell_kept (kt.tabs.2 i hi).1 hg (fun r e => (hr r e).2), cell_kept (kt.tabs.2 i hi).2 hg (fun r e => (hr r e).2)⟩⟩, by have := hg.size; omega⟩
  case assign =>
    intro lp2 pre x V K hI hK
    dsimp only [encN]
    gi_wp2
    exact hK _ _ (KeepsFrom.refl _ _) (Kt.refl _) hI rfl
  case body =>
    rintro lp2 pre x a' V hlp _ ⟨⟨k0, k1, k3, kb, ks, htb⟩, kv, k2, kk⟩ rfl hlt
    obtain ⟨p, hp⟩ : ∃ p, p = x.v := ⟨_, rfl⟩
    have hpl := x.lt
    have hlen : pre.length < 100 := by
      have h1 : L.length ≤ l.length := HLEN.out
      omega
    have HSN := hid (kpt_snoc l (pre.map Pn.v) 0 x.v)
    have HMP := hid (show (pre ++ [x]).map Pn.v = pre.map Pn.v ++ [x.v] by simp)
    rw [List.length_map, Nat.zero_add] at HSN
    rw [← hp] at hpl HSN HMP ⊢
    have c0 := k0.cell 0
    have c3 := k3.cell 0
    have s2 := k2.cell 2
    have s3 := k2.cell 3
    have f2 := k2.frozen 2
    have f3 := k2.frozen 3
    have g3 := k3.frozen 0
    simp only [List.getElem?_toArray, List.getElem?_cons_zero, List.getElem?_cons_succ] at c0 c3 s2 s3
    have HK0 := hid k0
    have HK1 := hid k1
    have HK2 := hid k2
    have HK3 := hid k3
    have HKB := hid kb
    have HKK := hid kk
    have HTB := hid htb
    have hp0 : (0 : Int) ≤ (p : Int) := by omega
    have HF : ∀ (V' : World) (kv' : Value) (o' : Option (Nat × Nat)), Bd N V V' → o' = kpt l 0 ((pre ++ [x]).map Pn.v) → Cb V' (N + 1 + 1 + 1) #[.int .i64 (nxt o' : Nat)] 3 → Cb V' (N + 1 + 1) #[.string ⟨l.toArray⟩, .func (.func m) #[] #[], .int .i64 ((pre.length : Int) + 1), kv'] 75 → Cb V' N #[.string ⟨l.toArray⟩] 9 → Cb V' (N + 1) #[.string ⟨#[]⟩, .nilFunc, .int .i64 0, .slice none 0 0] 75 → Kpd V' (N + 5) kv' o' →
        ownPostG w5.heap.size Kt (fun pre V => (Cb V N #[.string ⟨l.toArray⟩] 9 ∧ Cb V (N + 1) #[.string ⟨#[]⟩, .nilFunc, .int .i64 0, .slice none 0 0] 75 ∧ Cb V (N + 1 + 1 + 1) #[.int .i64 (nxt (kpt l 0 (pre.map Pn.v)) : Nat)] 3 ∧ Below N w V ∧ N + 5 ≤ V.heap.size ∧ TbW V) ∧ ∃ kv, Cb V (N + 1 + 1) #[.string ⟨l.toArray⟩, .func (.func m) #[] #[], .int .i64 (pre.length : Nat), kv] 75 ∧ Kpd V (N + 5) kv (kpt l 0 (pre.map Pn.v))) (fun _ _ _ => False) (pre ++ [x]) V .normal { tmps := #[], defers := [] } V' := by
      intro V' kv' o' hbd ho q3 q2 q0 q1 qk
      subst ho
      exact ⟨hbd.others.from _, hbd.kt, ⟨q0, q1, q3, HKB.out.trans hbd.low, by have := hbd.low.size; omega, HTB.out.kt hbd.kt⟩, kv', by rw [List.length_append]; exact q2, qk⟩
    have HFF := hid HF
    have hle1 : (pre.length : Int) + 1 < 1000 := by omega
    clear k0 k1 k2 k3 kb kk htb HF hp
    cases hko : kpt l 0 (pre.map Pn.v) with
    | some y =>
      rw [hko] at c3 HSN HK3 HKK
      have hy : (y.2 : Int) + 128 > (p : Int) := by omega
      have hny : ¬ (y.2 : Int) + 128 ≤ (p : Int) := by omega
      have hc3 : V.cell? ⟨N + 1 + 1 + 1, 0, none⟩ = some (.int .i64 ((y.2 : Int) + 128)) := by rw [c3]; simp [nxt]
      clear c3 hy
      gi_wp2_with fail
      refine ⟨trivial, ?_⟩
      gi_wp2
      refine HFF.out _ kv (some y) (Bd.set HK2.out rfl h2 (by omega) 2 _) (by rw [HMP.out, HSN.out]) (HK3.out.other (by omega) 2 _) (HK2.out.set 2 _) (HK0.out.other (by omega) 2 _) (HK1.out.other (by omega) 2 _) (HKK.out.other (by omega) 2 _)
    | none =>
      rw [hko] at c3 HSN HK3 HKK
      have hc3 : V.cell? ⟨N + 1 + 1 + 1, 0, none⟩ = some (.int .i64 0) := by rw [c3]; simp [nxt]
      clear c3
      have hkv : kv = .slice none 0 0 := HKK.out
      subst hkv
      gi_wp2_with fail
      refine ⟨trivial, (CallsIn.inRound lp2 (callsIn_wide.2 (is_any l p V (by omega) HTB.out.tabs HTB.out.two))).mono ?_⟩
      rintro e V1 ⟨rfl, be⟩
      have HBE := hid be
      have HBD := hid (Bd.below (N := N) be (by omega) (by omega))
      have q0 := HK0.out.below be
      have q1 := HK1.out.below be
      have q2 := HK2.out.below be
      have q3 := HK3.out.below be
      have c2' := q2.cell 2
      have c3' := q2.cell 3
      have f2' := q2.frozen 2
      have f3' := q2.frozen 3
      have hs1 := be.size
      simp only [List.getElem?_toArray, List.getElem?_cons_zero, List.getElem?_cons_succ] at c2' c3'
      have HQ0 := hid q0
      have HQ1 := hid q1
      have HQ2 := hid q2
      have HQ3 := hid q3
      clear be q0 q1 q2 q3 c0 hc3 s2 s3 f2 f3 g3
      cases hE : isE l p with
      | false =>
        rw [hE] at HSN
        clear hE
        gi_wp2
        exact HFF.out _ (.slice none 0 0) none (HBD.out.trans (Bd.set HQ2.out rfl h2 (by omega) 2 _)) (by rw [HMP.out, HSN.out]; rfl) (HQ3.out.other (by omega) 2 _) (HQ2.out.set 2 _) (HQ0.out.other (by omega) 2 _) (HQ1.out.other (by omega) 2 _) rfl
      | true =>
        rw [hE] at HSN
        clear hE
        gi_wp2_with (gi_at_builtin; refine wpListIn_append_own _ rfl _ _ 73 rfl (N + 5) 104 i0 (.agg #[.int .i64 0, .int .i64 0]) 2 16 Tryd.underlying73 HI0.out.1 HI0.out.2.1 HI0.out.2.2.1 HI0.out.2.2.2 rfl (by decide) (.slice none 0 0) 0 [] rfl (World.ownsRow_nil _ _ _ _) ⟨V1.heap.size, 0, none⟩ 1 1 [.int .i64 (pre.length : Nat), .int .i64 (p : Nat)] rfl rfl (spot_new _ _ _ _) (by simp [Value.oneCell']) (by unfold maxLen; omega) (by omega) (by simp; omega) ?_; intro v' w6 hown' hgrow _; obtain ⟨g', cap', rfl⟩ := ownsRow_succ hown'; have r2 := (HQ2.out.alloc (.cells #[.int .i64 (pre.length : Nat), .int .i64 (p : Nat)] 104)).kept hgrow (by simp [Value.ownBlock]); have r3 := (HQ3.out.alloc (.cells #[.int .i64 (pre.length : Nat), .int .i64 (p : Nat)] 104)).kept hgrow (by simp [Value.ownBlock]); have t2 := r2.cell 2; have t3 := r2.cell 3; have u2 := r2.frozen 2; have u3 := r2.frozen 3; have t0 := r3.cell 0; have u0 := r3.frozen 0; simp only [List.getElem?_toArray, List.getElem?_cons_zero, List.getElem?_cons_succ] at t2 t3 t0)
        have hgb : Below V1.heap.size V1 w6 := ((Below.refl _ _).alloc (Nat.le_refl _) (.cells #[.int .i64 (pre.length : Nat), .int .i64 (p : Nat)] 104)).trans ⟨hgrow.os, hgrow.tape, hgrow.output, hgrow.size, fun k hk => hgrow.block k (by simp; omega) (by simp [Value.ownBlock])⟩
        have r0 := HQ0.out.below hgb
        have r1 := HQ1.out.below hgb
        have hk6 : Kpd w6 (N + 5) (.slice (some ⟨g', 0, none⟩) 1 cap') (some (pre.length, p)) := by
          obtain ⟨l1, l2⟩ := hown'.lt g' rfl
          exact ⟨g', cap', rfl, l1, l2, by rw [hown'.cellAt 0 (by omega)]; rfl, by rw [hown'.cellAt 1 (by omega)]; rfl⟩
        have bd6 := HBD.out.trans (Bd.below (N := N) hgb (by omega) (by omega))
        have y2 := (r2.set 3 (.slice (some ⟨g', 0, none⟩) 1 cap')).other (B' := N + 1 + 1 + 1) (by omega) 0 (.int .i64 ((p : Int) + 128))
        have y3 := (r3.other (B' := N + 1 + 1) (by omega) 3 (.slice (some ⟨g', 0, none⟩) 1 cap')).set 0 (.int .i64 ((p : Int) + 128))
        rw [hs5] at HFF
        refine HFF.out _ (.slice (some ⟨g', 0, none⟩) 1 cap') (some (pre.length, p)) (((bd6.trans (Bd.set r2 rfl h2 (by omega) 3 _)).trans (Bd.set (r3.other (by omega) 3 _) rfl h2 (by omega) 0 _)).trans (Bd.set y2 rfl h2 (by omega) 2 _)) (by rw [HMP.out, HSN.out]; rfl) ?_ (y2.set 2 _) (((r0.other (by omega) 3 _).other (by omega) 0 _).other (by omega) 2 _) (((r1.other (by omega) 3 _).other (by omega) 0 _).other (by omega) 2 _) (((hk6.other (by omega) 3 _).other (by omega) 0 _).other (by omega) 2 _)
        have := y3.other (B' := N + 1 + 1) (by omega) 2 (.int .i64 ((pre.length : Int) + 1))
        simpa [nxt] using this
  case done =>
    rintro D xs V hD rfl ⟨⟨k0, k1, k3, kb, ks, htb⟩, kv, k2, kk⟩ hK
    have a0 := k2.cell 0
    have a1 := k2.cell 1
    have a2 := k2.cell 2
    have a3 := k2.cell 3
    have d0 := k1.cell 0
    have d1 := k1.cell 1
    have d2 := k1.cell 2
    have d3 := k1.cell 3
    have e0 := k1.frozen 0
    have e1 := k1.frozen 1
    have e2 := k1.frozen 2
    have e3 := k1.frozen 3
    simp only [List.getElem?_toArray, List.getElem?_cons_zero, List.getElem?_cons_succ] at a0 a1 a2 a3 d0 d1 d2 d3
    have HLn := hid (show (E l).length = xs.length by rw [← HL.out, List.length_map])
    rw [HL.out] at kk
    have HKK := hid kk
    have HK1 := hid k1
    have HKB := hid kb
    have HD := hid hD
    have HKD := hid hK
    clear k0 k1 k3 kb ks htb k2 kk hK hD
    obtain ⟨sg, sl, sc, rfl⟩ : ∃ sg sl sc, kv = .slice sg sl sc := by
      have h := HKK.out
      cases ho : kpt l 0 (E l) with
      | none => rw [ho] at h; exact ⟨none, 0, 0, h⟩
      | some y => rw [ho] at h; obtain ⟨gg, cc, h1, _⟩ := h; exact ⟨_, _, _, h1⟩
    gi_wp2
    have hD := HD.out
    have q : Cb ((((V.setCell ⟨N + 1, 0, none⟩ (.string ⟨l.toArray⟩)).setCell ⟨N + 1, 1, none⟩ (.func (.func m) #[] #[])).setCell ⟨N + 1, 2, none⟩ (.int .i64 (xs.length : Nat))).setCell ⟨N + 1, 3, none⟩ (.slice sg sl sc)) (N + 1) #[.string ⟨l.toArray⟩, .func (.func m) #[] #[], .int .i64 (xs.length : Nat), .slice sg sl sc] 75 := (((HK1.out.set 0 _).set 1 _).set 2 _).set 3 _
    have hd : ((((V.setCell ⟨N + 1, 0, none⟩ (.string ⟨l.toArray⟩)).setCell ⟨N + 1, 1, none⟩ (.func (.func m) #[] #[])).setCell ⟨N + 1, 2, none⟩ (.int .i64 (xs.length : Nat))).setCell ⟨N + 1, 3, none⟩ (.slice sg sl sc)).heap[D]? = some (.deferred (some [])) := by
      rw [Below.heap_setCell _ _ _ D (by show D ≠ N + 1; omega), Below.heap_setCell _ _ _ D (by show D ≠ N + 1; omega), Below.heap_setCell _ _ _ D (by show D ≠ N + 1; omega), Below.heap_setCell _ _ _ D (by show D ≠ N + 1; omega)]
      exact HKD.out
    have hk := (((HKK.out.other (B := N + 1) (by omega) 0 (.string ⟨l.toArray⟩)).other (B := N + 1) (by omega) 1 (.func (.func m) #[] #[])).other (B := N + 1) (by omega) 2 (.int .i64 (xs.length : Nat))).other (B := N + 1) (by omega) 3 (.slice sg sl sc)
    have hb : Below N w ((((V.setCell ⟨N + 1, 0, none⟩ (.string ⟨l.toArray⟩)).setCell ⟨N + 1, 1, none⟩ (.func (.func m) #[] #[])).setCell ⟨N + 1, 2, none⟩ (.int .i64 (xs.length : Nat))).setCell ⟨N + 1, 3, none⟩ (.slice sg sl sc)) := (((HKB.out.setCell (p := ⟨N + 1, 0, none⟩) (by show N ≤ N + 1; omega) _).setCell (p := ⟨N + 1, 1, none⟩) (by show N ≤ N + 1; omega) _).setCell (p := ⟨N + 1, 2, none⟩) (by show N ≤ N + 1; omega) _).setCell (p := ⟨N + 1, 3, none⟩) (by show N ≤ N + 1; omega) _
    generalize (((V.setCell ⟨N + 1, 0, none⟩ (.string ⟨l.toArray⟩)).setCell ⟨N + 1, 1, none⟩ (.func (.func m) #[] #[])).setCell ⟨N + 1, 2, none⟩ (.int .i64 (xs.length : Nat))).setCell ⟨N + 1, 3, none⟩ (.slice sg sl sc) = V4 at *
    refine ⟨by simp, .inl ⟨_, _, rfl, run_takeDeferred hd, ?_⟩⟩
    refine ⟨_, results_cell_row rfl _ _ (N + 1) 75 #[.string ⟨l.toArray⟩, .func (.func m) #[] #[], .int .i64 (xs.length : Nat), .slice sg sl sc] (0, 0) _ rfl ((World.putObj_heap_other (by omega)).trans q) Tryd.underlying75 rfl (by kernel_rfl), .slice sg sl sc, by rw [HLn.out], ?_, ?_⟩
    · exact (kpd_keep (n := 0) hk (grownBy_putObj' V4 D _) (fun r e => by cases e; exact ⟨Nat.zero_le _, _, hd, rfl⟩)).low (by have := HN.out; omega)
    · rw [← HN.out]
      exact hb.trans (belowK_b (w := w5) (by omega) V4 D _ _ (by omega) hd rfl rfl)
  case stop =>
    rintro D c pre V _ _ h _
    exact h.elim
theorem newScale_any (m g : Nat) (E : List UInt8 → List Nat) (C : Cnt m g E) (l : List UInt8) (w : World) (ht : TbW w) (hl : l.length ≤ 100) :
    Calls Tryd.prog 33 #[.string ⟨l.toArray⟩, .func (.func m) #[] #[]] w fun e W' => ∃ kv, e = .returned (.agg #[.string ⟨l.toArray⟩, .func (.func m) #[] #[], .int .i64 (E l).length, kv]) ∧ Kpd W' w.heap.size kv (kpt l 0 (E l)) ∧ Below w.heap.size w W' := callsIn_wide.1 (newScale_in m g E C l w ht hl)
end Go.Proofs.YtffbdnlfknomnaaDoor.Wt
/- The contract of reach (package places) at short texts: it counts from a kept place on. -/
namespace Go.Proofs.YtffbdnlfknomnaaDoor.Wt
open Go.RowKit Go.Shelf
attribute [local go_sem] Oper.semAt_some

theorem on_end (l : List UInt8) (p : Int) (h : (l.length : Int) ≤ p) : onE l p = l.length := by
  unfold onE
  rw [if_neg (by omega), if_pos h]
theorem Cb.dr {W : World} {B : Nat} {c : Array Value} {t : Nat} (h : Cb W B c t) : Cb W.drew B c t := h
/-- Places in the whole text. -/
def shP (p : Nat) {s : List UInt8} (pre : List (Pn s)) : List Nat := pre.map fun y => p + y.v
def lsP (p : Nat) {s : List UInt8} (pre : List (Pn s)) : Nat := (shP p pre).getLastD p
/-- None of these ends the count. -/
def NoS (n at_ : Int) (p : Nat) {s : List UInt8} (pre : List (Pn s)) : Prop := ∀ (i q : Nat), (shP p pre)[i]? = some q → ¬ (at_ ≤ (q : Int) ∨ ((0 + i : Nat) : Int) = n)
theorem NoS.snoc {n at_ : Int} {p : Nat} {s : List UInt8} {pre : List (Pn s)} {x : Pn s} (h : NoS n at_ p pre) (h1 : ¬ at_ ≤ ((p + x.v : Nat) : Int)) (h2 : ¬ ((pre.length : Nat) : Int) = n) : NoS n at_ p (pre ++ [x]) := fun i q hq => by
  unfold shP at hq
  rw [List.map_append, List.getElem?_append] at hq
  split at hq
  · exact h i q hq
  · rename_i hi
    rw [List.length_map] at hi hq
    rcases Nat.lt_or_ge pre.length i with hlt | hge
    · rw [List.getElem?_eq_none (by simp; omega)] at hq; cases hq
    · have e : i = pre.length := by omega
      subst e
      simp at hq
      subst hq
      intro hh
      rcases hh with hh | hh
      · exact h1 hh
      · exact h2 (by omega)
theorem cb6 (w : World) (c0 c1 c2 c3 c4 c5 : Array Value) (t0 t1 t2 t3 t4 t5 : Nat) :
    Cb ((((((w.alloc (.cells c0 t0)).alloc (.cells c1 t1)).alloc (.cells c2 t2)).alloc (.cells c3 t3)).alloc (.cells c4 t4)).alloc (.cells c5 t5)) w.heap.size c0 t0 ∧
    Cb ((((((w.alloc (.cells c0 t0)).alloc (.cells c1 t1)).alloc (.cells c2 t2)).alloc (.cells c3 t3)).alloc (.cells c4 t4)).alloc (.cells c5 t5)) (w.heap.size + 1) c1 t1 ∧
    Cb ((((((w.alloc (.cells c0 t0)).alloc (.cells c1 t1)).alloc (.cells c2 t2)).alloc (.cells c3 t3)).alloc (.cells c4 t4)).alloc (.cells c5 t5)) (w.heap.size + 1 + 1) c2 t2 ∧
    Cb ((((((w.alloc (.cells c0 t0)).alloc (.cells c1 t1)).alloc (.cells c2 t2)).alloc (.cells c3 t3)).alloc (.cells c4 t4)).alloc (.cells c5 t5)) (w.heap.size + 1 + 1 + 1) c3 t3 ∧
    Cb ((((((w.alloc (.cells c0 t0)).alloc (.cells c1 t1)).alloc (.cells c2 t2)).alloc (.cells c3 t3)).alloc (.cells c4 t4)).alloc (.cells c5 t5)) (w.heap.size + 1 + 1 + 1 + 1) c4 t4 ∧
    Cb ((((((w.alloc (.cells c0 t0)).alloc (.cells c1 t1)).alloc (.cells c2 t2)).alloc (.cells c3 t3)).alloc (.cells c4 t4)).alloc (.cells c5 t5)) (w.heap.size + 1 + 1 + 1 + 1 + 1) c5 t5 ∧
    ((((((w.alloc (.cells c0 t0)).alloc (.cells c1 t1)).alloc (.cells c2 t2)).alloc (.cells c3 t3)).alloc (.cells c4 t4)).alloc (.cells c5 t5)).heap.size = w.heap.size + 6 ∧
    Below w.heap.size w ((((((w.alloc (.cells c0 t0)).alloc (.cells c1 t1)).alloc (.cells c2 t2)).alloc (.cells c3 t3)).alloc (.cells c4 t4)).alloc (.cells c5 t5)) := by
  have e0 := Cb.new w c0 t0
  have e1 := Cb.new (w.alloc (.cells c0 t0)) c1 t1
  have e2 := Cb.new ((w.alloc (.cells c0 t0)).alloc (.cells c1 t1)) c2 t2
  have e3 := Cb.new (((w.alloc (.cells c0 t0)).alloc (.cells c1 t1)).alloc (.cells c2 t2)) c3 t3
  have e4 := Cb.new ((((w.alloc (.cells c0 t0)).alloc (.cells c1 t1)).alloc (.cells c2 t2)).alloc (.cells c3 t3)) c4 t4
  have e5 := Cb.new (((((w.alloc (.cells c0 t0)).alloc (.cells c1 t1)).alloc (.cells c2 t2)).alloc (.cells c3 t3)).alloc (.cells c4 t4)) c5 t5
  simp only [World.size_alloc] at e1 e2 e3 e4 e5
  refine ⟨((((e0.alloc _).alloc _).alloc _).alloc _).alloc _, (((e1.alloc _).alloc _).alloc _).alloc _, ((e2.alloc _).alloc _).alloc _, (e3.alloc _).alloc _, e4.alloc _, e5, by simp, ?_⟩
  exact ((((((Below.refl _ _).alloc (Nat.le_refl _) _).alloc (by simp) _).alloc (by simp; omega) _).alloc (by simp; omega) _).alloc (by simp; omega) _).alloc (by simp; omega) _
/-- The result is laid. -/
theorem finish_spot {N D : Nat} {w V : World} {c : Array Value} {t : Nat} (k : Cb V (N + 1 + 1 + 1 + 1) c t) (kb : Below N w V) (hK : V.heap[D]? = some (.deferred (some []))) (hD : N + 4 < D) (u v : Value) :
    Cb ((V.setCell ⟨N + 1 + 1 + 1 + 1, 0, none⟩ u).setCell ⟨N + 1 + 1 + 1 + 1, 1, none⟩ v) (N + 1 + 1 + 1 + 1) ((c.setIfInBounds 0 u).setIfInBounds 1 v) t ∧
    ((V.setCell ⟨N + 1 + 1 + 1 + 1, 0, none⟩ u).setCell ⟨N + 1 + 1 + 1 + 1, 1, none⟩ v).heap[D]? = some (.deferred (some [])) ∧
    Below N w ((V.setCell ⟨N + 1 + 1 + 1 + 1, 0, none⟩ u).setCell ⟨N + 1 + 1 + 1 + 1, 1, none⟩ v) := by
  refine ⟨(k.set 0 u).set 1 v, ?_, (kb.setCell (p := ⟨N + 1 + 1 + 1 + 1, 0, none⟩) (by show N ≤ N + 1 + 1 + 1 + 1; omega) _).setCell (p := ⟨N + 1 + 1 + 1 + 1, 1, none⟩) (by show N ≤ N + 1 + 1 + 1 + 1; omega) _⟩
  rw [Below.heap_setCell _ _ _ D (by show D ≠ N + 1 + 1 + 1 + 1; omega), Below.heap_setCell _ _ _ D (by show D ≠ N + 1 + 1 + 1 + 1; omega)]
  exact hK
set_option maxHeartbeats 4000000 in
set_option maxRecDepth 100000 in
theorem reach_in (m g : Nat) (E : List UInt8 → List Nat) (C : Cnt m g E) (l : List UInt8) (p : Nat) (tl : List Nat) (he : E l = p :: tl) (lo : Int) (sg : Option Addr) (sl sc : Nat) (n at_ : Int) (w : World) (ht : TbW w) (hl : l.length ≤ 100) :
    CallsIn Fence.wide 9 Tryd.prog 69 #[.agg #[.string ⟨l.toArray⟩, .func (.func m) #[] #[], .int .i64 lo, .slice sg sl sc], .agg #[.int .i64 0, .int .i64 p], .int .i64 n, .int .i64 at_] w fun e W' => e = .returned (.agg #[.int .i64 (rch n at_ (E l) 0 p).1, .int .i64 (rch n at_ (E l) 0 p).2]) ∧ Below w.heap.size w W' := by
  have HT := hid ht
  have h2 := ht.two
  have HC := hid C
  have hpl : p < l.length := C.scl.lt l p (by rw [he]; exact List.mem_cons_self ..)
  obtain ⟨L, hL⟩ := pn_all (l.drop p) (E (l.drop p)) (C.scl.lt _)
  have HEL := hid (show E l = shP p L by
    rw [← C.scl.cut l p tl he, ← hL]; unfold shP; rw [List.map_map]; rfl)
  have HLEN := hid (show L.length ≤ (l.drop p).length by
    have h1 := rise_len (C.scl.rise (l.drop p)) (C.scl.lt _)
    rw [← hL, List.length_map] at h1
    exact h1)
  have HL := hid hL
  have em := C.em
  clear ht C hL he
  refine callsIn_of_wp_marks Tryd.func69 rfl trivial ?_ rfl
  simp only [Tryd.ntmps69, List.size_toArray, List.length_cons, List.length_nil, Nat.reduceAdd, Nat.reduceSub, Array.replicate_succ, Array.replicate_zero, List.push_toArray, List.append_toArray, List.nil_append, List.cons_append]
  gi_wp2_with fail
  refine wpIn_wide.2 (wp_scope_straight ((wpIn_wide (n := 9)).1 ?_))
  gi_wp2_with fail
  obtain ⟨b0, b1, b2, b3, b4, b5, hs6, hB6⟩ := cb6 w #[.string ⟨l.toArray⟩, .func (.func m) #[] #[], .int .i64 lo, .slice sg sl sc] #[.int .i64 0, .int .i64 p] #[.int .i64 n] #[.int .i64 at_] #[.int .i64 0, .int .i64 0] #[.int .i64 p] 75 104 3 3 104 3
  obtain ⟨w6, hw6⟩ : ∃ w6, w6 = ((((((w.alloc (.cells #[.string ⟨l.toArray⟩, .func (.func m) #[] #[], .int .i64 lo, .slice sg sl sc] 75)).alloc (.cells #[.int .i64 0, .int .i64 p] 104)).alloc (.cells #[.int .i64 n] 3)).alloc (.cells #[.int .i64 at_] 3)).alloc (.cells #[.int .i64 0, .int .i64 0] 104)).alloc (.cells #[.int .i64 p] 3)) := ⟨_, rfl⟩
  rw [← hw6] at b0 b1 b2 b3 b4 b5 hs6 hB6 ⊢
  clear hw6
  have HT6 := hid (HT.out.below hB6)
  refine ⟨trivial, (callsIn_wide.2 (on_any l ((p : Int) + 128 - 1) w6 (by omega) HT6.out.tabs HT6.out.two)).mono ?_⟩
  rintro e w7 ⟨rfl, be⟩
  rw [on_end l _ (by omega)]
  have HN : ∃ N, N = w.heap.size := ⟨_, rfl⟩
  obtain ⟨N, hN⟩ := HN
  have HB0 := hid (b0.below be)
  have HB1 := hid (b1.below be)
  have HB2 := hid (b2.below be)
  have HB3 := hid (b3.below be)
  have HB4 := hid (b4.below be)
  have HB5 := hid (b5.below be)
  have HBW := hid (hB6.trans (be.mono (by omega)))
  have HT7 := hid (HT6.out.below be)
  have hs7 : N + 6 ≤ w7.heap.size := by have := be.size; omega
  rw [← hN] at HB0 HB1 HB2 HB3 HB4 HB5 HBW h2 ⊢
  have HNW := hid hN
  clear b0 b1 b2 b3 b4 b5 hs6 hB6 be HT6 hN HT
  have hn9 : (1 : Nat) ≤ 9 := by omega
  have hple : (p : Int) ≤ (l.length : Int) := by omega
  gi_wp2_with fail
  refine wpIn_wide.2 (wp_label ?_)
  gi_wp2_with fail
  refine wpIn_wide.2 ?_
  have c0 := HB0.out.cell 0
  have c1 := HB0.out.cell 1
  have c5 := HB5.out.cell 0
  simp only [List.getElem?_toArray, List.getElem?_cons_zero, List.getElem?_cons_succ] at c0 c1 c5
  refine wp_region_mix [(0, true), (1, true), (2, true), (3, true), (4, true), (5, true), (6, true), (7, false)] (fun w' => Cb w' N #[.string ⟨l.toArray⟩, .func (.func m) #[] #[], .int .i64 lo, .slice sg sl sc] 75 ∧ Cb w' (N + 1 + 1 + 1 + 1 + 1) #[.int .i64 p] 3) (fun _ => false) (by kernel_rfl) (by kernel_rfl) (fun j hj => by cases hj) rfl (by kernel_rfl) ⟨HB0.out.dr, HB5.out.dr⟩ ?_
  iterate 7 (refine mix_free ?_ rfl (by kernel_rfl) (fun w' hS => ?_) ?_; (rotate_left; (have z0 := hS.1.cell 0; have z1 := hS.1.cell 1; have z5 := hS.2.cell 0; simp only [List.getElem?_toArray, List.getElem?_cons_zero, List.getElem?_cons_succ] at z0 z1 z5; go_simp; with_reducible rfl); rotate_left))
  refine mix_go rfl (by kernel_rfl) fun KK hKK => ?_
  go_simp
  rw [ext_drop]
  refine (HC.out.made (l.drop p) _).mono ?_
  rintro e w8 ⟨rfl, rfl⟩
  refine hKK _ _ (fun _ => ⟨HB0.out.dr.alloc _, HB5.out.dr.alloc _⟩) ?_
  clear hKK KK
  refine mix_end (NoPanic.normal ?_)
  rename_i hKA
  refine hKA _ _ ?_
  clear hKA
  have HE8 := hid (show WaAt w7.heap.size (l.drop p) (w7.drew.alloc (.cells #[.string ⟨(l.drop p).toArray⟩] 9)) from ⟨Boxed.new w7.drew 9 _, HT7.out.below ((Below.refl _ _).drew.alloc (Nat.le_refl _) _)⟩)
  have hB8 : Below w7.heap.size w7 (w7.drew.alloc (.cells #[.string ⟨(l.drop p).toArray⟩] 9)) := (Below.refl _ _).drew.alloc (Nat.le_refl _) _
  have hs8 : (w7.drew.alloc (.cells #[.string ⟨(l.drop p).toArray⟩] 9)).heap.size = w7.heap.size + 1 := by simp
  obtain ⟨w8, hw8⟩ : ∃ w8, w8 = w7.drew.alloc (.cells #[.string ⟨(l.drop p).toArray⟩] 9) := ⟨_, rfl⟩
  rw [← hw8] at HE8 hB8 hs8 ⊢
  have d1 := HB1.out.below hB8
  have d2 := HB2.out.below hB8
  have d3 := HB3.out.below hB8
  have d4 := HB4.out.below hB8
  have d5 := HB5.out.below hB8
  have HBW8 := hid (HBW.out.trans (hB8.mono (by omega)))
  have HD := hid (And.intro d1 (And.intro d2 (And.intro d3 (And.intro d4 d5))))
  have hT8 : 2 ≤ w8.heap.size := by omega
  obtain ⟨M, hM⟩ : ∃ M, M = w7.heap.size := ⟨_, rfl⟩
  have hdM : w7.drew.heap.size = M := by rw [hM]; rfl
  rw [hdM]
  rw [← hM] at HE8 hs8 hs7
  clear hw8 d1 d2 d3 d4 d5 c0 c1 c5 hB8 hM hdM
  gi_wp2
  refine rangeO rfl (by omega) rfl trivial HC.out.eg (HC.out.seq (9 - 1) M (l.drop p) L w8 (by omega) HL.out HE8.out (by rw [List.length_drop]; omega)) Kt_t (Kt_b (by omega)) (Below.refl _ _) (fun _ => rfl)
    (fun pre V => (Cb V (N + 1) #[.int .i64 (pre.length : Nat), .int .i64 (lsP p pre : Nat)] 104 ∧ Cb V (N + 1 + 1) #[.int .i64 n] 3 ∧ Cb V (N + 1 + 1 + 1) #[.int .i64 at_] 3 ∧ Cb V (N + 1 + 1 + 1 + 1) #[.int .i64 0, .int .i64 0] 104 ∧ Cb V (N + 1 + 1 + 1 + 1 + 1) #[.int .i64 p] 3 ∧ Below N w V ∧ w8.heap.size ≤ V.heap.size) ∧ NoS n at_ p pre)
    (fun c pre V => c = .exit 0 ∧ ∃ pr x, pre = pr ++ [x] ∧ NoS n at_ p pr ∧ (at_ ≤ ((p + x.v : Nat) : Int) ∨ ((0 + pr.length : Nat) : Int) = n) ∧ Cb V (N + 1) #[.int .i64 (pr.length : Nat), .int .i64 ((p : Int) + x.v)] 104 ∧ Cb V (N + 1 + 1 + 1 + 1) #[.int .i64 0, .int .i64 0] 104 ∧ Below N w V ∧ w8.heap.size ≤ V.heap.size) ?own ?ownx
    ⟨⟨HD.out.1, HD.out.2.1, HD.out.2.2.1, HD.out.2.2.2.1, HD.out.2.2.2.2, HBW8.out, Nat.le_refl _⟩, fun i q h => by simp [shP] at h⟩
    (fun x a' _ => a' = { tmps := #[.agg #[.string ⟨l.toArray⟩, .func (.func m) #[] #[], .int .i64 lo, .slice sg sl sc], .agg #[.int .i64 0, .int .i64 p], .int .i64 n, .int .i64 at_, .pointer (some ⟨N, 0, none⟩), .pointer (some ⟨N + 1, 0, none⟩), .pointer (some ⟨N + 1 + 1, 0, none⟩), .pointer (some ⟨N + 1 + 1 + 1, 0, none⟩), .pointer (some ⟨N + 1 + 1 + 1 + 1, 0, none⟩), .pointer (some ⟨N + 1 + 1 + 1 + 1 + 1, 0, none⟩), .int .i64 l.length, .int .i64 (x.v : Nat), .pointer (some ⟨N + 1, 1, none⟩), .int .i64 p, .pointer (some ⟨N, 0, none⟩), .string ⟨l.toArray⟩, .int .i64 p, .int .i64 ((p : Int) + 128), .int .i64 ((p : Int) + 128 - 1), .int .i64 l.length, .pointer (some ⟨N, 1, none⟩), .func (.func m) #[] #[], .pointer (some ⟨N, 0, none⟩), .string ⟨l.toArray⟩, .int .i64 p, .int .i64 l.length, .string ⟨(l.drop p).toArray⟩, .func (.func g) #[] #[.pointer (some ⟨M, 0, none⟩)], .int .i64 (x.v : Nat), undef, undef, undef, undef, undef, undef, undef, undef, undef, undef, undef, undef, undef, undef, undef, undef, undef, undef], defers := [] })
    (fun _ _ _ _ _ _ h _ _ => h) ?assign ?body ?done ?stop
  case own =>
    rintro pre A C row ⟨⟨k1, k2, k3, k4, k5, kb, ks⟩, kn⟩ hg hr
    refine ⟨⟨cb_keep k1 hg hr, cb_keep k2 hg hr, cb_keep k3 hg hr, cb_keep k4 hg hr, cb_keep k5 hg hr, ?_, Nat.le_trans ks hg.size⟩, kn⟩
    refine kb.trans ⟨hg.os, hg.tape, hg.output, hg.size, fun k hk => hg.block k (by omega) fun e => ?_⟩
    have := (hr k e.symm).1
    omega
  case ownx =>
    rintro c pre A C row ⟨e, pr, x, e1, e2, e3, k1, k4, kb, ks⟩ hg hr
    refine ⟨e, pr, x, e1, e2, e3, cb_keep k1 hg hr, cb_keep k4 hg hr, ?_, Nat.le_trans ks hg.size⟩
    refine kb.trans ⟨hg.os, hg.tape, hg.output, hg.size, fun k hk => hg.block k (by omega) fun e => ?_⟩
    have := (hr k e.symm).1
    omega
  case assign =>
    intro lp2 pre x V K hI hK
    dsimp only [encN]
    gi_wp2
    exact hK _ _ (KeepsFrom.refl _ _) (Kt.refl _) hI rfl
  case body =>
    rintro lp2 pre x a' V hlp _ ⟨⟨k1, k2, k3, k4, k5, kb, ks⟩, kn⟩ rfl hlt
    obtain ⟨q, hq⟩ : ∃ q, q = x.v := ⟨_, rfl⟩
    have hxl := x.lt
    rw [List.length_drop, ← hq] at hxl
    have HQ := hid hq
    have hlen : pre.length < 100 := by
      have h1 := HLEN.out
      rw [List.length_drop] at h1
      omega
    obtain ⟨la, hla⟩ : ∃ la, la = lsP p pre := ⟨_, rfl⟩
    rw [← hla] at k1
    rw [← hq]
    have HLA := hid (show lsP p (pre ++ [x]) = p + q by unfold lsP shP; rw [List.map_append, hq]; simp)
    have a1 := k1.cell 0
    have a1' := k1.cell 1
    have a2 := k2.cell 0
    have a3 := k3.cell 0
    have a5 := k5.cell 0
    have f1 := k1.frozen 0
    have f1' := k1.frozen 1
    simp only [List.getElem?_toArray, List.getElem?_cons_zero, List.getElem?_cons_succ] at a1 a1' a2 a3 a5
    have HK := hid (And.intro k1 (And.intro k2 (And.intro k3 (And.intro k4 k5))))
    have HKB := hid kb
    have HKN := hid kn
    clear k1 k2 k3 k4 k5 kb kn hla hq
    have hle1 : (pre.length : Int) + 1 < 1000 := by omega
    have hpq : (p : Int) + q < 1000 := by omega
    obtain ⟨j1, j2, j3, j4, j5⟩ := HK.out
    have y1 : Cb (V.setCell ⟨N + 1, 1, none⟩ (.int .i64 ((p : Int) + q))) (N + 1) #[.int .i64 (pre.length : Nat), .int .i64 ((p : Int) + q)] 104 := j1.set 1 _
    have bd1 := Bd.set (N := N) j1 rfl h2 (by omega) 1 (.int .i64 ((p : Int) + q))
    have HY := hid (And.intro y1 bd1)
    clear j1 j2 j3 j4 j5 y1 bd1
    by_cases hat : at_ ≤ (p : Int) + q
    · gi_wp2
      obtain ⟨y1, bd1⟩ := HY.out
      refine ⟨bd1.others.from _, rfl, pre, x, rfl, HKN.out, .inl (by rw [← HQ.out]; omega), by rw [← HQ.out]; exact y1, HK.out.2.2.2.1.other (by omega) 1 _, HKB.out.trans bd1.low, by have := bd1.low.size; omega⟩
    · by_cases hn' : ((pre.length : Int) == n) = true
      · gi_wp2
        obtain ⟨y1, bd1⟩ := HY.out
        refine ⟨bd1.others.from _, rfl, pre, x, rfl, HKN.out, .inr (by have := beq_iff_eq.1 hn'; omega), by rw [← HQ.out]; exact y1, HK.out.2.2.2.1.other (by omega) 1 _, HKB.out.trans bd1.low, by have := bd1.low.size; omega⟩
      · have hn2 : ((pre.length : Int) == n) = false := by simpa using hn'
        clear hn'
        gi_wp2
        obtain ⟨y1, bd1⟩ := HY.out
        have bd2 := bd1.trans (Bd.set (N := N) y1 rfl h2 (by omega) 0 (.int .i64 ((pre.length : Int) + 1)))
        refine ⟨bd2.others.from _, bd2.kt, ⟨?_, (HK.out.2.1.other (by omega) 1 _).other (by omega) 0 _, (HK.out.2.2.1.other (by omega) 1 _).other (by omega) 0 _, (HK.out.2.2.2.1.other (by omega) 1 _).other (by omega) 0 _, (HK.out.2.2.2.2.other (by omega) 1 _).other (by omega) 0 _, HKB.out.trans bd2.low, by have := bd2.low.size; omega⟩, HKN.out.snoc (by rw [← HQ.out]; omega) (by have := beq_eq_false_iff_ne.1 hn2; omega)⟩
        rw [HLA.out, List.length_append]
        exact y1.set 0 _
  case done =>
    rintro D xs V hD rfl ⟨⟨k1, k2, k3, k4, k5, kb, ks⟩, kn⟩ hK
    have HR := hid (show rch n at_ (E l) 0 p = (xs.length, lsP p xs) by
      have h := rch_go n at_ (shP p xs) [] 0 p kn
      rw [List.append_nil, Nat.zero_add] at h
      rw [HEL.out, h]
      unfold shP lsP
      rw [List.length_map]; rfl)
    obtain ⟨la, hla⟩ : ∃ la, la = lsP p xs := ⟨_, rfl⟩
    rw [← hla] at k1 HR
    clear hla kn
    have a0 := k1.cell 0
    have a1 := k1.cell 1
    have b0 := k4.cell 0
    have b1 := k4.cell 1
    have f0 := k4.frozen 0
    have f1 := k4.frozen 1
    simp only [List.getElem?_toArray, List.getElem?_cons_zero, List.getElem?_cons_succ] at a0 a1 b0 b1
    have HF := hid (finish_spot (N := N) (w := w) k4 kb hK (by omega) (.int .i64 (xs.length : Nat)) (.int .i64 (la : Nat)))
    clear k1 k2 k3 k4 k5 kb hK
    gi_wp2
    obtain ⟨q, hd, hb⟩ := HF.out
    refine ⟨by simp, .inl ⟨_, _, rfl, run_takeDeferred hd, ?_⟩⟩
    refine ⟨_, results_cell_row rfl _ _ (N + 1 + 1 + 1 + 1) 104 #[.int .i64 (xs.length : Nat), .int .i64 (la : Nat)] (0, 0) _ rfl ((World.putObj_heap_other (by omega)).trans q) Tryd.underlying104 rfl (by kernel_rfl), by rw [HR.out], ?_⟩
    rw [← HNW.out]
    exact hb.trans (belowK_b (w := w8) (by omega) _ D _ _ (by omega) hd rfl rfl)
  case stop =>
    rintro D c pre V hD hp ⟨rfl, pr, x, rfl, e2, e3, k1, k4, kb, ks⟩ hK
    obtain ⟨R, hR⟩ := hp
    have HR := hid (show rch n at_ (E l) 0 p = (pr.length, p + x.v) by
      have h := rch_here n at_ (shP p pr) (shP p R) (p + x.v) 0 p e2 (by unfold shP; rw [List.length_map]; exact e3)
      rw [Nat.zero_add] at h
      rw [HEL.out, ← hR, List.append_assoc]
      unfold shP at h ⊢
      rw [List.map_append]
      rw [List.length_map] at h
      exact h)
    obtain ⟨q, hq⟩ : ∃ q, q = x.v := ⟨_, rfl⟩
    rw [← hq] at k1 HR
    clear hq e2 e3 hR
    have a0 := k1.cell 0
    have a1 := k1.cell 1
    have b0 := k4.cell 0
    have b1 := k4.cell 1
    have f0 := k4.frozen 0
    have f1 := k4.frozen 1
    simp only [List.getElem?_toArray, List.getElem?_cons_zero, List.getElem?_cons_succ] at a0 a1 b0 b1
    have HF := hid (finish_spot (N := N) (w := w) k4 kb hK (by omega) (.int .i64 (pr.length : Nat)) (.int .i64 ((p : Int) + q)))
    clear k1 k4 kb hK
    gi_wp2
    obtain ⟨q', hd, hb⟩ := HF.out
    refine ⟨by simp, .inl ⟨_, _, rfl, run_takeDeferred hd, ?_⟩⟩
    refine ⟨_, results_cell_row rfl _ _ (N + 1 + 1 + 1 + 1) 104 #[.int .i64 (pr.length : Nat), .int .i64 ((p : Int) + q)] (0, 0) _ rfl ((World.putObj_heap_other (by omega)).trans q') Tryd.underlying104 rfl (by kernel_rfl), by rw [HR.out]; rfl, ?_⟩
    rw [← HNW.out]
    exact hb.trans (belowK_b (w := w8) (by omega) _ D _ _ (by omega) hd rfl rfl)
theorem reach_any (m g : Nat) (E : List UInt8 → List Nat) (C : Cnt m g E) (l : List UInt8) (p : Nat) (tl : List Nat) (he : E l = p :: tl) (lo : Int) (sg : Option Addr) (sl sc : Nat) (n at_ : Int) (w : World) (ht : TbW w) (hl : l.length ≤ 100) :
    Calls Tryd.prog 69 #[.agg #[.string ⟨l.toArray⟩, .func (.func m) #[] #[], .int .i64 lo, .slice sg sl sc], .agg #[.int .i64 0, .int .i64 p], .int .i64 n, .int .i64 at_] w fun e W' => e = .returned (.agg #[.int .i64 (rch n at_ (E l) 0 p).1, .int .i64 (rch n at_ (E l) 0 p).2]) ∧ Below w.heap.size w W' :=
  callsIn_wide.1 (reach_in m g E C l p tl he lo sg sl sc n at_ w ht hl)
end Go.Proofs.YtffbdnlfknomnaaDoor.Wt
/- The contracts of Search (package sort) at none or one, and of below and place (package places) at short texts. -/
namespace Go.Proofs.YtffbdnlfknomnaaDoor.Wt
open Go.RowKit Go.Shelf

theorem Tryd.callS1 : ∀ args w, (callFunc 68 args).run Tryd.prog w = .ok (.enter 68 args) w := enters_of Tryd.func68 (by kernel_rfl) rfl
theorem Tryd.callS2 : ∀ args w, (callFunc 70 args).run Tryd.prog w = .ok (.enter 70 args) w := enters_of Tryd.func70 (by kernel_rfl) rfl
theorem cell_lt {w : World} {g i : Nat} {v : Value} (h : w.cell? ⟨g, i, none⟩ = some v) : g < w.heap.size := by
  obtain ⟨o, ho, _⟩ := not_walk_of_cell h
  exact (Array.getElem?_eq_some_iff.1 ho).1
theorem spot_f0 (a b : Int) (w : World) : (Instr.field 104 (.agg #[.int .i64 a, .int .i64 b]) 0).run Tryd.prog w = .ok (.int .i64 a) w := by kernel_rfl
theorem spot_f1 (a b : Int) (w : World) : (Instr.field 104 (.agg #[.int .i64 a, .int .i64 b]) 1).run Tryd.prog w = .ok (.int .i64 b) w := by kernel_rfl
attribute [local go_sem] spot_f0 spot_f1
def sv (v : Bool) : Int := if v = true then 0 else 1
set_option maxHeartbeats 1000000 in
theorem below1_any (l : List UInt8) (m g c : Nat) (lo z : Int) (y1 : Nat) (B A : Nat) (w : World) (hB : Cb w B #[.string ⟨l.toArray⟩, .func (.func m) #[] #[], .int .i64 lo, .slice (some ⟨g, 0, none⟩) 1 c] 75) (hA : Cb w A #[.int .i64 z] 3)
    (h1 : w.cell? ⟨g, 1, none⟩ = some (.int .i64 y1)) :
    Calls Tryd.prog 68 #[.int .i64 0, .pointer (some ⟨B, 0, none⟩), .pointer (some ⟨A, 0, none⟩)] w fun e w' => e = .returned (.bool (decide (z ≤ (y1 : Int)))) ∧ Below w.heap.size w w' := by
  have c3 := hB.cell 3
  have a0 := hA.cell 0
  simp only [List.getElem?_toArray, List.getElem?_cons_zero, List.getElem?_cons_succ] at c3 a0
  clear hB hA
  go_enter Tryd.func68, Tryd.ntmps68
  go_wp2_with fail
  go_quiet (fail)
  go_wp2
  go_ret
  exact ⟨rfl, below_drN (Below.refl _ _) _⟩
set_option maxHeartbeats 1000000 in
theorem place1_any (l : List UInt8) (m g c : Nat) (lo z : Int) (y0 : Nat) (B A : Nat) (w : World) (hB : Cb w B #[.string ⟨l.toArray⟩, .func (.func m) #[] #[], .int .i64 lo, .slice (some ⟨g, 0, none⟩) 1 c] 75) (hA : Cb w A #[.int .i64 z] 3)
    (h0 : w.cell? ⟨g, 0, none⟩ = some (.int .i64 y0)) :
    Calls Tryd.prog 70 #[.int .i64 0, .pointer (some ⟨B, 0, none⟩), .pointer (some ⟨A, 0, none⟩)] w fun e w' => e = .returned (.bool (decide (z < (y0 : Int)))) ∧ Below w.heap.size w w' := by
  have c3 := hB.cell 3
  have a0 := hA.cell 0
  simp only [List.getElem?_toArray, List.getElem?_cons_zero, List.getElem?_cons_succ] at c3 a0
  clear hB hA
  go_enter Tryd.func70, Tryd.ntmps70
  go_wp2_with fail
  go_quiet (fail)
  go_wp2
  go_ret
  exact ⟨rfl, below_drN (Below.refl _ _) _⟩
set_option maxHeartbeats 1000000 in
theorem search0_any (f : Value) (w : World) : Calls Tryd.prog 67 #[.int .i64 0, f] w fun e w' => e = .returned (.int .i64 0) ∧ w' = w := by
  go_enter Tryd.func67, Tryd.ntmps67
  go_wp2
  go_loopw [5, 6] (fun a b wr => a = .int .i64 0 ∧ b = .int .i64 0 ∧ wr = w) (fun _ _ _ => 0)
  case atStart => exact ⟨rfl, rfl, rfl⟩
  case round =>
    obtain ⟨rfl, rfl, rfl⟩ := hrel
    go_wp2
    go_ret
    exact ⟨rfl, rfl⟩
set_option maxHeartbeats 1000000 in
theorem search1_any (f B A : Nat) (v : Bool) (w : World) (ef : ∀ args w, (callFunc f args).run Tryd.prog w = .ok (.enter f args) w) (hf : Calls Tryd.prog f #[.int .i64 0, .pointer (some ⟨B, 0, none⟩), .pointer (some ⟨A, 0, none⟩)] w fun e w' => e = .returned (.bool v) ∧ Below w.heap.size w w') :
    Calls Tryd.prog 67 #[.int .i64 1, .func (.func f) #[] #[.pointer (some ⟨B, 0, none⟩), .pointer (some ⟨A, 0, none⟩)]] w fun e w' => e = .returned (.int .i64 (sv v)) ∧ Below w.heap.size w w' := by
  have HF := hid hf
  clear hf
  go_enter Tryd.func67, Tryd.ntmps67
  go_wp2
  go_loopw [5, 6] (fun a b wr => (a = .int .i64 0 ∧ b = .int .i64 1 ∧ wr = w) ∨ (∃ z : Int, a = .int .i64 z ∧ b = .int .i64 z ∧ Hid (z = sv v) ∧ 0 ≤ z ∧ z ≤ 1 ∧ Hid (Below w.heap.size w wr))) (fun a b _ => (intOf b - intOf a).toNat)
  case atStart => exact .inl ⟨rfl, rfl, rfl⟩
  case round =>
    rcases hrel with ⟨rfl, rfl, rfl⟩ | ⟨z, rfl, rfl, HZ, hz0, hz1, HB⟩
    · go_wp2_with fail
      refine HF.out.mono ?_
      rintro e w1 ⟨rfl, be⟩
      have HB := hid be
      clear be
      cases v with
      | true =>
        go_wp2
        go_roundw
        case rel => exact .inr ⟨0, rfl, rfl, rfl, by omega, by omega, HB⟩
        case measure => simp [intOf]
      | false =>
        go_wp2
        go_roundw
        case rel => exact .inr ⟨1, rfl, rfl, rfl, by omega, by omega, HB⟩
        case measure => simp [intOf]
    · have hzz : ¬ z < z := by omega
      go_wp2
      go_ret
      exact ⟨by rw [← HZ.out]; rfl, HB.out⟩
set_option maxHeartbeats 2000000 in
theorem below_any (m g : Nat) (E : List UInt8 → List Nat) (C : Cnt m g E) (l : List UInt8) (lw : Nat) (kv : Value) (z : Int) (w : World) (ht : TbW w) (hl : l.length ≤ 100) (hk : Kpd w lw kv (kpt l 0 (E l))) :
    Calls Tryd.prog 43 #[.agg #[.string ⟨l.toArray⟩, .func (.func m) #[] #[], .int .i64 (E l).length, kv], .int .i64 z] w fun e w' => e = .returned (.int .i64 (cntB (E l) z : Nat)) ∧ Below w.heap.size w w' := by
  have HT := hid ht
  have HC := hid C
  have hLn : (E l).length ≤ l.length := rise_len (C.scl.rise l) (C.scl.lt l)
  obtain he | ⟨p, tl, he⟩ : E l = [] ∨ ∃ p tl, E l = p :: tl := by
    cases E l with
    | nil => exact .inl rfl
    | cons p tl => exact .inr ⟨p, tl, rfl⟩
  · rw [he] at hk ⊢
    obtain rfl : kv = .slice none 0 0 := hk
    have HA := hid (show cntB [] z = 0 from rfl)
    have HB := hid (show Below w.heap.size w ((w.alloc (.cells #[.string ⟨l.toArray⟩, .func (.func m) #[] #[], .int .i64 (([] : List Nat).length : Nat), .slice none 0 0] 75)).alloc (.cells #[.int .i64 z] 3)) from ((Below.refl _ _).alloc (Nat.le_refl _) _).alloc (by simp) _)
    clear he hLn ht C
    go_enter Tryd.func43, Tryd.ntmps43
    go_wp2_with fail
    refine (search0_any _ _).mono ?_
    rintro e w1 ⟨rfl, hw1⟩
    subst hw1
    go_wp2
    go_ret
    exact ⟨by rw [HA.out]; rfl, HB.out⟩
  · have HE := hid he
    rw [kpt_all C.scl l p tl he] at hk
    obtain ⟨G, c, rfl, _, hG, g0, g1⟩ := hk
    obtain ⟨n, hn⟩ : ∃ n, n = (E l).length := ⟨_, rfl⟩
    have HNN := hid hn
    rw [← hn]
    have hLn' : n ≤ l.length := by rw [HNN.out]; exact hLn
    have b0 := (Cb.new w #[.string ⟨l.toArray⟩, .func (.func m) #[] #[], .int .i64 (n : Nat), .slice (some ⟨G, 0, none⟩) 1 c] 75).alloc (.cells #[.int .i64 z] 3)
    have b1 := Cb.new (w.alloc (.cells #[.string ⟨l.toArray⟩, .func (.func m) #[] #[], .int .i64 (n : Nat), .slice (some ⟨G, 0, none⟩) 1 c] 75)) #[.int .i64 z] 3
    have hB : Below w.heap.size w ((w.alloc (.cells #[.string ⟨l.toArray⟩, .func (.func m) #[] #[], .int .i64 (n : Nat), .slice (some ⟨G, 0, none⟩) 1 c] 75)).alloc (.cells #[.int .i64 z] 3)) := ((Below.refl _ _).alloc (Nat.le_refl _) _).alloc (by simp) _
    rw [World.size_alloc] at b1
    have c0 := (hB.cell (p := ⟨G, 0, none⟩) hG).trans g0
    have c1 := (hB.cell (p := ⟨G, 1, none⟩) hG).trans g1
    have HT2 := hid (HT.out.below hB)
    obtain ⟨w2, hw2⟩ : ∃ w2, w2 = (w.alloc (.cells #[.string ⟨l.toArray⟩, .func (.func m) #[] #[], .int .i64 (n : Nat), .slice (some ⟨G, 0, none⟩) 1 c] 75)).alloc (.cells #[.int .i64 z] 3) := ⟨_, rfl⟩
    have HFL := hid (below1_any l m G c (n : Nat) z p w.heap.size (w.heap.size + 1) w2 (by rw [hw2]; exact b0) (by rw [hw2]; exact b1) (by rw [hw2]; exact c1))
    have HSR := hid (search1_any 68 w.heap.size (w.heap.size + 1) _ w2 Tryd.callS1 HFL.out)
    rw [← hw2] at b0 b1 hB c0 c1 HT2
    have HB0 := hid b0
    have HB1 := hid b1
    have HBB := hid hB
    have HG0 := hid c0
    have HG1 := hid c1
    have hGs : G < w2.heap.size := by have := hB.size; omega
    have HGS := hid hGs
    have hpl : p < l.length := C.scl.lt l p (by rw [he]; exact List.mem_cons_self ..)
    have HA := hid (show cntB (E l) z = (rch (n : Nat) z (E l) 0 p).1 by
      have h := rch_count z (E l) 0 p (n : Nat) (C.scl.rise l) (by rw [HNN.out]; omega)
      rw [h, Nat.zero_add])
    by_cases hz : z ≤ (p : Int)
    · have HV := hid (show cntB (E l) z = 0 by
        rw [HA.out, he, rch, if_pos (.inl hz)])
      rw [decide_eq_true hz, show sv true = 0 from rfl] at HSR
      clear b0 b1 hB c0 c1 he hn ht C hLn hz g0 g1 HFL
      go_enter Tryd.func43, Tryd.ntmps43
      go_wp2_with fail
      rw [← hw2]
      refine HSR.out.mono ?_
      rintro e w3 ⟨rfl, be⟩
      have HB3 := hid (HBB.out.trans (be.mono (by have := HBB.out.size; omega)))
      clear be hw2
      go_wp2
      go_ret
      exact ⟨by rw [HV.out]; rfl, HB3.out⟩
    · rw [decide_eq_false hz, show sv false = 1 from rfl] at HSR
      clear b0 b1 hB c0 c1 he hn ht C hLn g0 g1 HFL
      go_enter Tryd.func43, Tryd.ntmps43
      go_wp2_with fail
      rw [← hw2]
      refine HSR.out.mono ?_
      rintro e w3 ⟨rfl, be⟩
      have HB3 := hid (HBB.out.trans (be.mono (by have := HBB.out.size; omega)))
      have HQ := hid (show Cb w3 w.heap.size #[.string ⟨l.toArray⟩, .func (.func m) #[] #[], .int .i64 (n : Nat), .slice (some ⟨G, 0, none⟩) 1 c] 75 ∧ Cb w3 (w.heap.size + 1) #[.int .i64 z] 3 ∧ w3.cell? ⟨G, 0, none⟩ = some (.int .i64 (0 : Nat)) ∧ w3.cell? ⟨G, 1, none⟩ = some (.int .i64 p) from ⟨HB0.out.below be, HB1.out.below be, (be.cell (p := ⟨G, 0, none⟩) HGS.out).trans HG0.out, (be.cell (p := ⟨G, 1, none⟩) HGS.out).trans HG1.out⟩)
      have HT3 := hid (HT2.out.below be)
      clear be hw2
      have hw0 : IntKind.i64.wrap 0 = 0 := by rw [IntKind.wrap_i64]; omega
      go_wp2_with fail
      refine wp_region_mix [(0, true), (1, true), (2, true), (3, true), (4, true), (5, true), (6, true), (7, true), (8, true), (9, true), (10, false), (11, true), (12, true)] (fun w' => Cb w' w.heap.size #[.string ⟨l.toArray⟩, .func (.func m) #[] #[], .int .i64 (n : Nat), .slice (some ⟨G, 0, none⟩) 1 c] 75 ∧ Cb w' (w.heap.size + 1) #[.int .i64 z] 3 ∧ w'.cell? ⟨G, 0, none⟩ = some (.int .i64 (0 : Nat)) ∧ w'.cell? ⟨G, 1, none⟩ = some (.int .i64 p)) (fun _ => false) (by kernel_rfl) (by kernel_rfl) (fun j hj => by cases hj) rfl (by kernel_rfl) HQ.out ?_
      iterate 10 (refine mix_free ?_ rfl (by kernel_rfl) (fun w' hS => ?_) ?_; (rotate_left; (have z0 := hS.1.cell 0; have z1 := hS.1.cell 1; have z2 := hS.1.cell 2; have z3 := hS.1.cell 3; have z4 := hS.2.1.cell 0; have z5 := hS.2.2.1; have z6 := hS.2.2.2; simp only [List.getElem?_toArray, List.getElem?_cons_zero, List.getElem?_cons_succ] at z0 z1 z2 z3 z4; go_simp; with_reducible rfl); rotate_left))
      refine mix_go rfl (by kernel_rfl) fun KK hKK => ?_
      go_simp
      refine (reach_any m g E HC.out l p tl HE.out (n : Nat) (some ⟨G, 0, none⟩) 1 c (n : Nat) z w3.drew (show TbW w3.drew from ⟨HT3.out.tabs, HT3.out.two⟩) hl).mono ?_
      rintro e w4 ⟨rfl, be⟩
      have HB4 := hid (HB3.out.trans (Below.mono (show Below w3.heap.size w3 w4 from ((Below.refl _ _).drew).trans be) HB3.out.size))
      refine hKK _ _ (fun _ => ⟨HQ.out.1.dr.below be, HQ.out.2.1.dr.below be, (be.cell (p := ⟨G, 0, none⟩) (cell_lt HQ.out.2.2.1)).trans HQ.out.2.2.1, (be.cell (p := ⟨G, 1, none⟩) (cell_lt HQ.out.2.2.1)).trans HQ.out.2.2.2⟩) ?_
      clear hKK KK
      iterate 2 (refine mix_free ?_ rfl (by kernel_rfl) (fun w' hS => ?_) ?_; (rotate_left; (go_simp; with_reducible rfl); rotate_left))
      refine mix_end (NoPanic.normal ?_)
      go_simp
      go_wp2
      go_ret
      exact ⟨by rw [HA.out]; rfl, HB4.out⟩
set_option maxHeartbeats 2000000 in
theorem place_any (m g : Nat) (E : List UInt8 → List Nat) (C : Cnt m g E) (l : List UInt8) (lw : Nat) (kv : Value) (z : Int) (w : World) (ht : TbW w) (hl : l.length ≤ 100) (hk : Kpd w lw kv (kpt l 0 (E l))) :
    Calls Tryd.prog 44 #[.agg #[.string ⟨l.toArray⟩, .func (.func m) #[] #[], .int .i64 (E l).length, kv], .int .i64 z] w fun e w' => e = .returned (.int .i64 (plcB (E l) z l.length : Nat)) ∧ Below w.heap.size w w' := by
  have HT := hid ht
  have HC := hid C
  have hLn : (E l).length ≤ l.length := rise_len (C.scl.rise l) (C.scl.lt l)
  obtain he | ⟨p, tl, he⟩ : E l = [] ∨ ∃ p tl, E l = p :: tl := by
    cases E l with
    | nil => exact .inl rfl
    | cons p tl => exact .inr ⟨p, tl, rfl⟩
  · rw [he] at hk ⊢
    obtain rfl : kv = .slice none 0 0 := hk
    have HA := hid (show plcB [] z l.length = if z < 0 then 0 else l.length from rfl)
    have HB := hid (show Below w.heap.size w ((w.alloc (.cells #[.string ⟨l.toArray⟩, .func (.func m) #[] #[], .int .i64 (([] : List Nat).length : Nat), .slice none 0 0] 75)).alloc (.cells #[.int .i64 z] 3)) from ((Below.refl _ _).alloc (Nat.le_refl _) _).alloc (by simp) _)
    clear he hLn ht C
    go_enter Tryd.func44, Tryd.ntmps44
    by_cases hz : z < 0
    · rw [if_pos hz] at HA
      go_wp2
      go_ret
      exact ⟨by rw [HA.out]; rfl, HB.out⟩
    · rw [if_neg hz] at HA
      have hz0 : 0 ≤ z := by omega
      go_wp2
      go_ret
      exact ⟨by rw [HA.out]; rfl, HB.out⟩
  · have HE := hid he
    rw [kpt_all C.scl l p tl he] at hk
    obtain ⟨G, c, rfl, _, hG, g0, g1⟩ := hk
    obtain ⟨n, hn⟩ : ∃ n, n = (E l).length := ⟨_, rfl⟩
    have HNN := hid hn
    rw [← hn]
    have hLn' : n ≤ l.length := by rw [HNN.out]; exact hLn
    have b0 := (Cb.new w #[.string ⟨l.toArray⟩, .func (.func m) #[] #[], .int .i64 (n : Nat), .slice (some ⟨G, 0, none⟩) 1 c] 75).alloc (.cells #[.int .i64 z] 3)
    have b1 := Cb.new (w.alloc (.cells #[.string ⟨l.toArray⟩, .func (.func m) #[] #[], .int .i64 (n : Nat), .slice (some ⟨G, 0, none⟩) 1 c] 75)) #[.int .i64 z] 3
    have hB : Below w.heap.size w ((w.alloc (.cells #[.string ⟨l.toArray⟩, .func (.func m) #[] #[], .int .i64 (n : Nat), .slice (some ⟨G, 0, none⟩) 1 c] 75)).alloc (.cells #[.int .i64 z] 3)) := ((Below.refl _ _).alloc (Nat.le_refl _) _).alloc (by simp) _
    rw [World.size_alloc] at b1
    have c0 := (hB.cell (p := ⟨G, 0, none⟩) hG).trans g0
    have c1 := (hB.cell (p := ⟨G, 1, none⟩) hG).trans g1
    have HT2 := hid (HT.out.below hB)
    obtain ⟨w2, hw2⟩ : ∃ w2, w2 = (w.alloc (.cells #[.string ⟨l.toArray⟩, .func (.func m) #[] #[], .int .i64 (n : Nat), .slice (some ⟨G, 0, none⟩) 1 c] 75)).alloc (.cells #[.int .i64 z] 3) := ⟨_, rfl⟩
    have HFL := hid (place1_any l m G c (n : Nat) z 0 w.heap.size (w.heap.size + 1) w2 (by rw [hw2]; exact b0) (by rw [hw2]; exact b1) (by rw [hw2]; exact c0))
    have HSR := hid (search1_any 70 w.heap.size (w.heap.size + 1) _ w2 Tryd.callS2 HFL.out)
    rw [← hw2] at b0 b1 hB c0 c1 HT2
    have HB0 := hid b0
    have HB1 := hid b1
    have HBB := hid hB
    have HG0 := hid c0
    have HG1 := hid c1
    have hGs : G < w2.heap.size := by have := hB.size; omega
    have HGS := hid hGs
    have hpl : p < l.length := C.scl.lt l p (by rw [he]; exact List.mem_cons_self ..)
    go_enter Tryd.func44, Tryd.ntmps44
    by_cases hz : z < 0
    · have HV := hid (show plcB (E l) z l.length = 0 from if_pos hz)
      rw [hw2] at HBB
      clear b0 b1 hB c0 c1 he hn ht C hLn g0 g1 HFL HSR hw2
      go_wp2
      go_ret
      exact ⟨by rw [HV.out]; rfl, HBB.out⟩
    by_cases hzn : (n : Int) ≤ z
    · have HV := hid (show plcB (E l) z l.length = l.length by
        unfold plcB
        rw [if_neg hz, List.getElem?_eq_none (by rw [← HNN.out]; omega)]; rfl)
      rw [hw2] at HBB
      clear b0 b1 hB c0 c1 he hn ht C hLn g0 g1 HFL HSR hw2
      go_wp2
      go_ret
      exact ⟨by rw [HV.out]; rfl, HBB.out⟩
    obtain ⟨j, rfl⟩ : ∃ j : Nat, z = j := ⟨z.toNat, by omega⟩
    have HA := hid (show plcB (E l) j l.length = (rch (j : Nat) (l.length : Nat) (E l) 0 p).2 by
      have h := rch_place (l.length : Nat) (E l) 0 p j (fun q hq => by have := C.scl.lt l q hq; omega) (by rw [← HNN.out]; omega)
      rw [Nat.zero_add] at h
      unfold plcB
      rw [if_neg hz, h, Int.toNat_natCast]
      have hj : j < (E l).length := by rw [← HNN.out]; omega
      rw [List.getElem?_eq_getElem hj]; rfl)
    have hjn : ¬ (j : Int) < ((0 : Nat) : Int) := by omega
    rw [decide_eq_false hjn, show sv false = 1 from rfl] at HSR
    clear b0 b1 hB c0 c1 he hn ht C hLn g0 g1 HFL hjn
    go_wp2_with fail
    rw [← hw2]
    refine HSR.out.mono ?_
    rintro e w3 ⟨rfl, be⟩
    have HB3 := hid (HBB.out.trans (be.mono (by have := HBB.out.size; omega)))
    have HQ := hid (show Cb w3 w.heap.size #[.string ⟨l.toArray⟩, .func (.func m) #[] #[], .int .i64 (n : Nat), .slice (some ⟨G, 0, none⟩) 1 c] 75 ∧ Cb w3 (w.heap.size + 1) #[.int .i64 (j : Int)] 3 ∧ w3.cell? ⟨G, 0, none⟩ = some (.int .i64 (0 : Nat)) ∧ w3.cell? ⟨G, 1, none⟩ = some (.int .i64 p) from ⟨HB0.out.below be, HB1.out.below be, (be.cell (p := ⟨G, 0, none⟩) HGS.out).trans HG0.out, (be.cell (p := ⟨G, 1, none⟩) HGS.out).trans HG1.out⟩)
    have HT3 := hid (HT2.out.below be)
    clear be hw2
    have hw0 : IntKind.i64.wrap 0 = 0 := by rw [IntKind.wrap_i64]; omega
    go_wp2_with fail
    refine wp_region_mix [(0, true), (1, true), (2, true), (3, true), (4, true), (5, true), (6, true), (7, true), (8, true), (9, true), (10, true), (11, false), (12, true), (13, true)] (fun w' => Cb w' w.heap.size #[.string ⟨l.toArray⟩, .func (.func m) #[] #[], .int .i64 (n : Nat), .slice (some ⟨G, 0, none⟩) 1 c] 75 ∧ Cb w' (w.heap.size + 1) #[.int .i64 (j : Int)] 3 ∧ w'.cell? ⟨G, 0, none⟩ = some (.int .i64 (0 : Nat)) ∧ w'.cell? ⟨G, 1, none⟩ = some (.int .i64 p)) (fun _ => false) (by kernel_rfl) (by kernel_rfl) (fun j hj => by cases hj) rfl (by kernel_rfl) HQ.out ?_
    iterate 11 (refine mix_free ?_ rfl (by kernel_rfl) (fun w' hS => ?_) ?_; (rotate_left; (have z0 := hS.1.cell 0; have z1 := hS.1.cell 1; have z2 := hS.1.cell 2; have z3 := hS.1.cell 3; have z4 := hS.2.1.cell 0; have z5 := hS.2.2.1; have z6 := hS.2.2.2; simp only [List.getElem?_toArray, List.getElem?_cons_zero, List.getElem?_cons_succ] at z0 z1 z2 z3 z4; go_simp; with_reducible rfl); rotate_left))
    refine mix_go rfl (by kernel_rfl) fun KK hKK => ?_
    go_simp
    refine (reach_any m g E HC.out l p tl HE.out (n : Nat) (some ⟨G, 0, none⟩) 1 c (j : Nat) (l.length : Nat) w3.drew (show TbW w3.drew from ⟨HT3.out.tabs, HT3.out.two⟩) hl).mono ?_
    rintro e w4 ⟨rfl, be⟩
    have HB4 := hid (HB3.out.trans (Below.mono (show Below w3.heap.size w3 w4 from ((Below.refl _ _).drew).trans be) HB3.out.size))
    refine hKK _ _ (fun _ => ⟨HQ.out.1.dr.below be, HQ.out.2.1.dr.below be, (be.cell (p := ⟨G, 0, none⟩) (cell_lt HQ.out.2.2.1)).trans HQ.out.2.2.1, (be.cell (p := ⟨G, 1, none⟩) (cell_lt HQ.out.2.2.1)).trans HQ.out.2.2.2⟩) ?_
    clear hKK KK
    iterate 2 (refine mix_free ?_ rfl (by kernel_rfl) (fun w' hS => ?_) ?_; (rotate_left; (go_simp; with_reducible rfl); rotate_left))
    refine mix_end (NoPanic.normal ?_)
    go_simp
    go_wp2
    go_ret
    exact ⟨by rw [HA.out]; rfl, HB4.out⟩
end Go.Proofs.YtffbdnlfknomnaaDoor.Wt
/- An index in memory (package places), and the contracts of what is asked of it by a count. -/
namespace Go.Proofs.YtffbdnlfknomnaaDoor.Wt
open Go.RowKit Go.Shelf
attribute [local go_sem] spot_f0 spot_f1

theorem scale_f2 (a b c d : Value) (w : World) : (Instr.field 75 (.agg #[a, b, c, d]) 2).run Tryd.prog w = .ok c w := by kernel_rfl
attribute [local go_sem] scale_f2
/-- The cells of an index. -/
def ixc (l : List UInt8) (ku kr kl ke : Value) : Array Value := #[.string ⟨l.toArray⟩, .string ⟨l.toArray⟩, .func (.func 34) #[] #[], .int .i64 ((unitsL l).length : Nat), ku, .string ⟨l.toArray⟩, .func (.func 35) #[] #[], .int .i64 ((runesL l).length : Nat), kr, .string ⟨l.toArray⟩, .func (.func 36) #[] #[], .int .i64 ((lettersL l).length : Nat), kl, .string ⟨l.toArray⟩, .func (.func 37) #[] #[], .int .i64 ((endsL l).length : Nat), ke]
/-- An index. -/
structure IxAt (w : World) (X : Nat) (l : List UInt8) (ku kr kl ke : Value) : Prop where
  cb : Cb w X (ixc l ku kr kl ke) 78
  ju : Kpd w 0 ku (kpt l 0 (unitsL l))
  jr : Kpd w 0 kr (kpt l 0 (runesL l))
  jl : Kpd w 0 kl (kpt l 0 (lettersL l))
  je : Kpd w 0 ke (kpt l 0 (endsL l))
theorem IxAt.below {w w' : World} {X : Nat} {l : List UInt8} {ku kr kl ke : Value} (h : IxAt w X l ku kr kl ke) (hb : Below w.heap.size w w') : IxAt w' X l ku kr kl ke :=
  ⟨h.cb.below hb, h.ju.below hb, h.jr.below hb, h.jl.below hb, h.je.below hb⟩
theorem IxAt.dr {w : World} {X : Nat} {l : List UInt8} {ku kr kl ke : Value} (h : IxAt w X l ku kr kl ke) : IxAt w.drew X l ku kr kl ke := h.below ((Below.refl _ _).drew)
theorem TbW.dr {w : World} (h : TbW w) : TbW w.drew := ⟨h.tabs, h.two⟩
/-- A kept slice. -/
theorem Kpd.slice {w : World} {lo : Nat} {kv : Value} {o : Option (Nat × Nat)} (h : Kpd w lo kv o) : ∃ sg sl sc, kv = .slice sg sl sc := by
  cases o with
  | none => exact ⟨none, 0, 0, h⟩
  | some y => obtain ⟨g, c, h1, _⟩ := h; exact ⟨_, _, _, h1⟩
set_option maxHeartbeats 2000000 in
theorem new_any (l : List UInt8) (w : World) (ht : TbW w) (hl : l.length ≤ 100) :
    Calls Tryd.prog 12 #[.string ⟨l.toArray⟩] w fun e w' => ∃ X ku kr kl ke, e = .returned (.pointer (some ⟨X, 0, none⟩)) ∧ IxAt w' X l ku kr kl ke ∧ Below w.heap.size w w' := by
  have HT := hid ht
  clear ht
  go_enter Tryd.func12, Tryd.ntmps12
  go_wp2_with fail
  refine (newScale_any _ _ _ units_cnt l w HT.out hl).mono ?_
  rintro e w1 ⟨ku, rfl, hk1, be1⟩
  have HT1 := hid (HT.out.below be1)
  have HK1 := hid hk1
  have HB1 := hid be1
  obtain ⟨sg1, sl1, sc1, rfl⟩ := hk1.slice
  clear hk1 be1
  go_wp2_with fail
  refine (newScale_any _ _ _ runes_cnt l w1 HT1.out hl).mono ?_
  rintro e w2 ⟨kr, rfl, hk2, be2⟩
  have HT2 := hid (HT1.out.below be2)
  have HK2 := hid hk2
  have HB2 := hid be2
  obtain ⟨sg2, sl2, sc2, rfl⟩ := hk2.slice
  clear hk2 be2
  go_wp2_with fail
  refine (newScale_any _ _ _ letters_cnt l w2 HT2.out hl).mono ?_
  rintro e w3 ⟨kl, rfl, hk3, be3⟩
  have HT3 := hid (HT2.out.below be3)
  have HK3 := hid hk3
  have HB3 := hid be3
  obtain ⟨sg3, sl3, sc3, rfl⟩ := hk3.slice
  clear hk3 be3
  go_wp2_with fail
  refine (newScale_any _ _ _ ends_cnt l w3 HT3.out hl).mono ?_
  rintro e w4 ⟨ke, rfl, hk4, be4⟩
  have HT4 := hid (HT3.out.below be4)
  have HK4 := hid hk4
  have HB4 := hid be4
  obtain ⟨sg4, sl4, sc4, rfl⟩ := hk4.slice
  clear hk4 be4
  go_wp2
  go_ret
  have hA : Below w4.heap.size w4 (w4.alloc (.cells (ixc l (.slice sg1 sl1 sc1) (.slice sg2 sl2 sc2) (.slice sg3 sl3 sc3) (.slice sg4 sl4 sc4)) 78)) := (Below.refl _ _).alloc (Nat.le_refl _) _
  have z3 := HB4.out
  have z2 := HB3.out
  have z1 := HB2.out
  refine ⟨w4.heap.size, .slice sg1 sl1 sc1, .slice sg2 sl2 sc2, .slice sg3 sl3 sc3, .slice sg4 sl4 sc4, rfl, ⟨Cb.new w4 _ _, ?_, ?_, ?_, ?_⟩, ?_⟩
  · exact ((((HK1.out.below z1).below z2).below z3).below hA).low (Nat.zero_le _)
  · exact (((HK2.out.below z2).below z3).below hA).low (Nat.zero_le _)
  · exact ((HK3.out.below z3).below hA).low (Nat.zero_le _)
  · exact (HK4.out.below hA).low (Nat.zero_le _)
  · have y1 := HB1.out.size
    have y2 := HB2.out.size
    have y3 := HB3.out.size
    have y4 := HB4.out.size
    exact (((HB1.out.trans (HB2.out.mono (by omega))).trans (HB3.out.mono (by omega))).trans (HB4.out.mono (by omega))).trans (hA.mono (by omega))
theorem IxAt.cu {w : World} {X : Nat} {l : List UInt8} {ku kr kl ke : Value} (h : IxAt w X l ku kr kl ke) : w.cell? ⟨X, 1, none⟩ = some (.string ⟨l.toArray⟩) ∧ w.cell? ⟨X, 2, none⟩ = some (.func (.func 34) #[] #[]) ∧ w.cell? ⟨X, 3, none⟩ = some (.int .i64 ((unitsL l).length : Nat)) ∧ w.cell? ⟨X, 4, none⟩ = some ku :=
  ⟨h.cb.cell 1, h.cb.cell 2, h.cb.cell 3, h.cb.cell 4⟩
theorem IxAt.cr {w : World} {X : Nat} {l : List UInt8} {ku kr kl ke : Value} (h : IxAt w X l ku kr kl ke) : w.cell? ⟨X, 5, none⟩ = some (.string ⟨l.toArray⟩) ∧ w.cell? ⟨X, 6, none⟩ = some (.func (.func 35) #[] #[]) ∧ w.cell? ⟨X, 7, none⟩ = some (.int .i64 ((runesL l).length : Nat)) ∧ w.cell? ⟨X, 8, none⟩ = some kr :=
  ⟨h.cb.cell 5, h.cb.cell 6, h.cb.cell 7, h.cb.cell 8⟩
theorem IxAt.cl {w : World} {X : Nat} {l : List UInt8} {ku kr kl ke : Value} (h : IxAt w X l ku kr kl ke) : w.cell? ⟨X, 9, none⟩ = some (.string ⟨l.toArray⟩) ∧ w.cell? ⟨X, 10, none⟩ = some (.func (.func 36) #[] #[]) ∧ w.cell? ⟨X, 11, none⟩ = some (.int .i64 ((lettersL l).length : Nat)) ∧ w.cell? ⟨X, 12, none⟩ = some kl :=
  ⟨h.cb.cell 9, h.cb.cell 10, h.cb.cell 11, h.cb.cell 12⟩
theorem IxAt.ce {w : World} {X : Nat} {l : List UInt8} {ku kr kl ke : Value} (h : IxAt w X l ku kr kl ke) : w.cell? ⟨X, 13, none⟩ = some (.string ⟨l.toArray⟩) ∧ w.cell? ⟨X, 14, none⟩ = some (.func (.func 37) #[] #[]) ∧ w.cell? ⟨X, 15, none⟩ = some (.int .i64 ((endsL l).length : Nat)) ∧ w.cell? ⟨X, 16, none⟩ = some ke :=
  ⟨h.cb.cell 13, h.cb.cell 14, h.cb.cell 15, h.cb.cell 16⟩
theorem IxAt.ct {w : World} {X : Nat} {l : List UInt8} {ku kr kl ke : Value} (h : IxAt w X l ku kr kl ke) : w.cell? ⟨X, 0, none⟩ = some (.string ⟨l.toArray⟩) := h.cb.cell 0
set_option maxHeartbeats 1000000 in
theorem scale0_any (X : Nat) (l : List UInt8) (ku kr kl ke : Value) (w : World) (h : IxAt w X l ku kr kl ke) :
    Calls Tryd.prog 41 #[.pointer (some ⟨X, 0, none⟩), .int .i64 0] w fun e w' => e = .returned (.agg #[.string ⟨l.toArray⟩, .func (.func 34) #[] #[], .int .i64 ((unitsL l).length : Nat), ku]) ∧ Below w.heap.size w w' := by
  have hlt : X < w.heap.size := h.cb.lt
  have HA := hid (h.cb.alloc (.cells #[.string ⟨#[]⟩, .nilFunc, .int .i64 0, .slice none 0 0] 75))
  have h' : IxAt (w.alloc (.cells #[.string ⟨#[]⟩, .nilFunc, .int .i64 0, .slice none 0 0] 75)) X l ku kr kl ke := h.below ((Below.refl _ _).alloc (Nat.le_refl _) _)
  obtain ⟨c0, c1, c2, c3⟩ := h'.cu
  obtain ⟨sg, sl, sc, rfl⟩ := h.ju.slice
  obtain ⟨n, hn⟩ : ∃ n, n = (unitsL l).length := ⟨_, rfl⟩
  rw [← hn] at c2 ⊢
  clear h h' HA hn
  go_enter Tryd.func41, Tryd.ntmps41
  go_wp2
  refine bodyPost_ret (results_cell_row rfl _ _ w.heap.size 75 #[.string ⟨l.toArray⟩, .func (.func 34) #[] #[], .int .i64 (n : Nat), .slice sg sl sc] (0, 0) _ rfl (World.alloc_heap_new w _) Tryd.underlying75 rfl (by kernel_rfl)) rfl ?_
  exact ⟨rfl, (Below.refl _ _).alloc (Nat.le_refl _) _⟩
theorem len0_any (X : Nat) (l : List UInt8) (ku kr kl ke : Value) (w : World) (h : IxAt w X l ku kr kl ke) :
    Calls Tryd.prog 15 #[.pointer (some ⟨X, 0, none⟩), .int .i64 0] w fun e w' => e = .returned (.int .i64 ((unitsL l).length : Nat)) ∧ Below w.heap.size w w' := by
  have HI := hid h
  clear h
  go_enter Tryd.func15, Tryd.ntmps15
  go_wp2_with fail
  refine (scale0_any X l ku kr kl ke w HI.out).mono ?_
  rintro e w1 ⟨rfl, be⟩
  have HB := hid be
  clear be
  go_wp2
  go_ret
  exact ⟨rfl, HB.out⟩
theorem to0_any (X : Nat) (l : List UInt8) (ku kr kl ke : Value) (w : World) (h : IxAt w X l ku kr kl ke) (z : Int) (ht : TbW w) (hl : l.length ≤ 100) :
    Calls Tryd.prog 16 #[.pointer (some ⟨X, 0, none⟩), .int .i64 0, .int .i64 z] w fun e w' => e = .returned (.int .i64 (cntB (unitsL l) z : Nat)) ∧ Below w.heap.size w w' := by
  have HI := hid h
  have HT := hid ht
  clear h ht
  go_enter Tryd.func16, Tryd.ntmps16
  go_wp2_with fail
  refine (scale0_any X l ku kr kl ke w HI.out).mono ?_
  rintro e w1 ⟨rfl, be⟩
  have HB := hid be
  clear be
  go_wp2_with fail
  refine (below_any _ _ _ units_cnt l 0 ku z w1 (HT.out.below HB.out) hl (HI.out.ju.below HB.out)).mono ?_
  rintro e w2 ⟨rfl, be2⟩
  have HB2 := hid (HB.out.trans (be2.mono HB.out.size))
  clear be2
  go_wp2
  go_ret
  exact ⟨rfl, HB2.out⟩
theorem from0_any (X : Nat) (l : List UInt8) (ku kr kl ke : Value) (w : World) (h : IxAt w X l ku kr kl ke) (z : Int) (ht : TbW w) (hl : l.length ≤ 100) :
    Calls Tryd.prog 17 #[.pointer (some ⟨X, 0, none⟩), .int .i64 0, .int .i64 z] w fun e w' => e = .returned (.int .i64 (plcB (unitsL l) z l.length : Nat)) ∧ Below w.heap.size w w' := by
  have HI := hid h
  have HT := hid ht
  clear h ht
  go_enter Tryd.func17, Tryd.ntmps17
  go_wp2_with fail
  refine (scale0_any X l ku kr kl ke w HI.out).mono ?_
  rintro e w1 ⟨rfl, be⟩
  have HB := hid be
  clear be
  go_wp2_with fail
  refine (place_any _ _ _ units_cnt l 0 ku z w1 (HT.out.below HB.out) hl (HI.out.ju.below HB.out)).mono ?_
  rintro e w2 ⟨rfl, be2⟩
  have HB2 := hid (HB.out.trans (be2.mono HB.out.size))
  clear be2
  go_wp2
  go_ret
  exact ⟨rfl, HB2.out⟩
set_option maxHeartbeats 1000000 in
theorem scale1_any (X : Nat) (l : List UInt8) (ku kr kl ke : Value) (w : World) (h : IxAt w X l ku kr kl ke) :
    Calls Tryd.prog 41 #[.pointer (some ⟨X, 0, none⟩), .int .i64 1] w fun e w' => e = .returned (.agg #[.string ⟨l.toArray⟩, .func (.func 35) #[] #[], .int .i64 ((runesL l).length : Nat), kr]) ∧ Below w.heap.size w w' := by
  have hlt : X < w.heap.size := h.cb.lt
  have HA := hid (h.cb.alloc (.cells #[.string ⟨#[]⟩, .nilFunc, .int .i64 0, .slice none 0 0] 75))
  have h' : IxAt (w.alloc (.cells #[.string ⟨#[]⟩, .nilFunc, .int .i64 0, .slice none 0 0] 75)) X l ku kr kl ke := h.below ((Below.refl _ _).alloc (Nat.le_refl _) _)
  obtain ⟨c0, c1, c2, c3⟩ := h'.cr
  obtain ⟨sg, sl, sc, rfl⟩ := h.jr.slice
  obtain ⟨n, hn⟩ : ∃ n, n = (runesL l).length := ⟨_, rfl⟩
  rw [← hn] at c2 ⊢
  clear h h' HA hn
  go_enter Tryd.func41, Tryd.ntmps41
  go_wp2
  refine bodyPost_ret (results_cell_row rfl _ _ w.heap.size 75 #[.string ⟨l.toArray⟩, .func (.func 35) #[] #[], .int .i64 (n : Nat), .slice sg sl sc] (0, 0) _ rfl (World.alloc_heap_new w _) Tryd.underlying75 rfl (by kernel_rfl)) rfl ?_
  exact ⟨rfl, (Below.refl _ _).alloc (Nat.le_refl _) _⟩
theorem len1_any (X : Nat) (l : List UInt8) (ku kr kl ke : Value) (w : World) (h : IxAt w X l ku kr kl ke) :
    Calls Tryd.prog 15 #[.pointer (some ⟨X, 0, none⟩), .int .i64 1] w fun e w' => e = .returned (.int .i64 ((runesL l).length : Nat)) ∧ Below w.heap.size w w' := by
  have HI := hid h
  clear h
  go_enter Tryd.func15, Tryd.ntmps15
  go_wp2_with fail
  refine (scale1_any X l ku kr kl ke w HI.out).mono ?_
  rintro e w1 ⟨rfl, be⟩
  have HB := hid be
  clear be
  go_wp2
  go_ret
  exact ⟨rfl, HB.out⟩
theorem to1_any (X : Nat) (l : List UInt8) (ku kr kl ke : Value) (w : World) (h : IxAt w X l ku kr kl ke) (z : Int) (ht : TbW w) (hl : l.length ≤ 100) :
    Calls Tryd.prog 16 #[.pointer (some ⟨X, 0, none⟩), .int .i64 1, .int .i64 z] w fun e w' => e = .returned (.int .i64 (cntB (runesL l) z : Nat)) ∧ Below w.heap.size w w' := by
  have HI := hid h
  have HT := hid ht
  clear h ht
  go_enter Tryd.func16, Tryd.ntmps16
  go_wp2_with fail
  refine (scale1_any X l ku kr kl ke w HI.out).mono ?_
  rintro e w1 ⟨rfl, be⟩
  have HB := hid be
  clear be
  go_wp2_with fail
  refine (below_any _ _ _ runes_cnt l 0 kr z w1 (HT.out.below HB.out) hl (HI.out.jr.below HB.out)).mono ?_
  rintro e w2 ⟨rfl, be2⟩
  have HB2 := hid (HB.out.trans (be2.mono HB.out.size))
  clear be2
  go_wp2
  go_ret
  exact ⟨rfl, HB2.out⟩
theorem from1_any (X : Nat) (l : List UInt8) (ku kr kl ke : Value) (w : World) (h : IxAt w X l ku kr kl ke) (z : Int) (ht : TbW w) (hl : l.length ≤ 100) :
    Calls Tryd.prog 17 #[.pointer (some ⟨X, 0, none⟩), .int .i64 1, .int .i64 z] w fun e w' => e = .returned (.int .i64 (plcB (runesL l) z l.length : Nat)) ∧ Below w.heap.size w w' := by
  have HI := hid h
  have HT := hid ht
  clear h ht
  go_enter Tryd.func17, Tryd.ntmps17
  go_wp2_with fail
  refine (scale1_any X l ku kr kl ke w HI.out).mono ?_
  rintro e w1 ⟨rfl, be⟩
  have HB := hid be
  clear be
  go_wp2_with fail
  refine (place_any _ _ _ runes_cnt l 0 kr z w1 (HT.out.below HB.out) hl (HI.out.jr.below HB.out)).mono ?_
  rintro e w2 ⟨rfl, be2⟩
  have HB2 := hid (HB.out.trans (be2.mono HB.out.size))
  clear be2
  go_wp2
  go_ret
  exact ⟨rfl, HB2.out⟩
set_option maxHeartbeats 1000000 in
theorem scale3_any (X : Nat) (l : List UInt8) (ku kr kl ke : Value) (w : World) (h : IxAt w X l ku kr kl ke) :
    Calls Tryd.prog 41 #[.pointer (some ⟨X, 0, none⟩), .int .i64 3] w fun e w' => e = .returned (.agg #[.string ⟨l.toArray⟩, .func (.func 36) #[] #[], .int .i64 ((lettersL l).length : Nat), kl]) ∧ Below w.heap.size w w' := by
  have hlt : X < w.heap.size := h.cb.lt
  have HA := hid (h.cb.alloc (.cells #[.string ⟨#[]⟩, .nilFunc, .int .i64 0, .slice none 0 0] 75))
  have h' : IxAt (w.alloc (.cells #[.string ⟨#[]⟩, .nilFunc, .int .i64 0, .slice none 0 0] 75)) X l ku kr kl ke := h.below ((Below.refl _ _).alloc (Nat.le_refl _) _)
  obtain ⟨c0, c1, c2, c3⟩ := h'.cl
  obtain ⟨sg, sl, sc, rfl⟩ := h.jl.slice
  obtain ⟨n, hn⟩ : ∃ n, n = (lettersL l).length := ⟨_, rfl⟩
  rw [← hn] at c2 ⊢
  clear h h' HA hn
  go_enter Tryd.func41, Tryd.ntmps41
  go_wp2
  refine bodyPost_ret (results_cell_row rfl _ _ w.heap.size 75 #[.string ⟨l.toArray⟩, .func (.func 36) #[] #[], .int .i64 (n : Nat), .slice sg sl sc] (0, 0) _ rfl (World.alloc_heap_new w _) Tryd.underlying75 rfl (by kernel_rfl)) rfl ?_
  exact ⟨rfl, (Below.refl _ _).alloc (Nat.le_refl _) _⟩
theorem len3_any (X : Nat) (l : List UInt8) (ku kr kl ke : Value) (w : World) (h : IxAt w X l ku kr kl ke) :
    Calls Tryd.prog 15 #[.pointer (some ⟨X, 0, none⟩), .int .i64 3] w fun e w' => e = .returned (.int .i64 ((lettersL l).length : Nat)) ∧ Below w.heap.size w w' := by
  have HI := hid h
  clear h
  go_enter Tryd.func15, Tryd.ntmps15
  go_wp2_with fail
  refine (scale3_any X l ku kr kl ke w HI.out).mono ?_
  rintro e w1 ⟨rfl, be⟩
  have HB := hid be
  clear be
  go_wp2
  go_ret
  exact ⟨rfl, HB.out⟩
theorem to3_any (X : Nat) (l : List UInt8) (ku kr kl ke : Value) (w : World) (h : IxAt w X l ku kr kl ke) (z : Int) (ht : TbW w) (hl : l.length ≤ 100) :
    Calls Tryd.prog 16 #[.pointer (some ⟨X, 0, none⟩), .int .i64 3, .int .i64 z] w fun e w' => e = .returned (.int .i64 (cntB (lettersL l) z : Nat)) ∧ Below w.heap.size w w' := by
  have HI := hid h
  have HT := hid ht
  clear h ht
  go_enter Tryd.func16, Tryd.ntmps16
  go_wp2_with fail
  refine (scale3_any X l ku kr kl ke w HI.out).mono ?_
  rintro e w1 ⟨rfl, be⟩
  have HB := hid be
  clear be
  go_wp2_with fail
  refine (below_any _ _ _ letters_cnt l 0 kl z w1 (HT.out.below HB.out) hl (HI.out.jl.below HB.out)).mono ?_
  rintro e w2 ⟨rfl, be2⟩
  have HB2 := hid (HB.out.trans (be2.mono HB.out.size))
  clear be2
  go_wp2
  go_ret
  exact ⟨rfl, HB2.out⟩
theorem from3_any (X : Nat) (l : List UInt8) (ku kr kl ke : Value) (w : World) (h : IxAt w X l ku kr kl ke) (z : Int) (ht : TbW w) (hl : l.length ≤ 100) :
    Calls Tryd.prog 17 #[.pointer (some ⟨X, 0, none⟩), .int .i64 3, .int .i64 z] w fun e w' => e = .returned (.int .i64 (plcB (lettersL l) z l.length : Nat)) ∧ Below w.heap.size w w' := by
  have HI := hid h
  have HT := hid ht
  clear h ht
  go_enter Tryd.func17, Tryd.ntmps17
  go_wp2_with fail
  refine (scale3_any X l ku kr kl ke w HI.out).mono ?_
  rintro e w1 ⟨rfl, be⟩
  have HB := hid be
  clear be
  go_wp2_with fail
  refine (place_any _ _ _ letters_cnt l 0 kl z w1 (HT.out.below HB.out) hl (HI.out.jl.below HB.out)).mono ?_
  rintro e w2 ⟨rfl, be2⟩
  have HB2 := hid (HB.out.trans (be2.mono HB.out.size))
  clear be2
  go_wp2
  go_ret
  exact ⟨rfl, HB2.out⟩
theorem len2_any (X : Nat) (l : List UInt8) (ku kr kl ke : Value) (w : World) (h : IxAt w X l ku kr kl ke) :
    Calls Tryd.prog 15 #[.pointer (some ⟨X, 0, none⟩), .int .i64 2] w fun e w' => e = .returned (.int .i64 l.length) ∧ w' = w := by
  have c0 := h.ct
  clear h
  go_enter Tryd.func15, Tryd.ntmps15
  go_wp2
  go_ret
  exact ⟨rfl, rfl⟩
theorem within_any (X : Nat) (l : List UInt8) (ku kr kl ke : Value) (w : World) (h : IxAt w X l ku kr kl ke) (z : Int) (h0 : 0 ≤ z) (h1 : z ≤ l.length) :
    Calls Tryd.prog 42 #[.pointer (some ⟨X, 0, none⟩), .int .i64 z] w fun e w' => e = .returned (.int .i64 z) ∧ w' = w := by
  have c0 := h.ct
  have hmx : max z 0 = z := by omega
  have hmn : min z (l.length : Int) = z := by omega
  clear h
  go_enter Tryd.func42, Tryd.ntmps42
  go_wp2
  go_ret
  exact ⟨rfl, rfl⟩
theorem to2_any (X : Nat) (l : List UInt8) (ku kr kl ke : Value) (w : World) (h : IxAt w X l ku kr kl ke) (z : Int) (h0 : 0 ≤ z) (h1 : z ≤ l.length) :
    Calls Tryd.prog 16 #[.pointer (some ⟨X, 0, none⟩), .int .i64 2, .int .i64 z] w fun e w' => e = .returned (.int .i64 z) ∧ w' = w := by
  have HI := hid h
  clear h
  go_enter Tryd.func16, Tryd.ntmps16
  go_wp2_with fail
  refine (within_any X l ku kr kl ke w HI.out z h0 h1).mono ?_
  rintro e w1 ⟨rfl, hw1⟩
  obtain rfl := hw1.symm
  clear hw1
  go_wp2
  go_ret
  exact ⟨rfl, rfl⟩
theorem from2_any (X : Nat) (l : List UInt8) (ku kr kl ke : Value) (w : World) (h : IxAt w X l ku kr kl ke) (z : Int) (h0 : 0 ≤ z) (h1 : z ≤ l.length) :
    Calls Tryd.prog 17 #[.pointer (some ⟨X, 0, none⟩), .int .i64 2, .int .i64 z] w fun e w' => e = .returned (.int .i64 z) ∧ w' = w := by
  have HI := hid h
  clear h
  go_enter Tryd.func17, Tryd.ntmps17
  go_wp2_with fail
  refine (within_any X l ku kr kl ke w HI.out z h0 h1).mono ?_
  rintro e w1 ⟨rfl, hw1⟩
  obtain rfl := hw1.symm
  clear hw1
  go_wp2
  go_ret
  exact ⟨rfl, rfl⟩
theorem lines_any (X : Nat) (l : List UInt8) (ku kr kl ke : Value) (w : World) (h : IxAt w X l ku kr kl ke) (hl : (endsL l).length ≤ 1000) :
    Calls Tryd.prog 18 #[.pointer (some ⟨X, 0, none⟩)] w fun e w' => e = .returned (.int .i64 (((endsL l).length : Int) + 1)) ∧ w' = w := by
  obtain ⟨c0, c1, c2, c3⟩ := h.ce
  obtain ⟨n, hn⟩ : ∃ n, n = (endsL l).length := ⟨_, rfl⟩
  rw [← hn] at c2 hl ⊢
  clear h c0 c1 c3 hn
  go_enter Tryd.func18, Tryd.ntmps18
  go_wp2
  go_ret
  exact ⟨rfl, rfl⟩
set_option maxHeartbeats 2000000 in
theorem lettersIn_any (X : Nat) (l : List UInt8) (ku kr kl ke : Value) (w : World) (h : IxAt w X l ku kr kl ke) (f t : Int) (ht : TbW w) (hl : l.length ≤ 100) :
    Calls Tryd.prog 45 #[.pointer (some ⟨X, 0, none⟩), .int .i64 f, .int .i64 t] w fun e w' => e = .returned (.int .i64 ((cntB (lettersL l) t : Int) - cntB (lettersL l) f)) ∧ Below w.heap.size w w' := by
  have HI := hid h
  have HT := hid ht
  have ht1 : cntB (lettersL l) t ≤ 100 := by
    have := List.length_filter_le (fun (q : Nat) => decide ((q : Int) < t)) (lettersL l)
    have h2 := rise_len (letters_scl.rise l) (letters_scl.lt l)
    unfold cntB; omega
  have hf1 : cntB (lettersL l) f ≤ 100 := by
    have := List.length_filter_le (fun (q : Nat) => decide ((q : Int) < f)) (lettersL l)
    have h2 := rise_len (letters_scl.rise l) (letters_scl.lt l)
    unfold cntB; omega
  obtain ⟨sg, sl, sc, rfl⟩ := h.jl.slice
  obtain ⟨a, ha⟩ : ∃ a, a = cntB (lettersL l) t := ⟨_, rfl⟩
  obtain ⟨b, hb⟩ : ∃ b, b = cntB (lettersL l) f := ⟨_, rfl⟩
  rw [← ha] at ht1 ⊢
  rw [← hb] at hf1 ⊢
  have HA := hid ha
  have HBb := hid hb
  have hwr : IntKind.i64.wrap ((a : Int) - b) = (a : Int) - b := by rw [IntKind.wrap_i64]; omega
  clear h ht ha hb
  go_enter Tryd.func45, Tryd.ntmps45
  go_wp2_with fail
  refine wp_region_mix [(0, true), (1, true), (2, true), (3, true), (4, true), (6, true), (7, true), (8, true), (9, true), (10, true), (5, false), (11, false), (12, true), (13, true)] (fun w' => IxAt w' X l ku kr (.slice sg sl sc) ke) (fun _ => false) (by kernel_rfl) (by kernel_rfl) (fun j hj => by cases hj) rfl (by kernel_rfl) HI.out.dr ?_
  iterate 10 (refine mix_free ?_ rfl (by kernel_rfl) (fun w' hS => ?_) ?_; (rotate_left; (obtain ⟨z0, z1, z2, z3⟩ := hS.cl; go_simp; with_reducible rfl); rotate_left))
  refine mix_go rfl (by kernel_rfl) fun KK hKK => ?_
  go_simp
  refine (below_any _ _ _ letters_cnt l 0 (.slice sg sl sc) t w.drew HT.out.dr hl HI.out.dr.jl).mono ?_
  rintro e w1 ⟨rfl, be⟩
  have HB := hid (show Below w.heap.size w w1 from ((Below.refl _ _).drew).trans be)
  rw [← HA.out]
  refine hKK _ _ (fun _ => HI.out.below HB.out) ?_
  clear hKK KK be
  refine mix_go rfl (by kernel_rfl) fun KK hKK => ?_
  go_simp
  refine (below_any _ _ _ letters_cnt l 0 (.slice sg sl sc) f w1 (HT.out.below HB.out) hl (HI.out.below HB.out).jl).mono ?_
  rintro e w2 ⟨rfl, be⟩
  have HB2 := hid (HB.out.trans (be.mono HB.out.size))
  rw [← HBb.out]
  refine hKK _ _ (fun _ => HI.out.below HB2.out) ?_
  clear hKK KK be
  iterate 2 (refine mix_free ?_ rfl (by kernel_rfl) (fun w' hS => ?_) ?_; (rotate_left; (go_simp; with_reducible rfl); rotate_left))
  refine mix_end (NoPanic.normal ?_)
  go_simp
  go_wp2
  go_ret
  exact ⟨rfl, HB2.out⟩
end Go.Proofs.YtffbdnlfknomnaaDoor.Wt
/- Lines of a text: what ends a line begins a letter; where lines begin and end. Mathematics alone. -/
namespace Go.Proofs.YtffbdnlfknomnaaDoor.Wt

/-- What a class of a CR or of an LF tells. -/
def C12 (r c : Int) : Prop := (c = 1 → r = 13) ∧ (c = 2 → r = 10)
theorem c12_ite {p : Prop} [Decidable p] {r a b : Int} (ha : C12 r a) (hb : C12 r b) : C12 r (if p then a else b) := by
  split
  · exact ha
  · exact hb
theorem gp_12 (r : Int) : C12 r (gpcls r) := by
  have h1 : C12 r (gplatin r) := by
    unfold gplatin C12
    constructor <;> (intro h; repeat' split at h; all_goals omega)
  have h2 : C12 r (gpmarks r) := by
    unfold gpmarks
    repeat (refine c12_ite ⟨fun h => (by cases h), fun h => (by cases h)⟩ ?_)
    exact ⟨fun h => (by cases h), fun h => (by cases h)⟩
  have h3 : C12 r (gpjamo r) := by
    unfold gpjamo
    repeat (refine c12_ite ⟨fun h => (by cases h), fun h => (by cases h)⟩ ?_)
    exact ⟨fun h => (by cases h), fun h => (by cases h)⟩
  have h4 : C12 r (gppunct r) := by
    unfold gppunct
    repeat (refine c12_ite ⟨fun h => (by cases h), fun h => (by cases h)⟩ ?_)
    exact ⟨fun h => (by cases h), fun h => (by cases h)⟩
  have h5 : C12 r (gpsigns r) := by
    unfold gpsigns
    repeat (refine c12_ite ⟨fun h => (by cases h), fun h => (by cases h)⟩ ?_)
    exact ⟨fun h => (by cases h), fun h => (by cases h)⟩
  have h6 : C12 r (gphigh r) := by
    unfold gphigh
    repeat (refine c12_ite ⟨fun h => (by cases h), fun h => (by cases h)⟩ ?_)
    exact ⟨fun h => (by cases h), fun h => (by cases h)⟩
  unfold gpcls
  split
  · exact h1
  split
  · exact h2
  split
  · exact h3
  split
  · exact h4
  split
  · exact h5
  split
  · exact ⟨fun h => (by cases h), fun h => (by cases h)⟩
  · exact h6
theorem isN_cases (r : Nat) (h : isN r = true) : r = 10 ∨ r = 11 ∨ r = 12 ∨ r = 13 ∨ r = 133 ∨ r = 8232 ∨ r = 8233 := by
  unfold isN at h
  simp only [Bool.or_eq_true, beq_iff_eq] at h
  omega
theorem isN_alone (r : Nat) (h : isN r = true) : galone (gpcls (r : Int)) = true := by
  rcases isN_cases r h with rfl | rfl | rfl | rfl | rfl | rfl | rfl <;> decide
theorem gbt_alone (a c : Int) (h : galone c = true) (hn : ¬ (a = 1 ∧ c = 2)) : gbt a c = 0 := by
  unfold gbt
  rw [if_neg hn, if_pos (.inr h)]
/-- A rune by its number, and its bytes. -/
theorem rune_low (l : List UInt8) (k : Nat) (hk : k < (rl l).length) (c : Nat) (hc : c < 128) (h : ((rl l)[k]).1 = c) : byt l (pos l k) = (c : Nat) ∧ pos l (k + 1) = pos l k + 1 := by
  have hd := dec_pos l k hk
  have hne := drop_ne l _ (pos_end l k hk)
  obtain ⟨h1, h2⟩ := dec_low (l.drop (pos l k)) hne (by rw [hd, h]; exact hc)
  rw [byt_drop, Nat.add_zero, hd, h] at h1
  refine ⟨h1, ?_⟩
  rw [← pos_step l k hk, h2]
/-- What ends a line begins a letter. -/
theorem ends_letter (l : List UInt8) (e : Nat) (h : e ∈ endsL l) : ∃ k, ∃ hk : k < (rl l).length, e = pos l k ∧ isN ((rl l)[k]).1 = true ∧ sec l e = false ∧ gpF l 0 = plc 0 (pcl gc ((rl l).take k)) ++ plc e (pcl gc ((rl l).drop k)) := by
  obtain ⟨y, hy, rfl⟩ := List.mem_map.1 h
  obtain ⟨hm, hp⟩ := List.mem_filter.1 hy
  obtain ⟨U, V, hUV⟩ := List.append_of_mem hm
  obtain ⟨k, hk, _, e1, e2, _⟩ := rp_at l U V y hUV
  unfold endP at hp
  simp only [Bool.and_eq_true, Bool.not_eq_true'] at hp
  refine ⟨k, hk, e1, by rw [← e2]; exact hp.1, hp.2, ?_⟩
  have hsp : pcl gc (rl l) = pcl gc ((rl l).take k) ++ pcl gc ((rl l).drop k) := by
    rcases Nat.eq_zero_or_pos k with hz | hz
    · rw [hz]; rfl
    · obtain ⟨j, rfl⟩ : ∃ j, k = j + 1 := ⟨k - 1, by omega⟩
      have hjl : j < (rl l).length := by omega
      have hs := pcl_sure gc gc_cl _ ((rl l).take (j + 1)) ((rl l)[j + 1]) ((rl l).drop (j + 1 + 1)) (Nat.le_refl _) (fun e => by
        have := congrArg List.length e
        rw [List.length_take] at this
        simp only [List.length_nil] at this
        omega) (by
        have hal : galone (gc (rl l)[j + 1]) = true := isN_alone ((rl l)[j + 1]).1 (by rw [← e2]; exact hp.1)
        refine gbt_alone _ _ hal fun hh => ?_
        have hl : (((rl l).take (j + 1)).map gc).getLastD 0 = gc (rl l)[j] := by
          rw [List.take_succ_eq_append_getElem hjl, List.map_append, List.map_cons, List.map_nil, List.getLastD_concat]
        rw [hl] at hh
        have h13 : ((rl l)[j]).1 = 13 := by have := (gp_12 _).1 hh.1; omega
        have h10 : ((rl l)[j + 1]).1 = 10 := by have := (gp_12 _).2 hh.2; omega
        obtain ⟨b1, b2⟩ := rune_low l j hjl 13 (by decide) h13
        obtain ⟨b3, _⟩ := rune_low l (j + 1) hk 10 (by decide) h10
        have hsec : sec l y.1 = true := by
          unfold sec
          rw [e1, b3, b2, Nat.add_sub_cancel, b1]
          simp
        rw [hsec] at hp
        exact absurd hp.2 (by decide))
      rw [← List.drop_eq_getElem_cons hk, List.take_append_drop] at hs
      exact hs
  rw [gpF_0, hsp, plc_app, pcl_all gc _ _ (Nat.le_refl _), Nat.zero_add, e1]
  rfl
theorem ends_in (l : List UInt8) (e : Nat) (h : e ∈ endsL l) : e ∈ lettersL l := by
  obtain ⟨k, hk, rfl, _, _, hg⟩ := ends_letter l e h
  have hne : (rl l).drop k ≠ [] := fun e => by
    have := congrArg List.length e
    rw [List.length_drop, List.length_nil] at this
    omega
  unfold lettersL
  rw [hg, pcl_cons gc _ hne, plc]
  simp
/-- The place behind the letter around a place. -/
def nxl (l : List UInt8) (p : Nat) : Nat := (((gpF l 0).find? fun y => decide (p < y.2)).map (·.2)).getD l.length
theorem gp_next (l : List UInt8) (U V : List (Nat × Nat)) (x : Nat × Nat) (h : gpF l 0 = U ++ x :: V) : (∀ y ∈ U, y.2 ≤ x.1) ∧ ∀ y ∈ V, x.2 ≤ y.1 := by
  refine ⟨fun y hy => ?_, plc_next _ _ U V x h⟩
  obtain ⟨U1, U2, rfl⟩ := List.append_of_mem hy
  rw [List.append_assoc, List.cons_append] at h
  exact plc_next _ _ U1 (U2 ++ x :: V) y h x (by simp)
theorem nxl_of (l : List UInt8) (p f t : Nat) (h : (f, t) ∈ gpF l 0) (hf : f ≤ p) (ht : p < t) : nxl l p = t := by
  obtain ⟨U, V, hUV⟩ := List.append_of_mem h
  obtain ⟨h1, _⟩ := gp_next l U V _ hUV
  unfold nxl
  rw [hUV, List.find?_append, List.find?_eq_none.2 (fun y hy => by have := h1 y hy; simp only [decide_eq_true_eq]; simp only [] at this; omega), List.find?_cons_of_pos (by simpa using ht)]
  rfl
theorem nxl_end (l : List UInt8) (p : Nat) (h : l.length ≤ p) : nxl l p = l.length := by
  unfold nxl
  rw [List.find?_eq_none.2 (fun y hy => by have := gp_le l y hy; simp only [decide_eq_true_eq]; omega)]
  rfl
/-- Around a place there is a letter. -/
theorem letter_at (l : List UInt8) (p : Nat) (h : p < l.length) : ∃ f, (f, nxl l p) ∈ gpF l 0 ∧ f ≤ p ∧ p < nxl l p := by
  obtain ⟨y, hy, he⟩ := gp_last l (fun e => by rw [e] at h; simp at h)
  have hs : (gpF l 0).find? (fun y => decide (p < y.2)) ≠ none := fun e => by
    have := List.find?_eq_none.1 e y hy
    simp only [decide_eq_true_eq] at this
    omega
  obtain ⟨z, hz⟩ := Option.ne_none_iff_exists'.1 hs
  have hm := List.mem_of_find?_eq_some hz
  have hp := List.find?_some hz
  simp only [decide_eq_true_eq] at hp
  have hn : nxl l p = z.2 := by unfold nxl; rw [hz]; rfl
  rw [hn]
  refine ⟨z.1, hm, ?_, hp⟩
  obtain ⟨U, V, hUV, hno⟩ : ∃ U V, gpF l 0 = U ++ z :: V ∧ ∀ y ∈ U, ¬ p < y.2 := by
    obtain ⟨_, U, V, h1, h2⟩ := List.find?_eq_some_iff_append.1 hz
    exact ⟨U, V, h1, fun y hy => by simpa using h2 y hy⟩
  rcases plc_begin _ _ U V z hUV with e | ⟨y, hy, e⟩
  · omega
  · have := hno y hy
    omega
theorem nxl_le (l : List UInt8) (p : Nat) : nxl l p ≤ l.length := by
  by_cases h : p < l.length
  · obtain ⟨f, h1, _⟩ := letter_at l p h
    exact gp_le l _ h1
  · rw [nxl_end l p (by omega)]; exact Nat.le_refl _
/-- It is a letter's beginning, or the text's end. -/
theorem nxl_is (l : List UInt8) (p : Nat) (h : nxl l p < l.length) : nxl l p ∈ lettersL l := by
  have hp : p < l.length := by
    rcases Nat.lt_or_ge p l.length with h1 | h1
    · exact h1
    · rw [nxl_end l p h1] at h; omega
  obtain ⟨f, h1, _⟩ := letter_at l p hp
  obtain ⟨U, V, hUV⟩ := List.append_of_mem h1
  cases V with
  | nil =>
    exfalso
    obtain ⟨y, hy, he⟩ := gp_last l (fun e => by rw [e] at hp; simp at hp)
    obtain ⟨h2, _⟩ := gp_next l U [] _ hUV
    have hlt := gp_lt l _ h1
    rw [hUV] at hy
    rcases List.mem_append.1 hy with hy | hy
    · have := h2 y hy
      simp only [] at this hlt
      omega
    · have : y = (f, nxl l p) := by simpa using hy
      rw [this] at he
      simp only [] at he
      omega
  | cons z V =>
    have hUV2 : gpF l 0 = (U ++ [(f, nxl l p)]) ++ z :: V := by rw [hUV]; simp
    have hz : z.1 = nxl l p := by
      rcases plc_begin _ _ _ V z hUV2 with e | ⟨y, hy, e⟩
      · have h3 := (gp_next l U (z :: V) _ hUV).2 z (List.mem_cons_self ..)
        have := gp_lt l _ h1
        simp only [] at h3 this
        omega
      · rcases List.mem_append.1 hy with hy | hy
        · have h3 := (gp_next l U (z :: V) _ hUV).1 y hy
          have h4 := (gp_next l U (z :: V) _ hUV).2 z (List.mem_cons_self ..)
          have := gp_lt l _ h1
          simp only [] at h3 h4 this
          omega
        · have : y = (f, nxl l p) := by simpa using hy
          rw [e, this]
    unfold lettersL
    rw [hUV2, ← hz]
    simp
/-- A letter that begins behind a place begins not ahead of what stands behind that place's letter. -/
theorem nxl_min (l : List UInt8) (p q : Nat) (hp : p < l.length) (hq : q ∈ lettersL l) (h : p < q) : nxl l p ≤ q := by
  obtain ⟨f, h1, h2, h3⟩ := letter_at l p hp
  obtain ⟨U, V, hUV⟩ := List.append_of_mem h1
  obtain ⟨n1, n2⟩ := gp_next l U V _ hUV
  obtain ⟨y, hy, rfl⟩ := List.mem_map.1 hq
  rw [hUV] at hy
  rcases List.mem_append.1 hy with hy | hy
  · have := n1 y hy
    have h5 := gp_lt l y (by rw [hUV]; exact List.mem_append_left _ hy)
    simp only [] at this
    omega
  · rcases List.mem_cons.1 hy with rfl | hy
    · simp only [] at h
      omega
    · exact n2 y hy
/-- Where a line begins; where it ends without what ends it. -/
def lnT (l : List UInt8) (i : Nat) : Nat := (endsL l)[i]?.getD l.length
def lnF (l : List UInt8) (i : Nat) : Nat := if i = 0 then 0 else nxl l (lnT l (i - 1))
theorem plc_T (l : List UInt8) (i : Nat) : plcB (endsL l) (i : Nat) l.length = lnT l i := by
  unfold plcB lnT
  rw [if_neg (by omega), Int.toNat_natCast]
theorem lnT_le (l : List UInt8) (i : Nat) : lnT l i ≤ l.length := by
  unfold lnT
  cases h : (endsL l)[i]? with
  | none => exact Nat.le_refl _
  | some e => exact Nat.le_of_lt (ends_scl.lt l e (List.mem_of_getElem? h))
theorem lnT_lt (l : List UInt8) (i : Nat) (h : i < (endsL l).length) : lnT l i = (endsL l)[i] := by
  unfold lnT; rw [List.getElem?_eq_getElem h]; rfl
theorem lnT_end (l : List UInt8) (i : Nat) (h : (endsL l).length ≤ i) : lnT l i = l.length := by
  unfold lnT; rw [List.getElem?_eq_none h]; rfl
theorem lnF_succ (l : List UInt8) (i : Nat) : lnF l (i + 1) = nxl l (lnT l i) := rfl
theorem ends_rise (l : List UInt8) (i j : Nat) (hij : i < j) (hj : j < (endsL l).length) : (endsL l)[i] < (endsL l)[j] := List.pairwise_iff_getElem.1 (ends_scl.rise l) i j (by omega) hj hij
theorem lnF_le (l : List UInt8) (i : Nat) (h : i ≤ (endsL l).length) : lnF l i ≤ lnT l i := by
  cases i with
  | zero => exact Nat.zero_le _
  | succ i =>
    rw [lnF_succ, lnT_lt l i (by omega)]
    have hlt := ends_scl.lt l _ (List.getElem_mem (show i < (endsL l).length by omega))
    rcases Nat.lt_or_ge (i + 1) (endsL l).length with h1 | h1
    · rw [lnT_lt l (i + 1) h1]
      exact nxl_min l _ _ hlt (ends_in l _ (List.getElem_mem h1)) (ends_rise l i (i + 1) (by omega) h1)
    · rw [lnT_end l (i + 1) h1]; exact nxl_le l _
theorem lnF_gt (l : List UInt8) (i : Nat) (h : i < (endsL l).length) : (endsL l)[i] < lnF l (i + 1) := by
  rw [lnF_succ, lnT_lt l i h]
  obtain ⟨f, _, _, h3⟩ := letter_at l _ (ends_scl.lt l _ (List.getElem_mem h))
  exact h3
/-- How many line ends begin ahead of a line's beginning, or of its end. -/
theorem cnt_line (l : List UInt8) (i : Nat) (h : i ≤ (endsL l).length) (z : Nat) (h1 : lnF l i ≤ z) (h2 : z ≤ lnT l i) : cntB (endsL l) (z : Nat) = i := by
  unfold cntB
  have hs : endsL l = (endsL l).take i ++ (endsL l).drop i := (List.take_append_drop i _).symm
  rw [hs, List.filter_append, List.filter_eq_self.2 (fun q hq => ?_), List.filter_eq_nil_iff.2 (fun q hq => ?_), List.append_nil, List.length_take, Nat.min_eq_left h]
  · obtain ⟨j, hj, rfl⟩ := List.mem_iff_getElem.1 hq
    rw [List.length_drop] at hj
    rw [List.getElem_drop]
    rw [lnT_lt l i (by omega)] at h2
    have h4 : (endsL l)[i] ≤ (endsL l)[i + j] := by
      rcases Nat.eq_zero_or_pos j with e | e
      · subst e; exact Nat.le_refl _
      · exact Nat.le_of_lt (ends_rise l i (i + j) (by omega) (by omega))
    simp only [decide_eq_true_eq]
    omega
  · obtain ⟨j, hj, rfl⟩ := List.mem_iff_getElem.1 hq
    rw [List.length_take] at hj
    rw [List.getElem_take]
    obtain ⟨k, rfl⟩ : ∃ k, i = k + 1 := ⟨i - 1, by omega⟩
    have h3 := lnF_gt l k (by omega)
    have h4 : (endsL l)[j] ≤ (endsL l)[k] := by
      rcases Nat.eq_or_lt_of_le (show j ≤ k by omega) with e | e
      · subst e; exact Nat.le_refl _
      · exact Nat.le_of_lt (ends_rise l j k e (by omega))
    simp only [decide_eq_true_eq]
    omega
/-- A line begins a letter, or at the text's end. -/
theorem lnF_is (l : List UInt8) (i : Nat) (h : lnF l i < l.length) : lnF l i ∈ lettersL l := by
  cases i with
  | zero =>
    have hne : l ≠ [] := fun e => by rw [e] at h; simp at h
    have hrn : rl l ≠ [] := by rw [rl_cons l hne]; simp
    show 0 ∈ _
    unfold lettersL
    rw [gpF_0, pcl_cons gc _ hrn, plc]
    simp
  | succ i => exact nxl_is l _ h
/-- Numbers of a rising list there and back. -/
theorem cnt_at (B : List Nat) (hB : B.Pairwise (· < ·)) (j : Nat) (h : j < B.length) : cntB B (B[j] : Nat) = j := by
  have hr := List.pairwise_iff_getElem.1 hB
  obtain ⟨v, hv⟩ : ∃ v, v = B[j] := ⟨_, rfl⟩
  rw [← hv]
  unfold cntB
  have h2 : (B.take j).filter (fun (q : Nat) => decide ((q : Int) < (v : Nat))) = B.take j := List.filter_eq_self.2 fun q hq => by
    obtain ⟨i, hi, rfl⟩ := List.mem_iff_getElem.1 hq
    rw [List.length_take] at hi
    rw [List.getElem_take]
    have := hr i j (by omega) h (by omega)
    simp only [decide_eq_true_eq]
    omega
  have h4 : (B.drop j).filter (fun (q : Nat) => decide ((q : Int) < (v : Nat))) = [] := List.filter_eq_nil_iff.2 fun q hq => by
    obtain ⟨i, hi, rfl⟩ := List.mem_iff_getElem.1 hq
    rw [List.length_drop] at hi
    rw [List.getElem_drop]
    simp only [decide_eq_true_eq]
    rcases Nat.eq_zero_or_pos i with e | e
    · subst e
      simp only [Nat.add_zero]
      omega
    · have := hr j (j + i) h (by omega) (by omega)
      omega
  have h3 : (B.filter fun (q : Nat) => decide ((q : Int) < (v : Nat))).length = ((B.take j).filter fun (q : Nat) => decide ((q : Int) < (v : Nat))).length + ((B.drop j).filter fun (q : Nat) => decide ((q : Int) < (v : Nat))).length := by
    rw [← List.length_append, ← List.filter_append, List.take_append_drop]
  rw [h3, h2, h4, List.length_take, List.length_nil]
  omega
theorem cnt_all (B : List Nat) (n : Nat) (h : ∀ q ∈ B, q < n) : cntB B (n : Nat) = B.length := by
  unfold cntB
  rw [List.filter_eq_self.2 (fun q hq => by have := h q hq; simp only [decide_eq_true_eq]; omega)]
theorem cnt_back (B : List Nat) (d : Nat) (hB : B.Pairwise (· < ·)) (hd : ∀ q ∈ B, q < d) (n : Nat) (h : n ≤ B.length) : cntB B (plcB B (n : Nat) d : Nat) = n := by
  unfold plcB
  rw [if_neg (by omega), Int.toNat_natCast]
  rcases Nat.lt_or_ge n B.length with h1 | h1
  · rw [List.getElem?_eq_getElem h1]
    exact cnt_at B hB n h1
  · rw [List.getElem?_eq_none h1]
    have : n = B.length := by omega
    rw [this]
    exact cnt_all B d hd
theorem cnt_mono (B : List Nat) (a b : Int) (h : a ≤ b) : cntB B a ≤ cntB B b := by
  unfold cntB
  rw [← List.countP_eq_length_filter, ← List.countP_eq_length_filter]
  exact List.countP_mono_left fun q _ hq => by simp only [decide_eq_true_eq] at hq ⊢; omega
/-- A place of a list is where its number says. -/
theorem plc_back (B : List Nat) (d q : Nat) (hB : B.Pairwise (· < ·)) (h : q ∈ B) : plcB B (cntB B (q : Nat) : Nat) d = q := by
  obtain ⟨j, hj, rfl⟩ := List.mem_iff_getElem.1 h
  rw [cnt_at B hB j hj]
  unfold plcB
  rw [if_neg (by omega), Int.toNat_natCast, List.getElem?_eq_getElem hj]; rfl
theorem cnt_gt (B : List Nat) (q t : Nat) (hB : B.Pairwise (· < ·)) (h : q ∈ B) (ht : q < t) : cntB B (q : Nat) < cntB B (t : Nat) := by
  obtain ⟨j, hj, rfl⟩ := List.mem_iff_getElem.1 h
  rw [cnt_at B hB j hj]
  have h1 : cntB B ((B[j] + 1 : Nat) : Int) ≤ cntB B (t : Nat) := cnt_mono B _ _ (by omega)
  refine Nat.lt_of_lt_of_le ?_ h1
  unfold cntB
  have hs : B = B.take (j + 1) ++ B.drop (j + 1) := (List.take_append_drop (j + 1) _).symm
  have hr := List.pairwise_iff_getElem.1 hB
  have h2 : (B.take (j + 1)).filter (fun (q : Nat) => decide ((q : Int) < ((B[j] + 1 : Nat) : Int))) = B.take (j + 1) := List.filter_eq_self.2 fun q hq => by
    obtain ⟨i, hi, rfl⟩ := List.mem_iff_getElem.1 hq
    rw [List.length_take] at hi
    rw [List.getElem_take]
    have : B[i] ≤ B[j] := by
      rcases Nat.eq_or_lt_of_le (show i ≤ j by omega) with e | e
      · subst e; exact Nat.le_refl _
      · exact Nat.le_of_lt (hr i j (by omega) hj e)
    simp only [decide_eq_true_eq]
    omega
  have h3 : (B.filter fun (q : Nat) => decide ((q : Int) < ((B[j] + 1 : Nat) : Int))).length = ((B.take (j + 1)).filter fun (q : Nat) => decide ((q : Int) < ((B[j] + 1 : Nat) : Int))).length + ((B.drop (j + 1)).filter fun (q : Nat) => decide ((q : Int) < ((B[j] + 1 : Nat) : Int))).length := by
    rw [← List.length_append, ← List.filter_append, List.take_append_drop]
  rw [h3, h2, List.length_take]
  omega
end Go.Proofs.YtffbdnlfknomnaaDoor.Wt
/- The contracts of Next (package grapheme) and of behind, Line, Point and At (package places) at short texts. -/
namespace Go.Proofs.YtffbdnlfknomnaaDoor.Wt
open Go.RowKit Go.Shelf

theorem next_any (l : List UInt8) (p : Nat) (w : World) (ht : TbW w) (hl : l.length ≤ 100) :
    Calls Tryd.prog 65 #[.string ⟨l.toArray⟩, .int .i64 p] w fun e w' => e = .returned (.int .i64 (nxl l p : Nat)) ∧ Below w.heap.size w w' := by
  have HT := hid ht
  clear ht
  by_cases hp : p < l.length
  · have hpi : ¬ (l.length : Int) ≤ (p : Int) := by omega
    go_enter Tryd.func65, Tryd.ntmps65
    go_wp2_with fail
    refine (garound_any l p w HT.out (by omega) hp).mono ?_
    rintro e w1 ⟨f, t, rfl, ⟨h1, h2, h3⟩, be⟩
    have HN := hid (nxl_of l p f t h1 h2 h3)
    have HB := hid be
    clear h1 h2 h3 be
    go_wp2
    go_ret
    exact ⟨by rw [HN.out]; rfl, HB.out⟩
  · have hpi : (l.length : Int) ≤ (p : Int) := by omega
    have HN := hid (nxl_end l p (by omega))
    go_enter Tryd.func65, Tryd.ntmps65
    go_wp2
    go_ret
    exact ⟨by rw [HN.out]; rfl, Below.refl _ _⟩
theorem behind_any (l : List UInt8) (p : Nat) (w : World) (ht : TbW w) (hl : l.length ≤ 100) :
    Calls Tryd.prog 39 #[.string ⟨l.toArray⟩, .int .i64 p] w fun e w' => e = .returned (.int .i64 (nxl l p : Nat)) ∧ Below w.heap.size w w' := by
  have HT := hid ht
  clear ht
  go_enter Tryd.func39, Tryd.ntmps39
  go_wp2_with fail
  refine (next_any l p w HT.out hl).mono ?_
  rintro e w1 ⟨rfl, be⟩
  have HB := hid be
  clear be
  go_wp2
  go_ret
  exact ⟨rfl, HB.out⟩
theorem ends_len (l : List UInt8) : (endsL l).length ≤ l.length := rise_len (ends_scl.rise l) (ends_scl.lt l)
set_option maxHeartbeats 2000000 in
theorem line_any (X : Nat) (l : List UInt8) (ku kr kl ke : Value) (w : World) (h : IxAt w X l ku kr kl ke) (i : Nat) (hi : i ≤ (endsL l).length) (ht : TbW w) (hl : l.length ≤ 100) :
    Calls Tryd.prog 19 #[.pointer (some ⟨X, 0, none⟩), .int .i64 i] w fun e w' => e = .returned (.tuple #[.int .i64 (lnF l i : Nat), .int .i64 (lnT l i : Nat), .int .i64 (nxl l (lnT l i) : Nat)]) ∧ Below w.heap.size w w' := by
  have HI := hid h
  have HT := hid ht
  have hE := ends_len l
  obtain ⟨n, hn⟩ : ∃ n, n = (endsL l).length := ⟨_, rfl⟩
  have HN := hid hn
  rw [← hn] at hi hE
  have hin : ¬ ((n : Int) + 1) ≤ (i : Int) := by omega
  have hi0 : ¬ (i : Int) < 0 := by omega
  obtain ⟨sg, sl, sc, rfl⟩ := h.je.slice
  clear h ht hn
  have HPL := hid (fun (j : Nat) (W : World) (hb : Below w.heap.size w W) => (place_any _ _ _ ends_cnt l 0 (.slice sg sl sc) (j : Nat) W (HT.out.below hb) hl (HI.out.below hb).je))
  rw [← HN.out] at HPL
  go_enter Tryd.func19, Tryd.ntmps19
  go_wp2_with fail
  refine (lines_any X l ku kr kl (.slice sg sl sc) w HI.out (by rw [← HN.out]; omega)).mono ?_
  rintro e w1 ⟨rfl, hw1⟩
  obtain rfl := hw1.symm
  clear hw1
  rw [← HN.out]
  cases i with
  | zero =>
    obtain ⟨c0, c1, c2, c3⟩ := HI.out.ce
    rw [← HN.out] at c2
    go_wp2_with fail
    refine (HPL.out 0 w (Below.refl _ _)).mono ?_
    rintro e w2 ⟨rfl, be⟩
    rw [plc_T]
    have HB := hid be
    have ct := (HI.out.below be).ct
    clear be c0 c1 c2 c3
    go_wp2_with fail
    refine (behind_any l (lnT l 0) w2 (HT.out.below HB.out) hl).mono ?_
    rintro e w3 ⟨rfl, be⟩
    have HB3 := hid (HB.out.trans (be.mono HB.out.size))
    clear be
    go_wp2
    go_ret3
    exact ⟨rfl, HB3.out⟩
  | succ j =>
    have hj0 : (0 : Int) < (j : Int) + 1 := by omega
    have hwj : IntKind.i64.wrap ((j : Int) + 1 - 1) = (j : Int) := by rw [IntKind.wrap_i64]; omega
    have hwj2 : IntKind.i64.wrap (j : Int) = (j : Int) := by rw [IntKind.wrap_i64]; omega
    have hjc : ((j + 1 : Nat) : Int) = (j : Int) + 1 := by omega
    go_wp2_with fail
    refine wp_region_mix [(0, true), (1, true), (2, true), (3, true), (4, true), (5, true), (6, true), (7, true), (8, true), (9, true), (10, false), (11, false), (12, true)] (fun w' => IxAt w' X l ku kr kl (.slice sg sl sc)) (fun _ => false) (by kernel_rfl) (by kernel_rfl) (fun j hj => by cases hj) rfl (by kernel_rfl) HI.out.dr ?_
    iterate 10 (refine mix_free ?_ rfl (by kernel_rfl) (fun w' hS => ?_) ?_; (rotate_left; (obtain ⟨z0, z1, z2, z3⟩ := hS.ce; have zt := hS.ct; rw [← HN.out] at z2; go_simp; with_reducible rfl); rotate_left))
    refine mix_go rfl (by kernel_rfl) fun KK hKK => ?_
    go_simp
    refine (HPL.out j w.drew ((Below.refl _ _).drew)).mono ?_
    rintro e w2 ⟨rfl, be⟩
    rw [plc_T]
    have HB := hid (show Below w.heap.size w w2 from ((Below.refl _ _).drew).trans be)
    refine hKK _ _ (fun _ => HI.out.below HB.out) ?_
    clear hKK KK be
    refine mix_go rfl (by kernel_rfl) fun KK hKK => ?_
    go_simp
    refine (behind_any l (lnT l j) w2 (HT.out.below HB.out) hl).mono ?_
    rintro e w3 ⟨rfl, be⟩
    have HB3 := hid (HB.out.trans (be.mono HB.out.size))
    refine hKK _ _ (fun _ => HI.out.below HB3.out) ?_
    clear hKK KK be
    iterate 1 (refine mix_free ?_ rfl (by kernel_rfl) (fun w' hS => ?_) ?_; (rotate_left; (go_simp; with_reducible rfl); rotate_left))
    refine mix_end (NoPanic.normal ?_)
    go_simp
    obtain ⟨c0, c1, c2, c3⟩ := (HI.out.below HB3.out).ce
    rw [← HN.out] at c2
    have HPJ := hid (HPL.out (j + 1) w3 HB3.out)
    rw [plc_T, hjc] at HPJ
    go_wp2_with fail
    refine HPJ.out.mono ?_
    rintro e w4 ⟨rfl, be⟩
    have HB4 := hid (HB3.out.trans (be.mono HB3.out.size))
    have ct := (HI.out.below HB4.out).ct
    clear be c0 c1 c2 c3
    go_wp2_with fail
    refine (behind_any l (lnT l (j + 1)) w4 (HT.out.below HB4.out) hl).mono ?_
    rintro e w5 ⟨rfl, be⟩
    have HB5 := hid (HB4.out.trans (be.mono HB4.out.size))
    clear be
    go_wp2
    go_ret3
    exact ⟨rfl, HB5.out⟩
end Go.Proofs.YtffbdnlfknomnaaDoor.Wt
/- The contracts of Point and At (package places) at short texts, at what PlacesBack asks. -/
namespace Go.Proofs.YtffbdnlfknomnaaDoor.Wt
open Go.RowKit Go.Shelf

theorem cntL_le (l : List UInt8) (hl : l.length ≤ 100) (z : Int) : cntB (lettersL l) z ≤ 100 := by
  have := List.length_filter_le (fun (q : Nat) => decide ((q : Int) < z)) (lettersL l)
  have h2 := rise_len (letters_scl.rise l) (letters_scl.lt l)
  unfold cntB; omega
set_option maxHeartbeats 2000000 in
theorem point_any (X : Nat) (l : List UInt8) (ku kr kl ke : Value) (w : World) (h : IxAt w X l ku kr kl ke) (z r : Nat) (hr : cntB (endsL l) (z : Nat) = r) (hrl : r ≤ (endsL l).length) (hF : lnF l r ≤ z) (hT : z ≤ lnT l r) (ht : TbW w) (hl : l.length ≤ 100) :
    Calls Tryd.prog 21 #[.pointer (some ⟨X, 0, none⟩), .int .i64 z] w fun e w' => e = .returned (.agg #[.int .i64 r, .int .i64 ((cntB (lettersL l) z : Int) - cntB (lettersL l) (lnF l r : Nat))]) ∧ Below w.heap.size w w' := by
  have HT := hid ht
  have hB0 : Below w.heap.size w (w.alloc (.cells #[.int .i64 0, .int .i64 0] 52)) := (Below.refl _ _).alloc (Nat.le_refl _) _
  have HI := hid (h.below hB0)
  have HT0 := hid (ht.below hB0)
  have HC0 := hid (Cb.new w #[.int .i64 0, .int .i64 0] 52)
  have HR := hid hr
  have HRL := hid hrl
  obtain ⟨sg, sl, sc, rfl⟩ := h.je.slice
  obtain ⟨f, hf⟩ : ∃ f, f = lnF l r := ⟨_, rfl⟩
  obtain ⟨t, htt⟩ : ∃ t, t = lnT l r := ⟨_, rfl⟩
  have HFF := hid hf
  have HTT := hid htt
  rw [← hf] at hF ⊢
  rw [← htt] at hT
  have hmin : min (z : Int) (t : Int) = (z : Int) := by omega
  have hzf : ¬ (z : Int) < (f : Int) := by omega
  obtain ⟨n, hn⟩ : ∃ n, n = (endsL l).length := ⟨_, rfl⟩
  have HN := hid hn
  obtain ⟨k, hk⟩ : ∃ k : Int, k = (cntB (lettersL l) z : Int) - cntB (lettersL l) (f : Nat) := ⟨_, rfl⟩
  have HK := hid hk
  rw [← hk]
  obtain ⟨w0, hw0⟩ : ∃ w0, w0 = w.alloc (.cells #[.int .i64 0, .int .i64 0] 52) := ⟨_, rfl⟩
  have HBW := hid hB0
  have hs0 : w0.heap.size = w.heap.size + 1 := by rw [hw0]; simp
  rw [← hw0] at HI HT0 HC0 HBW
  obtain ⟨c0, c1, c2, c3⟩ := HI.out.ce
  rw [← hn] at c2
  have hr0 : (0 : Int) < (r : Int) ∨ ¬ (0 : Int) < (r : Int) := by omega
  clear h ht hr hrl hf htt hn hB0 hk
  go_enter Tryd.func21, Tryd.ntmps21
  rw [hw0] at c0 c1 c2 c3
  go_wp2_with fail
  rw [← hw0]
  rw [HN.out]
  refine (below_any _ _ _ ends_cnt l 0 (.slice sg sl sc) (z : Nat) w0 HT0.out hl HI.out.je).mono ?_
  rintro e w1 ⟨rfl, be1⟩
  rw [HR.out]
  have HB1 := hid (HBW.out.trans (be1.mono (by omega)))
  have HI1 := hid (HI.out.below be1)
  have HC1 := hid (HC0.out.below be1)
  have HT1 := hid (HT0.out.below be1)
  clear be1 c0 c1 c2 c3 hw0
  go_wp2_with fail
  refine (line_any X l ku kr kl (.slice sg sl sc) w1 HI1.out r HRL.out HT1.out hl).mono ?_
  rintro e w2 ⟨rfl, be2⟩
  rw [← HFF.out, ← HTT.out]
  have HB2 := hid (HB1.out.trans (be2.mono HB1.out.size))
  have HI2 := hid (HI1.out.below be2)
  have HC2 := hid (HC1.out.below be2)
  have HT2 := hid (HT1.out.below be2)
  clear be2
  obtain ⟨nx, hnx⟩ : ∃ nx : Nat, nx = nxl l t := ⟨_, rfl⟩
  rw [← hnx]
  clear hnx
  rcases hr0 with hr0 | hr0
  all_goals
    go_wp2_with fail
    refine (lettersIn_any X l ku kr kl (.slice sg sl sc) w2 HI2.out (f : Nat) (z : Nat) HT2.out hl).mono ?_
    rintro e w3 ⟨rfl, be3⟩
    rw [← HK.out]
    have HB3 := hid (HB2.out.trans (be3.mono HB2.out.size))
    have HC3 := hid (HC2.out.below be3)
    have d0 := HC3.out.cell 0
    have d1 := HC3.out.cell 1
    have e0 := HC3.out.frozen 0
    have e1 := HC3.out.frozen 1
    simp only [List.getElem?_toArray, List.getElem?_cons_zero, List.getElem?_cons_succ] at d0 d1
    clear be3
    go_wp2
    refine bodyPost_ret (results_cell_row rfl _ _ w.heap.size 52 #[.int .i64 (r : Nat), .int .i64 k] (0, 0) _ rfl ((HC3.out.set 0 (.int .i64 (r : Nat))).set 1 (.int .i64 k)) Tryd.underlying52 rfl (by kernel_rfl)) rfl ?_
    exact ⟨rfl, (HB3.out.setCell (p := ⟨w.heap.size, 0, none⟩) (Nat.le_refl _) _).setCell (p := ⟨w.heap.size, 1, none⟩) (Nat.le_refl _) _⟩
/-- What At answers. -/
def atV (k c : Int) (t p : Nat) : Nat := if k ≤ c then t else p
set_option maxHeartbeats 4000000 in
theorem at_any (X : Nat) (l : List UInt8) (ku kr kl ke : Value) (w : World) (h : IxAt w X l ku kr kl ke) (r : Nat) (c : Int) (hrl : r ≤ (endsL l).length) (hc : 0 ≤ c) (hc2 : c ≤ 1000) (ht : TbW w) (hl : l.length ≤ 100) :
    Calls Tryd.prog 20 #[.pointer (some ⟨X, 0, none⟩), .agg #[.int .i64 r, .int .i64 c]] w fun e w' => e = .returned (.int .i64 (atV ((cntB (lettersL l) (lnT l r : Nat) : Int) - cntB (lettersL l) (lnF l r : Nat)) c (lnT l r) (plcB (lettersL l) ((cntB (lettersL l) (lnF l r : Nat) : Int) + c) l.length) : Nat)) ∧ Below w.heap.size w w' := by
  have HT := hid ht
  have hB0 : Below w.heap.size w (w.alloc (.cells #[.int .i64 r, .int .i64 c] 52)) := (Below.refl _ _).alloc (Nat.le_refl _) _
  have HI := hid (h.below hB0)
  have HT0 := hid (ht.below hB0)
  have HC0 := hid (Cb.new w #[.int .i64 r, .int .i64 c] 52)
  have HRL := hid hrl
  have hE := ends_len l
  have hF1 := cntL_le l hl (lnF l r : Nat)
  obtain ⟨sg, sl, sc, rfl⟩ := h.jl.slice
  obtain ⟨f, hf⟩ : ∃ f, f = lnF l r := ⟨_, rfl⟩
  obtain ⟨t, htt⟩ : ∃ t, t = lnT l r := ⟨_, rfl⟩
  have HFF := hid hf
  have HTT := hid htt
  rw [← hf] at hF1 ⊢
  rw [← htt]
  obtain ⟨n, hn⟩ : ∃ n, n = (endsL l).length := ⟨_, rfl⟩
  have HN := hid hn
  rw [← hn] at hrl hE
  have hrn : ¬ ((n : Int) + 1) ≤ (r : Int) := by omega
  have hr0 : ¬ (r : Int) < 0 := by omega
  have HEE := hid hE
  have hc0 : ¬ c < 0 := by omega
  obtain ⟨k, hk⟩ : ∃ k : Int, k = (cntB (lettersL l) (t : Nat) : Int) - cntB (lettersL l) (f : Nat) := ⟨_, rfl⟩
  have HK := hid hk
  rw [← hk]
  obtain ⟨a, ha⟩ : ∃ a, a = cntB (lettersL l) (f : Nat) := ⟨_, rfl⟩
  have HA := hid ha
  rw [← ha] at hF1 ⊢
  obtain ⟨nl, hnl⟩ : ∃ nl, nl = (lettersL l).length := ⟨_, rfl⟩
  have HNL := hid hnl
  obtain ⟨w0, hw0⟩ : ∃ w0, w0 = w.alloc (.cells #[.int .i64 r, .int .i64 c] 52) := ⟨_, rfl⟩
  have HBW := hid hB0
  have hs0 : w0.heap.size = w.heap.size + 1 := by rw [hw0]; simp
  have HW0 := hid hw0
  rw [← hw0] at HI HT0 HC0 HBW
  clear h ht hrl hf htt hn hB0 hk ha hnl hE hw0
  go_enter Tryd.func20, Tryd.ntmps20
  go_wp2_with fail
  rw [← HW0.out]
  refine wp_region_mix [(0, true), (1, true), (2, true), (3, false), (4, true), (5, true)] (fun w' => Cb w' w.heap.size #[.int .i64 r, .int .i64 c] 52) (fun _ => false) (by kernel_rfl) (by kernel_rfl) (fun j hj => by cases hj) rfl (by kernel_rfl) HC0.out.dr ?_
  iterate 3 (refine mix_free ?_ rfl (by kernel_rfl) (fun w' hS => ?_) ?_; (rotate_left; (have z0 := hS.cell 0; have z1 := hS.cell 1; simp only [List.getElem?_toArray, List.getElem?_cons_zero, List.getElem?_cons_succ] at z0 z1; go_simp; with_reducible rfl); rotate_left))
  refine mix_go rfl (by kernel_rfl) fun KK hKK => ?_
  go_simp
  refine (lines_any X l ku kr (.slice sg sl sc) ke w0.drew HI.out.dr (by rw [← HN.out]; have := HEE.out; omega)).mono ?_
  rintro e w1 ⟨rfl, hw1⟩
  subst hw1
  rw [← HN.out]
  refine hKK _ _ (fun _ => HC0.out.dr) ?_
  clear hKK KK
  iterate 2 (refine mix_free ?_ rfl (by kernel_rfl) (fun w' hS => ?_) ?_; (rotate_left; (go_simp; with_reducible rfl); rotate_left))
  refine mix_end (NoPanic.normal ?_)
  go_simp
  have HI1 := hid HI.out.dr
  have HT1 := hid HT0.out.dr
  have HC1 := hid HC0.out.dr
  have HB1 := hid (show Below w.heap.size w w0.drew from HBW.out.trans ((Below.refl _ _).drew))
  have hs1 : w0.drew.heap.size = w.heap.size + 1 := hs0
  obtain ⟨w1, hw1⟩ : ∃ w1, w1 = w0.drew := ⟨_, rfl⟩
  rw [← hw1] at HI1 HT1 HC1 HB1 hs1 ⊢
  clear hw1 HI HT0 HC0 HBW hs0
  have d0 := HC1.out.cell 0
  have d1 := HC1.out.cell 1
  simp only [List.getElem?_toArray, List.getElem?_cons_zero, List.getElem?_cons_succ] at d0 d1
  go_wp2_with fail
  refine (line_any X l ku kr (.slice sg sl sc) ke w1 HI1.out r HRL.out HT1.out hl).mono ?_
  rintro e w2 ⟨rfl, be2⟩
  rw [← HFF.out, ← HTT.out]
  have HB2 := hid (HB1.out.trans (be2.mono HB1.out.size))
  have HI2 := hid (HI1.out.below be2)
  have HC2 := hid (HC1.out.below be2)
  have HT2 := hid (HT1.out.below be2)
  clear be2 d0 d1
  obtain ⟨nx, hnx⟩ : ∃ nx : Nat, nx = nxl l t := ⟨_, rfl⟩
  rw [← hnx]
  clear hnx
  have d0 := HC2.out.cell 0
  have d1 := HC2.out.cell 1
  simp only [List.getElem?_toArray, List.getElem?_cons_zero, List.getElem?_cons_succ] at d0 d1
  go_wp2_with fail
  refine wp_region_mix [(0, true), (1, true), (2, true), (3, true), (4, true), (5, false), (6, true), (7, true)] (fun w' => Cb w' w.heap.size #[.int .i64 r, .int .i64 c] 52) (fun _ => false) (by kernel_rfl) (by kernel_rfl) (fun j hj => by cases hj) rfl (by kernel_rfl) HC2.out.dr ?_
  iterate 5 (refine mix_free ?_ rfl (by kernel_rfl) (fun w' hS => ?_) ?_; (rotate_left; (have z0 := hS.cell 0; have z1 := hS.cell 1; simp only [List.getElem?_toArray, List.getElem?_cons_zero, List.getElem?_cons_succ] at z0 z1; go_simp; with_reducible rfl); rotate_left))
  refine mix_go rfl (by kernel_rfl) fun KK hKK => ?_
  go_simp
  refine (lettersIn_any X l ku kr (.slice sg sl sc) ke w2.drew HI2.out.dr (f : Nat) (t : Nat) HT2.out.dr hl).mono ?_
  rintro e w3 ⟨rfl, be3⟩
  rw [← HA.out] at HK ⊢
  rw [← HK.out]
  have HB3 := hid (HB2.out.trans (show Below w.heap.size w2 w3 from ((Below.refl _ _).drew).trans (be3.mono HB2.out.size)))
  have HI3 := hid (HI2.out.dr.below be3)
  have HC3 := hid (HC2.out.dr.below be3)
  have HT3 := hid (HT2.out.dr.below be3)
  refine hKK _ _ (fun _ => HC3.out) ?_
  clear hKK KK be3 d0 d1
  iterate 2 (refine mix_free ?_ rfl (by kernel_rfl) (fun w' hS => ?_) ?_; (rotate_left; (go_simp; with_reducible rfl); rotate_left))
  refine mix_end (NoPanic.normal ?_)
  go_simp
  by_cases hkc : k ≤ c
  · have HV := hid (show atV k c t (plcB (lettersL l) ((a : Int) + c) l.length) = t from if_pos hkc)
    go_wp2
    go_ret
    exact ⟨by rw [HV.out]; rfl, HB3.out⟩
  · have HV := hid (show atV k c t (plcB (lettersL l) ((a : Int) + c) l.length) = plcB (lettersL l) ((a : Int) + c) l.length from if_neg hkc)
    have hwa : IntKind.i64.wrap ((a : Int) + c) = (a : Int) + c := by rw [IntKind.wrap_i64]; omega
    go_wp2_with fail
    refine wp_region_mix [(0, true), (1, true), (2, true), (3, true), (4, true), (5, true), (6, true), (7, true), (8, true), (10, true), (11, true), (9, false), (12, true), (13, false), (14, true)] (fun w' => Cb w' w.heap.size #[.int .i64 r, .int .i64 c] 52 ∧ IxAt w' X l ku kr (.slice sg sl sc) ke) (fun _ => false) (by kernel_rfl) (by kernel_rfl) (fun j hj => by cases hj) rfl (by kernel_rfl) ⟨HC3.out.dr, HI3.out.dr⟩ ?_
    iterate 11 (refine mix_free ?_ rfl (by kernel_rfl) (fun w' hS => ?_) ?_; (rotate_left; (have z0 := hS.1.cell 0; have z1 := hS.1.cell 1; obtain ⟨y0, y1, y2, y3⟩ := hS.2.cl; simp only [List.getElem?_toArray, List.getElem?_cons_zero, List.getElem?_cons_succ] at z0 z1; go_simp; with_reducible rfl); rotate_left))
    refine mix_go rfl (by kernel_rfl) fun KK hKK => ?_
    go_simp
    refine (below_any _ _ _ letters_cnt l 0 (.slice sg sl sc) (f : Nat) w3.drew HT3.out.dr hl HI3.out.dr.jl).mono ?_
    rintro e w4 ⟨rfl, be4⟩
    rw [← HA.out]
    have HB4 := hid (HB3.out.trans (show Below w.heap.size w3 w4 from ((Below.refl _ _).drew).trans (be4.mono HB3.out.size)))
    have HI4 := hid (HI3.out.dr.below be4)
    have HC4 := hid (HC3.out.dr.below be4)
    have HT4 := hid (HT3.out.dr.below be4)
    refine hKK _ _ (fun _ => ⟨HC4.out, HI4.out⟩) ?_
    clear hKK KK be4
    iterate 1 (refine mix_free ?_ rfl (by kernel_rfl) (fun w' hS => ?_) ?_; (rotate_left; (go_simp; with_reducible rfl); rotate_left))
    refine mix_go rfl (by kernel_rfl) fun KK hKK => ?_
    go_simp
    refine (place_any _ _ _ letters_cnt l 0 (.slice sg sl sc) ((a : Int) + c) w4 HT4.out hl HI4.out.jl).mono ?_
    rintro e w5 ⟨rfl, be5⟩
    have HB5 := hid (HB4.out.trans (be5.mono HB4.out.size))
    refine hKK _ _ (fun _ => ⟨HC4.out.below be5, HI4.out.below be5⟩) ?_
    clear hKK KK be5
    iterate 1 (refine mix_free ?_ rfl (by kernel_rfl) (fun w' hS => ?_) ?_; (rotate_left; (go_simp; with_reducible rfl); rotate_left))
    refine mix_end (NoPanic.normal ?_)
    go_simp
    go_wp2
    go_ret
    exact ⟨by rw [HV.out]; rfl, HB5.out⟩
end Go.Proofs.YtffbdnlfknomnaaDoor.Wt
