/- The contract of newScale (package places) at short texts. -/
import Derived.Test.YtffbdnlfknomnaaDoorPcCl
import Derived.Laws.EntriesVeiled
namespace Go.Proofs.YtffbdnlfknomnaaDoor.Wt
open Go.RowKit Go.Shelf
attribute [local go_sem] Oper.semAt_some

theorem Tryd.info104 : (Tryd.prog.info? 104).map (fun i => (i.zero, i.size, i.bytes)) = some (some (.agg #[.int .i64 0, .int .i64 0]), 2, 16) := by kernel_rfl
theorem rise_len : ∀ {B : List Nat} {n : Nat}, B.Pairwise (· < ·) → (∀ p ∈ B, p < n) → B.length ≤ n
  | [], n, _, _ => Nat.zero_le _
  | p :: B, n, h, hn => by
    obtain ⟨h1, h2⟩ := List.pairwise_cons.1 h
    have e : (B.map (· - (p + 1))).Pairwise (· < ·) := by
      rw [List.pairwise_map]
      exact h2.imp_of_mem fun {a b} ha hb hab => by
        have := h1 a ha
        have := h1 b hb
        omega
    have h3 := rise_len (n := n - (p + 1)) e (fun q hq => by
      obtain ⟨z, hz, rfl⟩ := List.mem_map.1 hq
      have := h1 z hz
      have := hn z (List.mem_cons_of_mem _ hz)
      omega)
    rw [List.length_map] at h3
    have := hn p (List.mem_cons_self ..)
    rw [List.length_cons]
    omega
  termination_by B => B.length
theorem spot_new (w : World) (a b : Value) (t : Nat) : ∀ j u, [a, b][j]? = some u → (w.alloc (.cells #[a, b] t)).cell? ((⟨w.heap.size, 0, none⟩ : Addr).add j) = some u := fun j u h => by
  rw [Addr.add_lit, Nat.zero_add, (Cb.new w #[a, b] t).cell j]
  simpa using h
/-- What next is. -/
def nxt (o : Option (Nat × Nat)) : Nat := match o with
  | none => 0
  | some y => y.2 + 128
set_option maxHeartbeats 4000000 in
set_option maxRecDepth 100000 in
theorem newScale_in (m g : Nat) (E : List UInt8 → List Nat) (C : Cnt m g E) (l : List UInt8) (w : World) (ht : TbW w) (hl : l.length ≤ 100) :
    CallsIn Fence.wide 9 Tryd.prog 33 #[.string ⟨l.toArray⟩, .func (.func m) #[] #[]] w fun e W' => ∃ kv, e = .returned (.agg #[.string ⟨l.toArray⟩, .func (.func m) #[] #[], .int .i64 (E l).length, kv]) ∧ Kpd W' w.heap.size kv (kpt l 0 (E l)) ∧ Below w.heap.size w W' := by
  have HT := hid ht
  have h2 := ht.two
  have HC := hid C
  obtain ⟨L, hL⟩ := pn_all l (E l) (C.scl.lt l)
  have HL := hid hL
  have HLEN := hid (show L.length ≤ l.length by
    have h1 := rise_len (C.scl.rise l) (C.scl.lt l)
    rw [← hL, List.length_map] at h1
    exact h1)
  have em := C.em
  clear ht C hL
  refine callsIn_of_wp_marks Tryd.func33 rfl trivial ?_ rfl
  simp only [Tryd.ntmps33, List.size_toArray, List.length_cons, List.length_nil, Nat.reduceAdd, Nat.reduceSub, Array.replicate_succ, Array.replicate_zero, List.push_toArray, List.append_toArray, List.nil_append, List.cons_append]
  gi_wp2_with fail
  refine ⟨trivial, (callsIn_wide.2 (HC.out.made l _)).mono ?_⟩
  rintro e w' ⟨rfl, rfl⟩
  have HE : ∃ w4, w4 = ((((w.alloc (.cells #[.string ⟨l.toArray⟩] 9)).alloc (.cells #[.string ⟨#[]⟩, .nilFunc, .int .i64 0, .slice none 0 0] 75)).alloc (.cells #[.string ⟨l.toArray⟩, .func (.func m) #[] #[], .int .i64 0, .slice none 0 0] 75)).alloc (.cells #[.int .i64 0] 3)) := ⟨_, rfl⟩
  obtain ⟨w4, hw4⟩ := HE
  have hs4 : w4.heap.size = w.heap.size + 4 := by rw [hw4]; simp
  have b0 : Cb w4 w.heap.size #[.string ⟨l.toArray⟩] 9 := by rw [hw4]; exact (((Cb.new w _ _).alloc _).alloc _).alloc _
  have b1 : Cb w4 (w.heap.size + 1) #[.string ⟨#[]⟩, .nilFunc, .int .i64 0, .slice none 0 0] 75 := by
    have := ((Cb.new (w.alloc (.cells #[.string ⟨l.toArray⟩] 9)) #[.string ⟨#[]⟩, .nilFunc, .int .i64 0, .slice none 0 0] 75).alloc (.cells #[.string ⟨l.toArray⟩, .func (.func m) #[] #[], .int .i64 0, .slice none 0 0] 75)).alloc (.cells #[.int .i64 0] 3)
    rw [World.size_alloc] at this
    rw [hw4]; exact this
  have b2 : Cb w4 (w.heap.size + 1 + 1) #[.string ⟨l.toArray⟩, .func (.func m) #[] #[], .int .i64 0, .slice none 0 0] 75 := by
    have := (Cb.new ((w.alloc (.cells #[.string ⟨l.toArray⟩] 9)).alloc (.cells #[.string ⟨#[]⟩, .nilFunc, .int .i64 0, .slice none 0 0] 75)) #[.string ⟨l.toArray⟩, .func (.func m) #[] #[], .int .i64 0, .slice none 0 0] 75).alloc (.cells #[.int .i64 0] 3)
    rw [World.size_alloc, World.size_alloc] at this
    rw [hw4]; exact this
  have b3 : Cb w4 (w.heap.size + 1 + 1 + 1) #[.int .i64 0] 3 := by
    have := Cb.new (((w.alloc (.cells #[.string ⟨l.toArray⟩] 9)).alloc (.cells #[.string ⟨#[]⟩, .nilFunc, .int .i64 0, .slice none 0 0] 75)).alloc (.cells #[.string ⟨l.toArray⟩, .func (.func m) #[] #[], .int .i64 0, .slice none 0 0] 75)) #[.int .i64 0] 3
    rw [World.size_alloc, World.size_alloc, World.size_alloc] at this
    rw [hw4]; exact this
  have hB4 : Below w.heap.size w w4 := by rw [hw4]; exact ((((Below.refl _ _).alloc (Nat.le_refl _) _).alloc (by simp) _).alloc (by simp; omega) _).alloc (by simp; omega) _
  rw [← hw4]
  clear hw4
  have b4 := Boxed.new w4 9 (.string ⟨l.toArray⟩)
  have hB5 : Below w4.heap.size w4 (w4.alloc (.cells #[.string ⟨l.toArray⟩] 9)) := (Below.refl _ _).alloc (Nat.le_refl _) _
  obtain ⟨w5, hw5⟩ : ∃ w5, w5 = w4.alloc (.cells #[.string ⟨l.toArray⟩] 9) := ⟨_, rfl⟩
  have hs5 : w5.heap.size = w.heap.size + 5 := by rw [hw5]; simp; omega
  rw [hs4] at b4 ⊢
  rw [← hw5] at b4 hB5 ⊢
  clear hw5
  obtain ⟨N, hN⟩ : ∃ N, N = w.heap.size := ⟨_, rfl⟩
  have HE5 := hid (show WaAt (N + 4) l w5 from ⟨by rw [hN]; exact b4, (HT.out.below hB4).below hB5⟩)
  have HBW := hid (show Below N w w5 from (by rw [hN]; exact hB4.trans (hB5.mono (by omega))))
  have HB0 := hid (b0.below hB5)
  have HB1 := hid (b1.below hB5)
  have HB2 := hid (b2.below hB5)
  have HB3 := hid (b3.below hB5)
  rw [← hN] at hs5 HB0 HB1 HB2 HB3 h2 ⊢
  have HN := hid hN
  clear b0 b1 b2 b3 b4 hB4 hB5 hs4 hN em
  obtain ⟨i0, hi0, hz0, hz1, hz2⟩ := info_parts Tryd.info104
  have HI0 := hid (And.intro hi0 (And.intro hz0 (And.intro hz1 hz2)))
  clear hi0 hz0 hz1 hz2
  gi_wp2
  refine rangeO rfl (by omega) rfl trivial HC.out.eg (HC.out.seq (9 - 1) (N + 4) l L w5 (by omega) HL.out HE5.out (by omega)) Kt_t (Kt_b (by omega)) (Below.refl _ _) (fun _ => rfl)
    (fun pre V => (Cb V N #[.string ⟨l.toArray⟩] 9 ∧ Cb V (N + 1) #[.string ⟨#[]⟩, .nilFunc, .int .i64 0, .slice none 0 0] 75 ∧ Cb V (N + 1 + 1 + 1) #[.int .i64 (nxt (kpt l 0 (pre.map Pn.v)) : Nat)] 3 ∧ Below N w V ∧ N + 5 ≤ V.heap.size ∧ TbW V) ∧ ∃ kv, Cb V (N + 1 + 1) #[.string ⟨l.toArray⟩, .func (.func m) #[] #[], .int .i64 (pre.length : Nat), kv] 75 ∧ Kpd V (N + 5) kv (kpt l 0 (pre.map Pn.v)))
    (fun _ _ _ => False) ?own (fun _ _ _ _ _ h _ _ => h)
    ⟨⟨HB0.out, HB1.out, HB3.out, HBW.out, by omega, HE5.out.tb⟩, _, HB2.out, rfl⟩
    (fun x a' _ => a' = { tmps := #[.string ⟨l.toArray⟩, .func (.func m) #[] #[], .pointer (some ⟨N, 0, none⟩), undef, .pointer (some ⟨N + 1, 0, none⟩), .pointer (some ⟨N + 1 + 1, 0, none⟩), .pointer (some ⟨N + 1 + 1 + 1, 0, none⟩), .int .i64 (x.v : Nat), .string ⟨l.toArray⟩, .func (.func m) #[] #[], .agg #[.string ⟨l.toArray⟩, .func (.func m) #[] #[], .int .i64 0, .slice none 0 0], .func (.func m) #[] #[], .string ⟨l.toArray⟩, .func (.func g) #[] #[.pointer (some ⟨N + 4, 0, none⟩)], .int .i64 (x.v : Nat), undef, undef, undef, undef, undef, undef, undef, undef, undef, undef, undef, undef, undef, undef, undef, undef, undef, undef, undef, undef, undef, undef, undef, undef], defers := [] })
    (fun _ _ _ _ _ _ h _ _ => h) ?assign ?body ?done ?stop
  case own =>
    rintro pre A C row ⟨⟨k0, k1, k3, kb, ks, kt⟩, kv, k2, kk⟩ hg hr
    refine ⟨⟨cb_keep k0 hg hr, cb_keep k1 hg hr, cb_keep k3 hg hr, ?_, Nat.le_trans ks hg.size, ?_⟩, kv, cb_keep k2 hg hr, kpd_keep kk hg hr⟩
    · refine kb.trans ⟨hg.os, hg.tape, hg.output, hg.size, fun k hk => hg.block k (by omega) fun e => ?_⟩
      have := (hr k e.symm).1
      omega
    · refine ⟨⟨fun c hc => cell_kept (kt.tabs.1 c hc) hg (fun r e => (hr r e).2), fun i hi => ⟨cell_kept (kt.tabs.2 i hi).1 hg (fun r e => (hr r e).2), cell_kept (kt.tabs.2 i hi).2 hg (fun r e => (hr r e).2)⟩⟩, by have := hg.size; omega⟩
  case assign =>
    intro lp2 pre x V K hI hK
    dsimp only [encN]
    gi_wp2
    exact hK _ _ (KeepsFrom.refl _ _) (Kt.refl _) hI rfl
  case body =>
    rintro lp2 pre x a' V hlp _ ⟨⟨k0, k1, k3, kb, ks, htb⟩, kv, k2, kk⟩ rfl hlt
    obtain ⟨p, hp⟩ : ∃ p, p = x.v := ⟨_, rfl⟩
    have hpl := x.lt
    have hlen : pre.length < 100 := by
      have h1 : L.length ≤ l.length := HLEN.out
      omega
    have HSN := hid (kpt_snoc l (pre.map Pn.v) 0 x.v)
    have HMP := hid (show (pre ++ [x]).map Pn.v = pre.map Pn.v ++ [x.v] by simp)
    rw [List.length_map, Nat.zero_add] at HSN
    rw [← hp] at hpl HSN HMP ⊢
    have c0 := k0.cell 0
    have c3 := k3.cell 0
    have s2 := k2.cell 2
    have s3 := k2.cell 3
    have f2 := k2.frozen 2
    have f3 := k2.frozen 3
    have g3 := k3.frozen 0
    simp only [List.getElem?_toArray, List.getElem?_cons_zero, List.getElem?_cons_succ] at c0 c3 s2 s3
    have HK0 := hid k0
    have HK1 := hid k1
    have HK2 := hid k2
    have HK3 := hid k3
    have HKB := hid kb
    have HKK := hid kk
    have HTB := hid htb
    have hp0 : (0 : Int) ≤ (p : Int) := by omega
    have HF : ∀ (V' : World) (kv' : Value) (o' : Option (Nat × Nat)), Bd N V V' → o' = kpt l 0 ((pre ++ [x]).map Pn.v) → Cb V' (N + 1 + 1 + 1) #[.int .i64 (nxt o' : Nat)] 3 → Cb V' (N + 1 + 1) #[.string ⟨l.toArray⟩, .func (.func m) #[] #[], .int .i64 ((pre.length : Int) + 1), kv'] 75 → Cb V' N #[.string ⟨l.toArray⟩] 9 → Cb V' (N + 1) #[.string ⟨#[]⟩, .nilFunc, .int .i64 0, .slice none 0 0] 75 → Kpd V' (N + 5) kv' o' →
        ownPostG w5.heap.size Kt (fun pre V => (Cb V N #[.string ⟨l.toArray⟩] 9 ∧ Cb V (N + 1) #[.string ⟨#[]⟩, .nilFunc, .int .i64 0, .slice none 0 0] 75 ∧ Cb V (N + 1 + 1 + 1) #[.int .i64 (nxt (kpt l 0 (pre.map Pn.v)) : Nat)] 3 ∧ Below N w V ∧ N + 5 ≤ V.heap.size ∧ TbW V) ∧ ∃ kv, Cb V (N + 1 + 1) #[.string ⟨l.toArray⟩, .func (.func m) #[] #[], .int .i64 (pre.length : Nat), kv] 75 ∧ Kpd V (N + 5) kv (kpt l 0 (pre.map Pn.v))) (fun _ _ _ => False) (pre ++ [x]) V .normal { tmps := #[], defers := [] } V' := by
      intro V' kv' o' hbd ho q3 q2 q0 q1 qk
      subst ho
      exact ⟨hbd.others.from _, hbd.kt, ⟨q0, q1, q3, HKB.out.trans hbd.low, by have := hbd.low.size; omega, HTB.out.kt hbd.kt⟩, kv', by rw [List.length_append]; exact q2, qk⟩
    have HFF := hid HF
    have hle1 : (pre.length : Int) + 1 < 1000 := by omega
    clear k0 k1 k2 k3 kb kk htb HF hp
    cases hko : kpt l 0 (pre.map Pn.v) with
    | some y =>
      rw [hko] at c3 HSN HK3 HKK
      have hy : (y.2 : Int) + 128 > (p : Int) := by omega
      have hny : ¬ (y.2 : Int) + 128 ≤ (p : Int) := by omega
      have hc3 : V.cell? ⟨N + 1 + 1 + 1, 0, none⟩ = some (.int .i64 ((y.2 : Int) + 128)) := by rw [c3]; simp [nxt]
      clear c3 hy
      gi_wp2_with fail
      refine ⟨trivial, ?_⟩
      gi_wp2
      refine HFF.out _ kv (some y) (Bd.set HK2.out rfl h2 (by omega) 2 _) (by rw [HMP.out, HSN.out]) (HK3.out.other (by omega) 2 _) (HK2.out.set 2 _) (HK0.out.other (by omega) 2 _) (HK1.out.other (by omega) 2 _) (HKK.out.other (by omega) 2 _)
    | none =>
      rw [hko] at c3 HSN HK3 HKK
      have hc3 : V.cell? ⟨N + 1 + 1 + 1, 0, none⟩ = some (.int .i64 0) := by rw [c3]; simp [nxt]
      clear c3
      have hkv : kv = .slice none 0 0 := HKK.out
      subst hkv
      gi_wp2_with fail
      refine ⟨trivial, (CallsIn.inRound lp2 (callsIn_wide.2 (is_any l p V (by omega) HTB.out.tabs HTB.out.two))).mono ?_⟩
      rintro e V1 ⟨rfl, be⟩
      have HBE := hid be
      have HBD := hid (Bd.below (N := N) be (by omega) (by omega))
      have q0 := HK0.out.below be
      have q1 := HK1.out.below be
      have q2 := HK2.out.below be
      have q3 := HK3.out.below be
      have c2' := q2.cell 2
      have c3' := q2.cell 3
      have f2' := q2.frozen 2
      have f3' := q2.frozen 3
      have hs1 := be.size
      simp only [List.getElem?_toArray, List.getElem?_cons_zero, List.getElem?_cons_succ] at c2' c3'
      have HQ0 := hid q0
      have HQ1 := hid q1
      have HQ2 := hid q2
      have HQ3 := hid q3
      clear be q0 q1 q2 q3 c0 hc3 s2 s3 f2 f3 g3
      cases hE : isE l p with
      | false =>
        rw [hE] at HSN
        clear hE
        gi_wp2
        exact HFF.out _ (.slice none 0 0) none (HBD.out.trans (Bd.set HQ2.out rfl h2 (by omega) 2 _)) (by rw [HMP.out, HSN.out]; rfl) (HQ3.out.other (by omega) 2 _) (HQ2.out.set 2 _) (HQ0.out.other (by omega) 2 _) (HQ1.out.other (by omega) 2 _) rfl
      | true =>
        rw [hE] at HSN
        clear hE
        gi_wp2_with (gi_at_builtin; refine wpListIn_append_own _ rfl _ _ 73 rfl (N + 5) 104 i0 (.agg #[.int .i64 0, .int .i64 0]) 2 16 Tryd.underlying73 HI0.out.1 HI0.out.2.1 HI0.out.2.2.1 HI0.out.2.2.2 rfl (by decide) (.slice none 0 0) 0 [] rfl (World.ownsRow_nil _ _ _ _) ⟨V1.heap.size, 0, none⟩ 1 1 [.int .i64 (pre.length : Nat), .int .i64 (p : Nat)] rfl rfl (spot_new _ _ _ _) (by simp [Value.oneCell']) (by unfold maxLen; omega) (by omega) (by simp; omega) ?_; intro v' w6 hown' hgrow _; obtain ⟨g', cap', rfl⟩ := ownsRow_succ hown'; have r2 := (HQ2.out.alloc (.cells #[.int .i64 (pre.length : Nat), .int .i64 (p : Nat)] 104)).kept hgrow (by simp [Value.ownBlock]); have r3 := (HQ3.out.alloc (.cells #[.int .i64 (pre.length : Nat), .int .i64 (p : Nat)] 104)).kept hgrow (by simp [Value.ownBlock]); have t2 := r2.cell 2; have t3 := r2.cell 3; have u2 := r2.frozen 2; have u3 := r2.frozen 3; have t0 := r3.cell 0; have u0 := r3.frozen 0; simp only [List.getElem?_toArray, List.getElem?_cons_zero, List.getElem?_cons_succ] at t2 t3 t0)
        have hgb : Below V1.heap.size V1 w6 := ((Below.refl _ _).alloc (Nat.le_refl _) (.cells #[.int .i64 (pre.length : Nat), .int .i64 (p : Nat)] 104)).trans ⟨hgrow.os, hgrow.tape, hgrow.output, hgrow.size, fun k hk => hgrow.block k (by simp; omega) (by simp [Value.ownBlock])⟩
        have r0 := HQ0.out.below hgb
        have r1 := HQ1.out.below hgb
        have hk6 : Kpd w6 (N + 5) (.slice (some ⟨g', 0, none⟩) 1 cap') (some (pre.length, p)) := by
          obtain ⟨l1, l2⟩ := hown'.lt g' rfl
          exact ⟨g', cap', rfl, l1, l2, by rw [hown'.cellAt 0 (by omega)]; rfl, by rw [hown'.cellAt 1 (by omega)]; rfl⟩
        have bd6 := HBD.out.trans (Bd.below (N := N) hgb (by omega) (by omega))
        have y2 := (r2.set 3 (.slice (some ⟨g', 0, none⟩) 1 cap')).other (B' := N + 1 + 1 + 1) (by omega) 0 (.int .i64 ((p : Int) + 128))
        have y3 := (r3.other (B' := N + 1 + 1) (by omega) 3 (.slice (some ⟨g', 0, none⟩) 1 cap')).set 0 (.int .i64 ((p : Int) + 128))
        rw [hs5] at HFF
        refine HFF.out _ (.slice (some ⟨g', 0, none⟩) 1 cap') (some (pre.length, p)) (((bd6.trans (Bd.set r2 rfl h2 (by omega) 3 _)).trans (Bd.set (r3.other (by omega) 3 _) rfl h2 (by omega) 0 _)).trans (Bd.set y2 rfl h2 (by omega) 2 _)) (by rw [HMP.out, HSN.out]; rfl) ?_ (y2.set 2 _) (((r0.other (by omega) 3 _).other (by omega) 0 _).other (by omega) 2 _) (((r1.other (by omega) 3 _).other (by omega) 0 _).other (by omega) 2 _) (((hk6.other (by omega) 3 _).other (by omega) 0 _).other (by omega) 2 _)
        have := y3.other (B' := N + 1 + 1) (by omega) 2 (.int .i64 ((pre.length : Int) + 1))
        simpa [nxt] using this
  case done =>
    rintro D xs V hD rfl ⟨⟨k0, k1, k3, kb, ks, htb⟩, kv, k2, kk⟩ hK
    have a0 := k2.cell 0
    have a1 := k2.cell 1
    have a2 := k2.cell 2
    have a3 := k2.cell 3
    have d0 := k1.cell 0
    have d1 := k1.cell 1
    have d2 := k1.cell 2
    have d3 := k1.cell 3
    have e0 := k1.frozen 0
    have e1 := k1.frozen 1
    have e2 := k1.frozen 2
    have e3 := k1.frozen 3
    simp only [List.getElem?_toArray, List.getElem?_cons_zero, List.getElem?_cons_succ] at a0 a1 a2 a3 d0 d1 d2 d3
    have HLn := hid (show (E l).length = xs.length by rw [← HL.out, List.length_map])
    rw [HL.out] at kk
    have HKK := hid kk
    have HK1 := hid k1
    have HKB := hid kb
    have HD := hid hD
    have HKD := hid hK
    clear k0 k1 k3 kb ks htb k2 kk hK hD
    obtain ⟨sg, sl, sc, rfl⟩ : ∃ sg sl sc, kv = .slice sg sl sc := by
      have h := HKK.out
      cases ho : kpt l 0 (E l) with
      | none => rw [ho] at h; exact ⟨none, 0, 0, h⟩
      | some y => rw [ho] at h; obtain ⟨gg, cc, h1, _⟩ := h; exact ⟨_, _, _, h1⟩
    gi_wp2
    have hD := HD.out
    have q : Cb ((((V.setCell ⟨N + 1, 0, none⟩ (.string ⟨l.toArray⟩)).setCell ⟨N + 1, 1, none⟩ (.func (.func m) #[] #[])).setCell ⟨N + 1, 2, none⟩ (.int .i64 (xs.length : Nat))).setCell ⟨N + 1, 3, none⟩ (.slice sg sl sc)) (N + 1) #[.string ⟨l.toArray⟩, .func (.func m) #[] #[], .int .i64 (xs.length : Nat), .slice sg sl sc] 75 := (((HK1.out.set 0 _).set 1 _).set 2 _).set 3 _
    have hd : ((((V.setCell ⟨N + 1, 0, none⟩ (.string ⟨l.toArray⟩)).setCell ⟨N + 1, 1, none⟩ (.func (.func m) #[] #[])).setCell ⟨N + 1, 2, none⟩ (.int .i64 (xs.length : Nat))).setCell ⟨N + 1, 3, none⟩ (.slice sg sl sc)).heap[D]? = some (.deferred (some [])) := by
      rw [Below.heap_setCell _ _ _ D (by show D ≠ N + 1; omega), Below.heap_setCell _ _ _ D (by show D ≠ N + 1; omega), Below.heap_setCell _ _ _ D (by show D ≠ N + 1; omega), Below.heap_setCell _ _ _ D (by show D ≠ N + 1; omega)]
      exact HKD.out
    have hk := (((HKK.out.other (B := N + 1) (by omega) 0 (.string ⟨l.toArray⟩)).other (B := N + 1) (by omega) 1 (.func (.func m) #[] #[])).other (B := N + 1) (by omega) 2 (.int .i64 (xs.length : Nat))).other (B := N + 1) (by omega) 3 (.slice sg sl sc)
    have hb : Below N w ((((V.setCell ⟨N + 1, 0, none⟩ (.string ⟨l.toArray⟩)).setCell ⟨N + 1, 1, none⟩ (.func (.func m) #[] #[])).setCell ⟨N + 1, 2, none⟩ (.int .i64 (xs.length : Nat))).setCell ⟨N + 1, 3, none⟩ (.slice sg sl sc)) := (((HKB.out.setCell (p := ⟨N + 1, 0, none⟩) (by show N ≤ N + 1; omega) _).setCell (p := ⟨N + 1, 1, none⟩) (by show N ≤ N + 1; omega) _).setCell (p := ⟨N + 1, 2, none⟩) (by show N ≤ N + 1; omega) _).setCell (p := ⟨N + 1, 3, none⟩) (by show N ≤ N + 1; omega) _
    generalize (((V.setCell ⟨N + 1, 0, none⟩ (.string ⟨l.toArray⟩)).setCell ⟨N + 1, 1, none⟩ (.func (.func m) #[] #[])).setCell ⟨N + 1, 2, none⟩ (.int .i64 (xs.length : Nat))).setCell ⟨N + 1, 3, none⟩ (.slice sg sl sc) = V4 at *
    refine ⟨by simp, .inl ⟨_, _, rfl, run_takeDeferred hd, ?_⟩⟩
    refine ⟨_, results_cell_row rfl _ _ (N + 1) 75 #[.string ⟨l.toArray⟩, .func (.func m) #[] #[], .int .i64 (xs.length : Nat), .slice sg sl sc] (0, 0) _ rfl ((World.putObj_heap_other (by omega)).trans q) Tryd.underlying75 rfl (by kernel_rfl), .slice sg sl sc, by rw [HLn.out], ?_, ?_⟩
    · exact (kpd_keep (n := 0) hk (grownBy_putObj' V4 D _) (fun r e => by cases e; exact ⟨Nat.zero_le _, _, hd, rfl⟩)).low (by have := HN.out; omega)
    · rw [← HN.out]
      exact hb.trans (belowK_b (w := w5) (by omega) V4 D _ _ (by omega) hd rfl rfl)
  case stop =>
    rintro D c pre V _ _ h _
    exact h.elim
theorem newScale_any (m g : Nat) (E : List UInt8 → List Nat) (C : Cnt m g E) (l : List UInt8) (w : World) (ht : TbW w) (hl : l.length ≤ 100) :
    Calls Tryd.prog 33 #[.string ⟨l.toArray⟩, .func (.func m) #[] #[]] w fun e W' => ∃ kv, e = .returned (.agg #[.string ⟨l.toArray⟩, .func (.func m) #[] #[], .int .i64 (E l).length, kv]) ∧ Kpd W' w.heap.size kv (kpt l 0 (E l)) ∧ Below w.heap.size w W' := callsIn_wide.1 (newScale_in m g E C l w ht hl)
end Go.Proofs.YtffbdnlfknomnaaDoor.Wt
