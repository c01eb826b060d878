/- The contract of Plain (package width). -/
import Derived.Test.YtlfegdpclappiaaDoorWtFit
import Derived.Test.YtlfegdpclappiaaDoorBld2
namespace Go.Proofs.YtlfegdpclappiaaDoor
open Go.RowKit Go.Shelf
attribute [local go_sem] Oper.semAt_some

/-- What Plain writes for a letter. -/
def plO (a t c : Int) (m : List UInt8) : List UInt8 := if byt m 0 = 9 then List.replicate (bhd a t c m - c).toNat 32 else m
/-- What it has written behind letters, by their places. -/
def plP (l : List UInt8) (a t s : Int) (xs : List (Nat × Nat)) : Int × List UInt8 := xs.foldl (fun q x => (bhd a t q.1 ((l.take x.2).drop x.1), q.2 ++ plO a t q.1 ((l.take x.2).drop x.1))) (s, [])
theorem plP_fst (l : List UInt8) (a t : Int) : ∀ (xs : List (Nat × Nat)) (q : Int × List UInt8), (xs.foldl (fun q x => (bhd a t q.1 ((l.take x.2).drop x.1), q.2 ++ plO a t q.1 ((l.take x.2).drop x.1))) q).1 = colP l a t q.1 xs
  | [], _ => rfl
  | _ :: xs, _ => plP_fst l a t xs _
theorem plP_snoc (l : List UInt8) (a t s : Int) (xs : List (Nat × Nat)) (x : Nat × Nat) : (plP l a t s (xs ++ [x])).2 = (plP l a t s xs).2 ++ plO a t (colP l a t s xs) ((l.take x.2).drop x.1) := by
  have h := plP_fst l a t xs (s, [])
  unfold plP
  rw [List.foldl_append]
  simp only [List.foldl_cons, List.foldl_nil]
  rw [h]
theorem plO_len (a t s c : Int) (m : List UInt8) (h : Okc a t s) (h0 : 0 ≤ c) (hm : m.length ≤ 1000) : (plO a t c m).length ≤ 1000 := by
  have hb := bhd_bd a t s c m h h0
  unfold plO
  split
  · rw [List.length_replicate]; omega
  · exact hm
theorem plP_len (l : List UInt8) (a t s : Int) (h : Okc a t s) (hl : l.length ≤ 1000) : ∀ (xs : List (Nat × Nat)) (q : Int × List UInt8), 0 ≤ q.1 → (xs.foldl (fun q x => (bhd a t q.1 ((l.take x.2).drop x.1), q.2 ++ plO a t q.1 ((l.take x.2).drop x.1))) q).2.length ≤ q.2.length + 1000 * xs.length
  | [], q, _ => by simp
  | x :: xs, q, h0 => by
    have hm : ((l.take x.2).drop x.1).length ≤ 1000 := by rw [List.length_drop, List.length_take]; omega
    have h1 := plO_len a t s q.1 _ h h0 hm
    have h2 := (bhd_bd a t s q.1 ((l.take x.2).drop x.1) h h0).1
    have h3 := plP_len l a t s h hl xs (bhd a t q.1 ((l.take x.2).drop x.1), q.2 ++ plO a t q.1 ((l.take x.2).drop x.1)) h2
    rw [List.foldl_cons, List.length_cons]
    simp only [List.length_append] at h3
    omega
theorem rep_32 (n : Nat) : (⟨(Lib.repeatL (⟨#[32]⟩ : ByteArray).data.toList n).toArray⟩ : ByteArray) = ⟨(List.replicate n 32).toArray⟩ := by
  congr 2
  induction n with
  | zero => rfl
  | succ n ih => rw [List.replicate_succ, ← ih]; rfl
set_option maxHeartbeats 4000000 in
set_option maxRecDepth 100000 in
theorem wplain_in (l : List UInt8) (a t s : Int) (w : World) (ht : TbW w) (hl : l.length ≤ 1000) (hk : Okc a t s) :
    CallsIn Fence.wide 3 Tryd.prog 22 #[.string ⟨l.toArray⟩, .agg #[.int .i64 a, .int .i64 t, .int .i64 s]] w fun e W' => e = .returned (.string ⟨(plP l a t s (gpF l 0)).2.toArray⟩) ∧ Below w.heap.size w W' := by
  have HT := hid ht
  have HK := hid hk
  have hs0 := hk.s1
  have hs1 := hk.s2
  have HCK := hid (show chkE a t s = 0 by unfold chkE; rw [if_pos ((okc_is a t s).2 hk)])
  clear ht hk
  obtain ⟨L, hL, hLl⟩ := gp_all l _ 0 (Nat.le_refl _)
  have HL := hid hL
  have hll : L.length ≤ 1000 := by omega
  clear hL hLl
  refine callsIn_of_wp_marks Tryd.func22 rfl trivial ?_ rfl
  simp only [Tryd.ntmps22, List.size_toArray, List.length_cons, List.length_nil, Nat.reduceAdd, Nat.reduceSub, Array.replicate_succ, Array.replicate_zero, List.push_toArray, List.append_toArray, List.nil_append, List.cons_append]
  gi_wp2_with fail
  have b0 := (Boxed.new w 9 (.string ⟨l.toArray⟩)).alloc (.cells #[.int .i64 a, .int .i64 t, .int .i64 s] 36)
  have b1 : ((w.alloc (.cells #[.string ⟨l.toArray⟩] 9)).alloc (.cells #[.int .i64 a, .int .i64 t, .int .i64 s] 36)).heap[w.heap.size + 1]? = some (.cells #[.int .i64 a, .int .i64 t, .int .i64 s] 36 (0, 0)) := by
    have := World.alloc_heap_new (w.alloc (.cells #[.string ⟨l.toArray⟩] 9)) (.cells #[.int .i64 a, .int .i64 t, .int .i64 s] 36)
    rwa [World.size_alloc] at this
  have hsz0 : ((w.alloc (.cells #[.string ⟨l.toArray⟩] 9)).alloc (.cells #[.int .i64 a, .int .i64 t, .int .i64 s] 36)).heap.size = w.heap.size + 2 := by simp
  have hB0 : Below w.heap.size w ((w.alloc (.cells #[.string ⟨l.toArray⟩] 9)).alloc (.cells #[.int .i64 a, .int .i64 t, .int .i64 s] 36)) := ((Below.refl _ _).alloc (Nat.le_refl _) _).alloc (by simp) _
  obtain ⟨w0, hw0⟩ : ∃ w0, w0 = (w.alloc (.cells #[.string ⟨l.toArray⟩] 9)).alloc (.cells #[.int .i64 a, .int .i64 t, .int .i64 s] 36) := ⟨_, rfl⟩
  rw [← hw0] at b0 b1 hsz0 hB0 ⊢
  clear hw0
  refine ⟨trivial, (callsIn_wide.2 (wcheck_any a t s w0)).mono ?_⟩
  rintro e w1 ⟨rfl, be1⟩
  rw [HCK.out]
  obtain ⟨N, hN⟩ : ∃ N, N = w.heap.size := ⟨_, rfl⟩
  rw [← hN] at b0 b1 hsz0 hB0 ⊢
  have hb1 : Boxed w1 N 9 (.string ⟨l.toArray⟩) := (be1.block _ (by omega)).trans b0
  have hb2 : w1.heap[N + 1]? = some (.cells #[.int .i64 a, .int .i64 t, .int .i64 s] 36 (0, 0)) := (be1.block _ (by omega)).trans b1
  have HB1 := hid (show Below N w w1 from hB0.trans (be1.mono (by omega)))
  have hlt1 : N + 1 < w1.heap.size := by have := be1.size; omega
  have hlt0 : N < w1.heap.size := by omega
  have c0 := hb1.cell
  have h2 : 2 ≤ N := by rw [hN]; exact HT.out.two
  have HN := hid hN
  clear be1 b0 b1 hB0 hsz0 hN
  gi_wp2_with fail
  obtain ⟨b, hb⟩ : ∃ b, b = w1.heap.size := ⟨_, rfl⟩
  have hbk : (w1.alloc (.cells #[.pointer none, .slice none 0 0] 62)).heap[b]? = some (.cells #[.pointer none, .slice none 0 0] 62 (0, 0)) := by rw [hb]; exact World.alloc_heap_new w1 _
  have hba : Below b w1 (w1.alloc (.cells #[.pointer none, .slice none 0 0] 62)) := by rw [hb]; exact (Below.refl _ _).alloc (Nat.le_refl _) _
  have hbs : (w1.alloc (.cells #[.pointer none, .slice none 0 0] 62)).heap.size = b + 1 := by rw [hb]; simp
  rw [← hb] at hlt0 hlt1 ⊢
  refine ⟨trivial, (callsIn_wide.2 (Tryd.Builder_Grow_fresh b b l.length _ (Nat.le_refl _) hbk (by omega) (by omega))).mono ?_⟩
  rintro e w2 ⟨rfl, hG, be2⟩
  have hB12 : Below b w1 w2 := hba.trans be2
  have hb12 : Boxed w2 N 9 (.string ⟨l.toArray⟩) := (hB12.block _ hlt0).trans hb1
  have hb22 : w2.heap[N + 1]? = some (.cells #[.int .i64 a, .int .i64 t, .int .i64 s] 36 (0, 0)) := (hB12.block _ hlt1).trans hb2
  have HB2 := hid (show Below N w w2 from HB1.out.trans (hB12.mono (by omega)))
  have hs2 : b + 1 ≤ w2.heap.size := by have := be2.size; omega
  have HBF := hid (Lib.IsBuilderF.of (.inr hG))
  have c1 : w2.cell? ⟨N + 1, 0, none⟩ = some (.int .i64 a) := by simp [World.cell?, hb22]
  have c2 : w2.cell? ⟨N + 1, 1, none⟩ = some (.int .i64 t) := by simp [World.cell?, hb22]
  have c3 : w2.cell? ⟨N + 1, 2, none⟩ = some (.int .i64 s) := by simp [World.cell?, hb22]
  have c4 := hb12.cell
  have hltM : N < w2.heap.size := by omega
  have b3 := (Boxed.new w2 3 (.int .i64 s)).alloc (.cells #[.string ⟨l.toArray⟩] 9)
  have b4 := Boxed.new (w2.alloc (.cells #[.int .i64 s] 3)) 9 (.string ⟨l.toArray⟩)
  have hB3 : Below w2.heap.size w2 ((w2.alloc (.cells #[.int .i64 s] 3)).alloc (.cells #[.string ⟨l.toArray⟩] 9)) := ((Below.refl _ _).alloc (Nat.le_refl _) _).alloc (by simp) _
  have hs3 : ((w2.alloc (.cells #[.int .i64 s] 3)).alloc (.cells #[.string ⟨l.toArray⟩] 9)).heap.size = w2.heap.size + 2 := by simp
  rw [World.size_alloc] at b4
  clear hbk hba hbs be2 hG c0 hb1 hb2 hb HB1 hB12
  gi_wp2_with (refine ⟨trivial, ?_⟩; gi_at_call 23; refine (callsIn_wide.2 (geach_any l _)).mono ?_; rintro e w' ⟨rfl, rfl⟩)
  obtain ⟨w3, hw3⟩ : ∃ w3, w3 = (w2.alloc (.cells #[.int .i64 s] 3)).alloc (.cells #[.string ⟨l.toArray⟩] 9) := ⟨_, rfl⟩
  rw [← hw3] at b3 b4 hB3 hs3 ⊢
  clear hw3
  obtain ⟨M, hM⟩ : ∃ M, M = w2.heap.size := ⟨_, rfl⟩
  have HBF3 := hid (bf_below HBF.out hB3)
  rw [← hM] at b3 b4 hs3 hB3 hs2 hltM ⊢
  have HI0 := hid (And.intro (And.intro (show Boxed w3 N 9 (.string ⟨l.toArray⟩) from (hB3.block _ hltM).trans hb12) ((hB3.block _ (by omega)).trans hb22)) b3)
  have HBw := hid (show Below N w w3 from HB2.out.trans (hB3.mono (by omega)))
  have HEa := hid (show WaAt (M + 1) l w3 from ⟨b4, HT.out.below (by rw [← HN.out]; exact HBw.out)⟩)
  have HS3 := hid hs3
  clear hb12 hb22 b3 b4 hB3 hs3 hM HB2 HBF c1 c2 c3 c4
  refine rfRF (M + 1) (BSu b (fun k => k = b ∨ k = M)) L (by omega) rfl HL.out HEa.out (by omega) rfl (fun W => BSu.refl _ _ W) (fun h k => h.trans k) (fun h => h.others) (fun h he => h.keeps (by omega) (fun h => by omega) he) (bsu_from b _ w3 (by have := HS3.out; omega))
    (fun pre W => ((Boxed W N 9 (.string ⟨l.toArray⟩) ∧ W.heap[N + 1]? = some (.cells #[.int .i64 a, .int .i64 t, .int .i64 s] 36 (0, 0))) ∧ Boxed W M 3 (.int .i64 (colP l a t s (pre.map Pl.v)))) ∧ Lib.IsBuilderF 62 5 b b (Lib.byteCells (plP l a t s (pre.map Pl.v)).2) W)
    (fun _ _ _ => False)
    (OwnFrom.and (OwnFrom.and (OwnFrom.and (Own.from (boxed_own _ _ _) _) (cells_from _ _ _ _)) (Own.from (boxed_own _ _ (fun pre : List (Pl l) => Value.int .i64 (colP l a t s (pre.map Pl.v)))) _)) (Own.from (builderF_own b b (fun pre : List (Pl l) => Lib.byteCells (plP l a t s (pre.map Pl.v)).2)) _))
    (fun _ _ _ _ _ hs _ _ => hs)
    ⟨⟨HI0.out.1, HI0.out.2⟩, HBF3.out⟩ 7 8 ?assign ?body ?done ?stop
  case assign =>
    intro lp x W K hK
    dsimp only [encP]
    gi_wp2
    simpa [fr, encP] using hK
  case body =>
    rintro lp pre x W ⟨⟨⟨v0, v1⟩, v2⟩, vb⟩ hb he hlt
    have hx1 := x.lt
    have hx2 := x.le
    obtain ⟨f, hf⟩ : ∃ f, f = x.v.1 := ⟨_, rfl⟩
    obtain ⟨z, hx⟩ : ∃ z, z = x.v.2 := ⟨_, rfl⟩
    have hcb := colP_bd l a t s HK.out (pre.map Pl.v) s hs0
    have hpb := plP_len l a t s HK.out hl (pre.map Pl.v) (s, []) hs0
    rw [List.length_map] at hcb hpb
    have hpb2 : (plP l a t s (pre.map Pl.v)).2.length ≤ 1000000 := by
      have e : (plP l a t s (pre.map Pl.v)).2.length ≤ 0 + 1000 * pre.length := hpb
      omega
    clear hpb
    have HSN := hid (colP_snoc l a t s (pre.map Pl.v) x.v)
    have HPS := hid (plP_snoc l a t s (pre.map Pl.v) x.v)
    obtain ⟨c, hc⟩ : ∃ c, c = colP l a t s (pre.map Pl.v) := ⟨_, rfl⟩
    obtain ⟨o, ho⟩ : ∃ o, o = (plP l a t s (pre.map Pl.v)).2 := ⟨_, rfl⟩
    rw [← hc] at hcb v2 HSN HPS
    rw [← ho] at vb hpb2 HPS
    rw [← hf, ← hx] at HSN HPS
    have HEX := hid (ext_piece l f z (by omega))
    have HLE := hid (show ((l.take z).drop f).length = z - f by rw [List.length_drop, List.length_take]; omega)
    obtain ⟨m, hm⟩ : ∃ m, m = (l.take z).drop f := ⟨_, rfl⟩
    rw [← hm] at HEX HLE HSN HPS
    have hml : m.length ≤ 1000 := by have := HLE.out; omega
    have hm0 : 0 < m.length := by have := HLE.out; omega
    have hbd := bhd_bd a t s c m HK.out hcb.1
    dsimp only [fr, encP]
    rw [← hf, ← hx] at hx1 ⊢
    rw [← hx] at hx2
    clear hf hx hc ho hm
    have HE := hid he.tb
    have HVB := hid vb
    have HV := hid (And.intro v0 (And.intro v1 v2))
    have c0 := v0.cell
    have c1 : W.cell? ⟨N + 1, 0, none⟩ = some (.int .i64 a) := by simp [World.cell?, v1]
    have c2 : W.cell? ⟨N + 1, 1, none⟩ = some (.int .i64 t) := by simp [World.cell?, v1]
    have c3 : W.cell? ⟨N + 1, 2, none⟩ = some (.int .i64 s) := by simp [World.cell?, v1]
    have c4 := v2.cell
    have hWs : M + 2 ≤ W.heap.size := by have := hb.others.size; have := HS3.out; omega
    clear v0 v1 vb
    gi_wp2_with fail
    rw [HEX.out]
    refine ⟨trivial, CallsIn.inRound lp (callsIn_wide.2 ((wbehind_any m c a t s W HE.out (by omega) hm0 HK.out hcb.1 (by omega)).mono ?_))⟩
    rintro e W1 ⟨rfl, be1⟩
    rw [← HSN.out]
    rw [← HSN.out] at hbd
    have HPO := hid (show plO a t c m = if byt m 0 = 9 then List.replicate (colP l a t s (List.map Pl.v pre ++ [x.v]) - c).toNat 32 else m by unfold plO; rw [← HSN.out])
    obtain ⟨c', hc'⟩ : ∃ c', c' = colP l a t s (List.map Pl.v pre ++ [x.v]) := ⟨_, rfl⟩
    rw [← hc'] at hbd HPO HSN ⊢
    have HC' := hid hc'
    have HB1 := hid be1
    have x1 : Boxed W1 M 3 (.int .i64 c) := (be1.block _ v2.lt).trans v2
    have HX1 := hid x1
    have e1 := x1.cell
    clear be1 hc' c0 c1 c2 c3 c4 v2 x1
    gi_wp2_with fail
    refine ⟨trivial, CallsIn.inRound lp (callsIn_wide.2 ((wtab_any m W1 hm0).mono ?_))⟩
    rintro e W2 ⟨rfl, hW2⟩
    obtain rfl := hW2.symm
    clear hW2
    by_cases h9 : byt m 0 = 9
    · have b9 : (byt m 0 == 9) = true := beq_iff_eq.2 h9
      rw [b9]
      have HOO := hid (show plO a t c m = List.replicate (c' - c).toNat 32 by rw [HPO.out, if_pos h9])
      have htb := tab_bd t c HK.out.t1 HK.out.t2
      have hcc : c < c' := by
        have h := HSN.out
        unfold bhd at h
        have h0 : ¬ elR (dec m).1 = true := by
          have hne : m ≠ [] := List.length_pos_iff.1 hm0
          rw [(byt_9 m hne).1 h9]; decide
        rw [if_neg h0, if_pos h9] at h
        omega
      obtain ⟨n, hn⟩ : ∃ n : Nat, (n : Int) = c' - c := ⟨(c' - c).toNat, by omega⟩
      have hn1 : n ≤ 1000 := by omega
      rw [show (c' - c).toNat = n by omega] at HOO
      clear h9 b9 htb
      gi_wp2_with fail
      rw [← hn]
      refine ⟨trivial, CallsIn.inRound lp (callsIn_wide.2 ((Tryd.strings_Repeat ⟨#[32]⟩ n W1 (by omega) (by show 1 * n ≤ _; omega)).mono ?_))⟩
      rintro e W3 ⟨rfl, be3⟩
      rw [rep_32]
      rw [HOO.out] at HPS
      have HB3 := hid (show Below W.heap.size W W3 from HB1.out.trans (be3.mono HB1.out.size))
      have HX3 := hid (show Boxed W3 M 3 (.int .i64 c) from (be3.block _ HX1.out.lt).trans HX1.out)
      have HBF3 := hid (bf_below HVB.out HB3.out)
      have HR3 := hid (show BSu b (fun k => k = b ∨ k = M) W W3 from BSu.of (BS.below HB3.out) (fun k hk => by omega) (by omega))
      clear be3 HX1 HB1 e1 hn
      gi_wp2_with fail
      refine ⟨trivial, CallsIn.inRound lp (callsIn_wide.2 ((write_any b b o (List.replicate n 32) _ W3 HBF3.out rfl (by rw [List.length_replicate]; omega) (by have := HB3.out.size; omega)).mono ?_))⟩
      rintro e W4 ⟨⟨v', rfl⟩, hbf4, hl4, ho4⟩
      have HRW := hid (show BSu b (fun k => k = b ∨ k = M) W3 W4 from BSu.write hl4 ho4 (.inl rfl) (bf_block HBF3.out))
      have HR4 := hid (HR3.out.trans HRW.out)
      have HBF4 := hid hbf4
      have x4 : Boxed W4 M 3 (.int .i64 c) := ho4 M _ HX3.out (fun e => by cases e; omega) (fun c fz e => by cases e)
      have f4 := x4.frozen
      have e4 := x4.cell
      have HX4 := hid x4
      clear hbf4 hl4 ho4 x4
      gi_wp2
      have hv0 := HV.out.1
      have hv1 := HV.out.2.1
      refine ⟨HR4.out.trans (BSu.of (BS.set W4 M _ (.inr rfl)) (fun k hk => by omega) (by have := HR4.out.low.size; omega)), ⟨⟨?_, ?_⟩, ?_⟩, ?_⟩
      · have q : Boxed W4 N 9 (.string ⟨l.toArray⟩) := HR4.out.boxed hv0 (fun h => by omega) (by decide)
        exact q.other (B' := M) (by omega) _
      · have q : W4.heap[N + 1]? = some (.cells #[.int .i64 a, .int .i64 t, .int .i64 s] 36 (0, 0)) := HR4.out.cells hv1 (fun h => by omega) (by decide)
        exact (Below.heap_setCell _ _ _ (N + 1) (by simp; omega)).trans q
      · rw [List.map_append, List.map_cons, List.map_nil, ← HC'.out]
        exact HX4.out.set _
      · rw [List.map_append, List.map_cons, List.map_nil, HPS.out]
        exact bf_set HBF4.out HX4.out (by omega) (by decide)
    · have b9 : (byt m 0 == 9) = false := beq_eq_false_iff_ne.2 h9
      rw [b9]
      have HOO := hid (show plO a t c m = m by rw [HPO.out, if_neg h9])
      rw [HOO.out] at HPS
      have HR3 := hid (show BSu b (fun k => k = b ∨ k = M) W W1 from BSu.of (BS.below HB1.out) (fun k hk => by omega) (by omega))
      have HBF3 := hid (bf_below HVB.out HB1.out)
      have HX3 := HX1
      clear h9 b9
      gi_wp2_with fail
      refine ⟨trivial, CallsIn.inRound lp (callsIn_wide.2 ((write_any b b o m _ W1 HBF3.out rfl (by omega) (by have := HB1.out.size; omega)).mono ?_))⟩
      rintro e W4 ⟨⟨v', rfl⟩, hbf4, hl4, ho4⟩
      have HRW := hid (show BSu b (fun k => k = b ∨ k = M) W1 W4 from BSu.write hl4 ho4 (.inl rfl) (bf_block HBF3.out))
      have HR4 := hid (HR3.out.trans HRW.out)
      have HBF4 := hid hbf4
      have x4 : Boxed W4 M 3 (.int .i64 c) := ho4 M _ HX3.out (fun e => by cases e; omega) (fun c fz e => by cases e)
      have f4 := x4.frozen
      have e4 := x4.cell
      have HX4 := hid x4
      clear hbf4 hl4 ho4 x4
      gi_wp2
      have hv0 := HV.out.1
      have hv1 := HV.out.2.1
      refine ⟨HR4.out.trans (BSu.of (BS.set W4 M _ (.inr rfl)) (fun k hk => by omega) (by have := HR4.out.low.size; omega)), ⟨⟨?_, ?_⟩, ?_⟩, ?_⟩
      · have q : Boxed W4 N 9 (.string ⟨l.toArray⟩) := HR4.out.boxed hv0 (fun h => by omega) (by decide)
        exact q.other (B' := M) (by omega) _
      · have q : W4.heap[N + 1]? = some (.cells #[.int .i64 a, .int .i64 t, .int .i64 s] 36 (0, 0)) := HR4.out.cells hv1 (fun h => by omega) (by decide)
        exact (Below.heap_setCell _ _ _ (N + 1) (by simp; omega)).trans q
      · rw [List.map_append, List.map_cons, List.map_nil, ← HC'.out]
        exact HX4.out.set _
      · rw [List.map_append, List.map_cons, List.map_nil, HPS.out]
        exact bf_set HBF4.out HX4.out (by omega) (by decide)
  case done =>
    rintro D W hD ⟨_, vb⟩ hb hK
    rw [HL.out] at vb
    have HVB := hid vb
    have hWs : M + 2 ≤ W.heap.size := by have := hb.others.size; have := HS3.out; omega
    clear vb
    gi_wp2_with fail
    refine ⟨trivial, (callsIn_wide.2 (string_any b b (plP l a t s (gpF l 0)).2 W HVB.out (by omega))).mono ?_⟩
    rintro e W1 ⟨rfl, hl1, ho1⟩
    have hK1 : W1.heap[D]? = some (.deferred (some [])) := ho1 D _ hK (fun e => by
      cases e
      have := HS3.out
      omega) (fun c fz e => by cases e)
    have HL1 := hid hl1
    clear hl1 ho1
    gi_wp2
    refine ⟨by simp, .inl ⟨_, _, rfl, run_takeDeferred hK1, ?_⟩⟩
    refine ⟨_, results_tmp rfl _ _ _, rfl, ?_⟩
    have hs3 := HS3.out
    have hn := HN.out
    rw [← hn]
    exact ((HBw.out.trans (hb.low.mono (by omega))).trans (HL1.out.mono (by omega))).trans (belowK_b (w := w) (by omega) W1 D _ _ (by omega) hK1 rfl rfl)
  case stop =>
    rintro D c pre W _ _ h _
    exact h.elim
theorem wplain_any (l : List UInt8) (a t s : Int) (w : World) (ht : TbW w) (hl : l.length ≤ 1000) (hk : Okc a t s) :
    Calls Tryd.prog 22 #[.string ⟨l.toArray⟩, .agg #[.int .i64 a, .int .i64 t, .int .i64 s]] w fun e W' => e = .returned (.string ⟨(plP l a t s (gpF l 0)).2.toArray⟩) ∧ Below w.heap.size w W' := callsIn_wide.1 (wplain_in l a t s w ht hl hk)
end Go.Proofs.YtlfegdpclappiaaDoor
