/- The contract of Text (package width). -/
import Derived.Test.YtlfegdpclappiaaDoorWtBeh
import Derived.Test.YtlfegdpclappiaaDoorGrLaw
import Derived.Test.YtlfegdpclappiaaDoorMixIn
namespace Go.Proofs.YtlfegdpclappiaaDoor
open Go.RowKit Go.Shelf
attribute [local go_sem] Oper.semAt_some

/-- The column behind letters, by their places. -/
def colP (l : List UInt8) (a t c : Int) (xs : List (Nat × Nat)) : Int := xs.foldl (fun c x => bhd a t c ((l.take x.2).drop x.1)) c
theorem colP_snoc (l : List UInt8) (a t c : Int) (xs : List (Nat × Nat)) (x : Nat × Nat) : colP l a t c (xs ++ [x]) = bhd a t (colP l a t c xs) ((l.take x.2).drop x.1) := by simp [colP]
theorem colP_bd (l : List UInt8) (a t s : Int) (h : Okc a t s) : ∀ (xs : List (Nat × Nat)) (c : Int), 0 ≤ c → 0 ≤ colP l a t c xs ∧ colP l a t c xs ≤ c + 64 * xs.length
  | [], c, h0 => ⟨h0, by simp [colP]⟩
  | x :: xs, c, h0 => by
    have h1 := bhd_bd a t s c ((l.take x.2).drop x.1) h h0
    have h2 := colP_bd l a t s h xs _ h1.1
    have e : colP l a t c (x :: xs) = colP l a t (bhd a t c ((l.take x.2).drop x.1)) xs := rfl
    rw [e, List.length_cons]
    omega
theorem cells_from {β : Type} (n B : Nat) (v : Array Value) (t : TypeId) : OwnFrom n (fun (_ : β) W => W.heap[B]? = some (.cells v t (0, 0))) := fun _ A C row h hg hr => by
  refine (hg.block B (Array.getElem?_eq_some_iff.1 h).1 (fun e => ?_)).trans h
  obtain ⟨_, o, ho, hc⟩ := hr B e.symm
  rw [h] at ho
  cases ho
  cases hc
theorem ext_piece (l : List UInt8) (f t : Nat) (h : f ≤ t) : (⟨l.toArray⟩ : ByteArray).extract f t = ⟨((l.take t).drop f).toArray⟩ := by
  apply ByteArray.ext
  simp [ByteArray.data_extract, List.take_drop]
  rw [show f + (t - f) = t by omega]
set_option maxHeartbeats 4000000 in
set_option maxRecDepth 100000 in
theorem wtext_in (l : List UInt8) (a t s : Int) (w : World) (ht : TbW w) (hl : l.length ≤ 100000000) (hk : Okc a t s) :
    CallsIn Fence.wide 3 Tryd.prog 20 #[.string ⟨l.toArray⟩, .agg #[.int .i64 a, .int .i64 t, .int .i64 s]] w fun e W' => e = .returned (.int .i64 (colP l a t s (gpF l 0))) ∧ Below w.heap.size w W' := by
  have HT := hid ht
  have HK := hid hk
  have hs0 := hk.s1
  have hs1 := hk.s2
  have HCK := hid (show chkE a t s = 0 by unfold chkE; rw [if_pos ((okc_is a t s).2 hk)])
  clear ht hk
  obtain ⟨L, hL, hLl⟩ := gp_all l _ 0 (Nat.le_refl _)
  have HL := hid hL
  have hll : L.length ≤ 100000000 := by omega
  clear hL hLl
  refine callsIn_of_wp_marks Tryd.func20 rfl trivial ?_ rfl
  simp only [Tryd.ntmps20, List.size_toArray, List.length_cons, List.length_nil, Nat.reduceAdd, Nat.reduceSub, Array.replicate_succ, Array.replicate_zero, List.push_toArray, List.append_toArray, List.nil_append, List.cons_append]
  gi_wp2_with fail
  have b0 := (Boxed.new w 9 (.string ⟨l.toArray⟩)).alloc (.cells #[.int .i64 a, .int .i64 t, .int .i64 s] 36)
  have b1 : ((w.alloc (.cells #[.string ⟨l.toArray⟩] 9)).alloc (.cells #[.int .i64 a, .int .i64 t, .int .i64 s] 36)).heap[w.heap.size + 1]? = some (.cells #[.int .i64 a, .int .i64 t, .int .i64 s] 36 (0, 0)) := by
    have := World.alloc_heap_new (w.alloc (.cells #[.string ⟨l.toArray⟩] 9)) (.cells #[.int .i64 a, .int .i64 t, .int .i64 s] 36)
    rwa [World.size_alloc] at this
  have hsz0 : ((w.alloc (.cells #[.string ⟨l.toArray⟩] 9)).alloc (.cells #[.int .i64 a, .int .i64 t, .int .i64 s] 36)).heap.size = w.heap.size + 2 := by simp
  have hB0 : Below w.heap.size w ((w.alloc (.cells #[.string ⟨l.toArray⟩] 9)).alloc (.cells #[.int .i64 a, .int .i64 t, .int .i64 s] 36)) := ((Below.refl _ _).alloc (Nat.le_refl _) _).alloc (by simp) _
  obtain ⟨w0, hw0⟩ : ∃ w0, w0 = (w.alloc (.cells #[.string ⟨l.toArray⟩] 9)).alloc (.cells #[.int .i64 a, .int .i64 t, .int .i64 s] 36) := ⟨_, rfl⟩
  rw [← hw0] at b0 b1 hsz0 hB0 ⊢
  clear hw0
  refine ⟨trivial, (callsIn_wide.2 (wcheck_any a t s w0)).mono ?_⟩
  rintro e w1 ⟨rfl, be1⟩
  rw [HCK.out]
  have hb1 : Boxed w1 w.heap.size 9 (.string ⟨l.toArray⟩) := (be1.block _ (by omega)).trans b0
  have hb2 : w1.heap[w.heap.size + 1]? = some (.cells #[.int .i64 a, .int .i64 t, .int .i64 s] 36 (0, 0)) := (be1.block _ (by omega)).trans b1
  have hs1' := be1.size
  have HB1 := hid (hB0.trans (be1.mono hB0.size))
  have c0 := hb1.cell
  have c1 : w1.cell? ⟨w.heap.size + 1, 0, none⟩ = some (.int .i64 a) := by simp [World.cell?, hb2]
  have c2 : w1.cell? ⟨w.heap.size + 1, 1, none⟩ = some (.int .i64 t) := by simp [World.cell?, hb2]
  have c3 : w1.cell? ⟨w.heap.size + 1, 2, none⟩ = some (.int .i64 s) := by simp [World.cell?, hb2]
  have hlt1 : w.heap.size + 1 < w1.heap.size := by omega
  have hlt0 : w.heap.size < w1.heap.size := by omega
  have b3 := (Boxed.new w1 3 (.int .i64 s)).alloc (.cells #[.string ⟨l.toArray⟩] 9)
  have b4 := Boxed.new (w1.alloc (.cells #[.int .i64 s] 3)) 9 (.string ⟨l.toArray⟩)
  have hB3 : Below w1.heap.size w1 ((w1.alloc (.cells #[.int .i64 s] 3)).alloc (.cells #[.string ⟨l.toArray⟩] 9)) := ((Below.refl _ _).alloc (Nat.le_refl _) _).alloc (by simp) _
  have hs3 : ((w1.alloc (.cells #[.int .i64 s] 3)).alloc (.cells #[.string ⟨l.toArray⟩] 9)).heap.size = w1.heap.size + 2 := by simp
  rw [World.size_alloc] at b4
  clear be1 b0 b1 hB0 hs1' hsz0
  gi_wp2_with (refine ⟨trivial, ?_⟩; gi_at_call 23; refine (callsIn_wide.2 (geach_any l _)).mono ?_; rintro e w' ⟨rfl, rfl⟩)
  obtain ⟨w3, hw3⟩ : ∃ w3, w3 = (w1.alloc (.cells #[.int .i64 s] 3)).alloc (.cells #[.string ⟨l.toArray⟩] 9) := ⟨_, rfl⟩
  rw [← hw3] at b3 b4 hB3 hs3 ⊢
  have HT3 := hid (HT.out.below (HB1.out.trans (hB3.mono (by omega))))
  have HB0 := hid (show Boxed w3 w.heap.size 9 (.string ⟨l.toArray⟩) from (hB3.block _ hlt0).trans hb1)
  have HBC := hid ((hB3.block _ hlt1).trans hb2)
  have HBw := hid (HB1.out.trans (hB3.mono (by omega)))
  clear hw3 hb1 hb2 c0 c1 c2 c3 hB3 HB1
  obtain ⟨N, hN⟩ : ∃ N, N = w.heap.size := ⟨_, rfl⟩
  obtain ⟨M, hM⟩ : ∃ M, M = w1.heap.size := ⟨_, rfl⟩
  rw [← hM] at b3 b4 hs3 hlt0 hlt1 ⊢
  rw [← hN] at HB0 HBC HBw hlt0 hlt1 ⊢
  have HEa := hid (show WaAt (M + 1) l w3 from ⟨b4, HT3.out⟩)
  have h2 : 2 ≤ N := by rw [hN]; exact HT.out.two
  have HN := hid hN
  have HB3 := hid b3
  have HS3 := hid hs3
  clear hN hM b3 b4 hs3 HT3
  refine rfF (M + 1) (fun k => k = M) L (by omega) rfl HL.out HEa.out (by omega) rfl (fun k hk => by rintro (h | h) <;> omega)
    (fun pre W => (Boxed W N 9 (.string ⟨l.toArray⟩) ∧ W.heap[N + 1]? = some (.cells #[.int .i64 a, .int .i64 t, .int .i64 s] 36 (0, 0))) ∧ Boxed W M 3 (.int .i64 (colP l a t s (pre.map Pl.v))))
    (fun _ _ _ => False)
    (OwnFrom.and (OwnFrom.and (Own.from (boxed_own _ _ _) _) (cells_from _ _ _ _)) (Own.from (boxed_own _ _ (fun pre : List (Pl l) => Value.int .i64 (colP l a t s (pre.map Pl.v)))) _))
    (fun _ _ _ _ _ hs _ _ => hs)
    ⟨⟨HB0.out, HBC.out⟩, HB3.out⟩ 6 7 ?assign ?body ?done ?stop
  case assign =>
    intro lp x W K hK
    dsimp only [encP]
    gi_wp2
    simpa [fr, encP] using hK
  case body =>
    rintro lp pre x W ⟨⟨v0, v1⟩, v2⟩ hb he hlt
    have hx1 := x.lt
    have hx2 := x.le
    obtain ⟨f, hf⟩ : ∃ f, f = x.v.1 := ⟨_, rfl⟩
    obtain ⟨z, hx⟩ : ∃ z, z = x.v.2 := ⟨_, rfl⟩
    have hcb := colP_bd l a t s HK.out (pre.map Pl.v) s hs0
    rw [List.length_map] at hcb
    have HSN := hid (colP_snoc l a t s (pre.map Pl.v) x.v)
    obtain ⟨c, hc⟩ : ∃ c, c = colP l a t s (pre.map Pl.v) := ⟨_, rfl⟩
    rw [← hc] at hcb v2 HSN
    rw [← hf, ← hx] at HSN
    have HEX := hid (ext_piece l f z (by omega))
    have HLE := hid (show ((l.take z).drop f).length = z - f by rw [List.length_drop, List.length_take]; omega)
    dsimp only [fr, encP]
    rw [← hf, ← hx] at hx1 ⊢
    rw [← hx] at hx2
    clear hf hx hc
    have HE := hid he.tb
    have HV := hid (And.intro v0 (And.intro v1 v2))
    have c0 := v0.cell
    have c1 : W.cell? ⟨N + 1, 0, none⟩ = some (.int .i64 a) := by simp [World.cell?, v1]
    have c2 : W.cell? ⟨N + 1, 1, none⟩ = some (.int .i64 t) := by simp [World.cell?, v1]
    have c3 : W.cell? ⟨N + 1, 2, none⟩ = some (.int .i64 s) := by simp [World.cell?, v1]
    have c4 := v2.cell
    gi_wp2
    refine wpIn_region_mix lp _ [(0, true), (1, true), (2, true), (3, true), (4, true), (5, true), (6, false), (7, false)] (fun w' => w'.cell? ⟨N, 0, none⟩ = some (.string ⟨l.toArray⟩) ∧ w'.cell? ⟨M, 0, none⟩ = some (.int .i64 c) ∧ w'.cell? ⟨N + 1, 0, none⟩ = some (.int .i64 a) ∧ w'.cell? ⟨N + 1, 1, none⟩ = some (.int .i64 t) ∧ w'.cell? ⟨N + 1, 2, none⟩ = some (.int .i64 s)) (fun j => j == 7) (by kernel_rfl) (by kernel_rfl) (by kernel_rfl) ?hs rfl (by kernel_rfl) ⟨c0, c4, c1, c2, c3⟩ ?hm
    case hs =>
      intro j hj
      have e : j = 7 := by simpa using hj
      subst e
      decide
    iterate 3 (refine mix_free ?_ rfl (by kernel_rfl) (fun w' hS => ?_) ?_; (rotate_left; (obtain ⟨s1, s2, s3, s4, s5⟩ := hS; go_simp; with_reducible rfl); rotate_left))
    refine mix_free (.string ⟨((l.take z).drop f).toArray⟩) rfl (by kernel_rfl) (fun w' hS => ?_) ?_
    · go_simp
      rw [if_pos (by omega), HEX.out]
    iterate 2 (refine mix_free ?_ rfl (by kernel_rfl) (fun w' hS => ?_) ?_; (rotate_left; (obtain ⟨s1, s2, s3, s4, s5⟩ := hS; go_simp; with_reducible rfl); rotate_left))
    refine mix_go rfl (by kernel_rfl) fun KK hKK => ?_
    go_simp
    refine (wbehind_any ((l.take z).drop f) c a t s W.drew (HE.out.below ((Below.refl _ _).drew)) (by have := HLE.out; omega) (by have := HLE.out; omega) HK.out hcb.1 (by omega)).mono ?_
    rintro e W1 ⟨rfl, be⟩
    have HBS := hid (show BS (fun k => k = M) W W1 from (BS.drew W).trans (BS.below be))
    have HBE := hid (show Below W.heap.size W W1 from (Below.refl _ W).drew.trans be)
    have v2' : Boxed W1 M 3 (.int .i64 c) := (HBE.out.block M v2.lt).trans v2
    have hN1 : N + 1 < W.heap.size := (Array.getElem?_eq_some_iff.1 v1).1
    refine hKK _ _ (fun _ => ⟨(HBE.out.cell (p := ⟨N, 0, none⟩) v0.lt).trans c0, v2'.cell, (HBE.out.cell (p := ⟨N + 1, 0, none⟩) hN1).trans c1, (HBE.out.cell (p := ⟨N + 1, 1, none⟩) hN1).trans c2, (HBE.out.cell (p := ⟨N + 1, 2, none⟩) hN1).trans c3⟩) ?_
    rw [← HSN.out]
    clear hKK KK be c0 c1 c2 c3 c4 v0 v1 v2
    refine mix_go rfl (by kernel_rfl) fun KK hKK => ?_
    have f2 := v2'.frozen
    have c2 := v2'.cell
    go_simp
    refine hKK _ _ (fun h => by cases h) ?_
    clear hKK KK f2 c2
    refine mix_end (OnlyN.in ?_)
    gi_wp2
    refine ⟨HBS.out.trans (BS.set W1 M _ rfl), ⟨?_, ?_⟩, ?_⟩
    · have q : Boxed W1 N 9 (.string ⟨l.toArray⟩) := (HBE.out.block N HV.out.1.lt).trans HV.out.1
      exact q.other (B' := M) (by omega) _
    · exact ((grownBy_setCell' W1 M _).block (N + 1) (by have := HBE.out.size; have := (Array.getElem?_eq_some_iff.1 HV.out.2.1).1; omega) (by simp; omega)).trans ((HBE.out.block (N + 1) (Array.getElem?_eq_some_iff.1 HV.out.2.1).1).trans HV.out.2.1)
    · rw [List.map_append]
      exact v2'.set _
  case done =>
    rintro D W hD ⟨_, v2⟩ hb hK
    have hc := v2.cell
    rw [HL.out] at hc
    gi_wp2
    refine ⟨by simp, .inl ⟨_, _, rfl, run_takeDeferred hK, ?_⟩⟩
    refine ⟨_, results_tmp rfl _ _ _, rfl, ?_⟩
    have hs3 := HS3.out
    have hn := HN.out
    rw [← hn]
    exact (HBw.out.trans (hb.lower N (fun k hk => by omega) (by omega))).trans (belowK_b (w := w) (by omega) W D _ _ (by omega) hK rfl rfl)
  case stop =>
    rintro D c pre W _ _ h _
    exact h.elim
theorem wtext_any (l : List UInt8) (a t s : Int) (w : World) (ht : TbW w) (hl : l.length ≤ 100000000) (hk : Okc a t s) :
    Calls Tryd.prog 20 #[.string ⟨l.toArray⟩, .agg #[.int .i64 a, .int .i64 t, .int .i64 s]] w fun e W' => e = .returned (.int .i64 (colP l a t s (gpF l 0))) ∧ Below w.heap.size w W' := callsIn_wide.1 (wtext_in l a t s w ht hl hk)
end Go.Proofs.YtlfegdpclappiaaDoor
