/- PwSn: parts of the proof, joined. -/
import Derived.Laws.EntriesVeiled
import Derived.Test.YtdpohgoikbeplaaGreatDoorSSnCut
namespace Go.Proofs.YtdpohgoikbeplaaGreatDoor.Sn
open Go.RowKit Go.Shelf
open Wt Pw
open Sg (Pl encP)
attribute [local go_sem] Oper.semAt_some
theorem pw_eqE (w : World) (B : Nat) : (binOp BinOp.eql 38 (Value.func (.func 82) #[] #[.pointer (some ⟨B, 0, none⟩)]) Value.nilFunc).run Tryz.prog w = Result.ok (Value.bool false) w := by kernel_rfl
theorem pw_eqB (w : World) (B : Nat) : (binOp BinOp.eql 38 (Value.func (.func 83) #[] #[.pointer (some ⟨B, 0, none⟩)]) Value.nilFunc).run Tryz.prog w = Result.ok (Value.bool false) w := by kernel_rfl
attribute [local go_sem] pw_eqE pw_eqB
def Bw (w V : World) : Prop := Below w.heap.size w V
def Eqn (N : Nat) (w : World) : Prop := N = w.heap.size
structure Lw (N EB BB b5 b6 b8 m n uc : Nat) (uo : Option Addr) (D : List Nat) (l : List UInt8) (st : Int) (V : World) : Prop where
 stop : Cb V N #[.int .i64 st] 3
 res : Cb V (N + 1) #[.bool false] 4
 row : Cb V b5 #[.slice uo m uc] 23
 cnt : Cb V b6 #[.int .i64 (n : Nat)] 3
 bk : Cb V b8 #[.func (.func 83) #[] #[.pointer (some ⟨BB, 0, none⟩)]] 38
 e : WaAt EB l V
 b : WaAt BB l V
 rd : Pt.RdI V uo (D.map fun (x : Nat) => (x : Int))
theorem Lw.below {N EB BB b5 b6 b8 m n uc : Nat} {uo : Option Addr} {D : List Nat} {l : List UInt8} {st : Int} {V V' : World} (h : Lw N EB BB b5 b6 b8 m n uc uo D l st V) (hb : Below V.heap.size V V') : Lw N EB BB b5 b6 b8 m n uc uo D l st V' :=
 ⟨h.stop.below hb, h.res.below hb, h.row.below hb, h.cnt.below hb, h.bk.below hb, h.e.below hb, h.b.below hb, h.rd.below hb⟩
structure Tn (N EB b5 b6 b8 : Nat) (l : List UInt8) (st : Int) (w8 : World) (m' : Nat) (a : Act) (wr : World) (t b9 : Nat) (D : List Nat) : Prop where
 size : a.tmps.size = 121
 df : a.defers = mkD D
 t0 : Pw.at_ a 0 = .string ⟨l.toArray⟩
 t1 : Pw.at_ a 1 = .int .i64 st
 t3 : Pw.at_ a 3 = .pointer (some ⟨N, 0, none⟩)
 t4 : Pw.at_ a 4 = .pointer (some ⟨N + 1, 0, none⟩)
 t5 : Pw.at_ a 5 = .pointer (some ⟨b5, 0, none⟩)
 t6 : Pw.at_ a 6 = .pointer (some ⟨b6, 0, none⟩)
 t7 : Pw.at_ a 7 = .func (.func 82) #[] #[.pointer (some ⟨EB, 0, none⟩)]
 t8 : Pw.at_ a 8 = .pointer (some ⟨b8, 0, none⟩)
 t9 : Pw.at_ a 9 = .pointer (some ⟨b9, 0, none⟩)
 tm : t + m' = 3
 tl : t <= 2
 low : Below w8.heap.size w8 wr
 bx : Cb wr b9 #[.int .i64 (t : Nat)] 3
 b9 : w8.heap.size <= b9
 mks' : Marks D w8.heap.size wr
set_option maxHeartbeats 16000000 in
set_option maxRecDepth 100000 in
theorem spw_in (l : List UInt8) (st : Int) (w : World) (ht : TbW w) :
  CallsIn Fence.wide 20 Tryz.prog 10 #[.string ⟨l.toArray⟩, .int .i64 st] w fun e w' => e = .returned (.bool true) /\ Below w.heap.size w w' := by
 have HT := hid ht
 have HL0 := hid (fun (W : World) (hb : Below w.heap.size w W) => show Calls Tryz.prog _ _ _ _ from lives13 W)
 clear ht
 refine callsIn_of_wp_marks Tryz.func10 rfl trivial ?_ rfl
 simp only [Tryz.ntmps10, List.size_toArray, List.length_cons, List.length_nil, Nat.reduceAdd, Nat.reduceSub, Array.replicate_succ, Array.replicate_zero, List.push_toArray, List.append_toArray, List.nil_append, List.cons_append]
 obtain ⟨W2, hW2⟩ : ∃ W2, W2 = (w.alloc (.cells #[.int .i64 st] 3)).alloc (.cells #[.bool false] 4) := ⟨_, rfl⟩
 have hB2 : Below w.heap.size w W2 := by rw [hW2]; exact ((Below.refl _ _).alloc (Nat.le_refl _) _).alloc (by simp) _
 have hs2 : W2.heap.size = w.heap.size + 2 := by rw [hW2]; simp
 have a3 : Cb W2 w.heap.size #[.int .i64 st] 3 := by rw [hW2]; exact (Cb.new w _ _).alloc _
 have a4 : Cb W2 (w.heap.size + 1) #[.bool false] 4 := by
  have := Cb.new (w.alloc (.cells #[.int .i64 st] 3)) #[.bool false] 4
  rw [World.size_alloc] at this
  rw [hW2]; exact this
 obtain ⟨N, hN⟩ : ∃ N, N = w.heap.size := ⟨_, rfl⟩
 have c4 := a4.one
 have z4 := a4.frozen 0
 rw [hW2] at c4 z4
 by_cases hl : (80 : Int) < (l.length : Int)
 ·gi_wp2_with fail
  rw [<- hW2]; refine ⟨trivial, (callsIn_wide.2 (HL0.out W2 hB2)).mono ?_⟩
  rintro e w5 ⟨rfl, be⟩; have b4 := a4.below be
  have HB5 := hid (hB2.trans (be.mono hB2.size))
  have c5 := b4.one
  have z5 := b4.frozen 0
  have HR := hid (show Cb (w5.setCell ⟨w.heap.size + 1, 0, none⟩ (.bool true)) (w.heap.size + 1) #[.bool true] 4 from b4.set 0 _)
  have HBR := hid (show Below w.heap.size w (w5.setCell ⟨w.heap.size + 1, 0, none⟩ (.bool true)) from HB5.out.setCell (by show w.heap.size <= w.heap.size + 1; omega) _)
  clear be hB2 hW2 c4 z4 a3 a4 b4
  gi_wp2; exact ⟨_, results_bool rfl _ _ _ _ rfl HR.out, rfl, HBR.out⟩
 have hl2 : l.length <= 80 := by omega
 gi_wp2_with fail
 rw [<- hW2]
 refine ⟨trivial, (callsIn_wide.2 (new13_any W2)).mono ?_⟩
 rintro e w3 ⟨hb3, X, rfl, hX⟩
 have HX := hid (sbounds9 X l (by omega) w3 hX)
 have b3 := a3.below hb3
 have b4 := a4.below hb3
 have hB3 := hB2.trans (hb3.mono hB2.size)
 clear hW2 c4 z4 a3 a4 hB2 hX
 gi_wp2_with fail
 refine ⟨trivial, (callsIn_wide.2 HX.out).mono ?_⟩
 rintro e w4 ⟨uo, uc, rfl, ho, hb4⟩
 have hr4 := Pt.rdi_own ho rfl
 have HUO := hid (show (sbs l).length = 0 \/ ∃ g, uo = some ⟨g, 0, none⟩ by
  rcases ho.2 with ⟨_, h2⟩ | ⟨g, _, _, h1, _⟩
  ·exact .inl h2
  ·cases h1
   exact .inr ⟨g, rfl⟩)
 have d3 := b3.below hb4
 have d4 := b4.below hb4
 have hB4 := hB3.trans (hb4.mono hB3.size)
 have hs4 : N + 2 <= w4.heap.size := by have := hb3.size; have := hb4.size; omega
 obtain ⟨L, L2, hL, hLr, hA, hA2, hl22, hLn, hLl⟩ := spw_facts l
 obtain ⟨D, hD⟩ : ∃ D, D = sbs l := ⟨_, rfl⟩
 rw [<- hD] at hr4 HUO hA hA2 hLn ⊢
 obtain ⟨n, hn⟩ : ∃ n, n = L.length := ⟨_, rfl⟩
 obtain ⟨m, hm⟩ : ∃ m, m = D.length := ⟨_, rfl⟩
 rw [<- hm] at HUO hLn ⊢
 rw [<- hn] at hLn hl22 hLl hA2
 have HLm := hid hL
 have HLr := hid hLr
 have HA := hid hA
 have HA2 := hid hA2
 have HMD := hid hm
 have HNL := hid hn
 have HL22 := hid hl22
 clear b3 b4 ho hb4 hb3 HX hB3 hL hLr hA hA2 hD hm hl22 hn
 have e1 : IntKind.i64.wrap ((m : Int) - 1) = (m : Int) - 1 := by rw [IntKind.wrap_i64]; omega
 have e2 : max ((m : Int) - 1) 0 = ((n : Nat) : Int) := by omega
 obtain ⟨b5, hb5⟩ : ∃ b5, b5 = w4.heap.size := ⟨_, rfl⟩
 obtain ⟨w5, hw5⟩ : ∃ w5, w5 = w4.alloc (.cells #[.slice uo m uc] 23) := ⟨_, rfl⟩
 have hbe5 : Below w4.heap.size w4 w5 := by rw [hw5]; exact (Below.refl _ _).alloc (Nat.le_refl _) _
 have r5 : Cb w5 b5 #[.slice uo m uc] 23 := by rw [hw5, hb5]; exact Cb.new _ _ _
 have hs5 : w5.heap.size = b5 + 1 := by rw [hw5, hb5]; simp
 have c5 := r5.one
 rw [hw5, hb5] at c5
 obtain ⟨w6, hw6⟩ : ∃ w6, w6 = w5.alloc (.cells #[.int .i64 (n : Nat)] 3) := ⟨_, rfl⟩
 have hbe6 : Below w5.heap.size w5 w6 := by rw [hw6]; exact (Below.refl _ _).alloc (Nat.le_refl _) _
 have r6 : Cb w6 (b5 + 1) #[.int .i64 (n : Nat)] 3 := by rw [hw6, <- hs5]; exact Cb.new _ _ _
 have hs6 : w6.heap.size = b5 + 2 := by rw [hw6]; simp; omega
 rw [hw5] at hw6
 gi_wp2_with fail
 rw [<- hw6]
 refine ⟨trivial, (callsIn_wide.2 (seach_any l w6)).mono ?_⟩
 rintro e w7 ⟨rfl, hw7⟩
 have hbe7 : Below w6.heap.size w6 w7 := by rw [hw7]; exact (Below.refl _ _).alloc (Nat.le_refl _) _
 have r7 : Boxed w7 (b5 + 2) 9 (.string ⟨l.toArray⟩) := by rw [hw7, <- hs6]; exact Boxed.new _ _ _
 have hs7 : w7.heap.size = b5 + 3 := by rw [hw7]; simp; omega
 rw [hs6]
 clear hw6 hw7 c5 e1 e2 hw5
 gi_wp2_with fail
 refine ⟨trivial, (callsIn_wide.2 (sback_any l w7)).mono ?_⟩
 rintro e w8 ⟨rfl, hw8⟩
 have hbe8 : Below w7.heap.size w7 w8 := by rw [hw8]; exact (Below.refl _ _).alloc (Nat.le_refl _) _
 have r8 : Boxed w8 (b5 + 3) 9 (.string ⟨l.toArray⟩) := by rw [hw8, <- hs7]; exact Boxed.new _ _ _
 have hs8 : w8.heap.size = b5 + 4 := by rw [hw8]; simp; omega
 rw [hs7]
 clear hw8
 obtain ⟨w9, hw9⟩ : ∃ w9, w9 = w8.alloc (.cells #[.func (.func 83) #[] #[.pointer (some ⟨b5 + 3, 0, none⟩)]] 38) := ⟨_, rfl⟩
 have hbe9 : Below w8.heap.size w8 w9 := by rw [hw9]; exact (Below.refl _ _).alloc (Nat.le_refl _) _
 have r9 : Cb w9 (b5 + 4) #[.func (.func 83) #[] #[.pointer (some ⟨b5 + 3, 0, none⟩)]] 38 := by rw [hw9, <- hs8]; exact Cb.new _ _ _
 have hs9 : w9.heap.size = b5 + 5 := by rw [hw9]; simp; omega
 have hq56 : Below w4.heap.size w4 w6 := hbe5.trans (hbe6.mono (by omega))
 have hq8 : Below w4.heap.size w4 w8 := (hq56.trans (hbe7.mono (by omega))).trans (hbe8.mono (by omega))
 have hq9 : Below w4.heap.size w4 w9 := hq8.trans (hbe9.mono (by omega))
 have hB9 := hB4.trans (hq9.mono hB4.size)
 have HLW := hid (show Lw N (b5 + 2) (b5 + 3) b5 (b5 + 1) (b5 + 4) m n uc uo D l st w9 from ⟨by rw [hN]; exact d3.below hq9, by rw [hN]; exact d4.below hq9, (((r5.below hbe6).below hbe7).below hbe8).below hbe9, ((r6.below hbe7).below hbe8).below hbe9, r9, ⟨(hbe9.block _ (by omega)).trans ((hbe8.block _ (by omega)).trans r7), HT.out.below hB9⟩, ⟨(hbe9.block _ (by omega)).trans r8, HT.out.below hB9⟩, hr4.below hq9⟩)
 have HBW := hid (show Bw w w9 from hB9)
 have HEN := hid (show Eqn N w from hN)
 rw [<- hN] at *
 obtain ⟨EB, hEB⟩ : ∃ q, q = b5 + 2 := ⟨_, rfl⟩
 obtain ⟨BB, hBB⟩ : ∃ q, q = b5 + 3 := ⟨_, rfl⟩
 obtain ⟨b6, hb6⟩ : ∃ q, q = b5 + 1 := ⟨_, rfl⟩
 obtain ⟨b8, hb8⟩ : ∃ q, q = b5 + 4 := ⟨_, rfl⟩
 obtain ⟨b9, hb9⟩ : ∃ q, q = b5 + 5 := ⟨_, rfl⟩
 rw [<- hEB, <- hBB, <- hb6, <- hb8] at HLW
 rw [<- hb5, <- hEB, <- hb6, <- hBB]
 rw [<- hBB] at hw9
 have c8 := (Cb.new w8 #[.func (.func 83) #[] #[.pointer (some ⟨BB, 0, none⟩)]] 38).one
 have HSB := hid (And.intro hs4 (And.intro hs9 (And.intro hEB (And.intro hBB (And.intro hb6 (And.intro hb8 (And.intro hb9 hb5)))))))
 have hs8' : w8.heap.size = b8 := by omega
 have HS8 := hid hs8'
 have HW9 := hid hw9
 clear d3 d4 hr4 r5 r6 r7 r8 r9 hbe5 hbe6 hbe7 hbe8 hbe9 hq56 hq8 hq9 hB9 hB4 hs5 hs6 hs7 hs8 hs8' hs9 hEB hBB hb6 hb8 hb9 hb5 hs4 hw9 hN hs2
 gi_wp2_with fail
 rw [<- HW9.out, HS8.out]
 obtain ⟨q9, hq9⟩ : ∃ q, q = w9.heap.size := ⟨_, rfl⟩
 rw [show b8 + 1 = q9 by obtain ⟨_, h1, _, _, _, h2, _, _⟩ := HSB.out; omega]
 have HT0 := hid (show Cb (w9.alloc (.cells #[.int .i64 0] 3)) q9 #[.int .i64 0] 3 by rw [hq9]; exact Cb.new _ _ _)
 refine wpIn_loop_inv (fun m' a wr => ∃ t b9 D', Tn N EB b5 b6 b8 l st w9 m' a wr t b9 D') (fun a wr ⟨t, _, _, h⟩ => by have := h.tm; have := h.tl; omega) ?round 3 _ _ ⟨0, q9, [], ⟨rfl, rfl, rfl, rfl, rfl, rfl, rfl, rfl, rfl, rfl, rfl, rfl, by omega, (Below.refl _ _).alloc (Nat.le_refl _) _, HT0.out, by omega, Marks.nil _ _⟩⟩
 clear HT0 hq9 q9 c8
 rintro m' a wr ⟨t, b9, D', hI⟩
 obtain ⟨hsz, hdf, t0, t1, t3, t4, t5, t6, t7, t8, t9, htm, htl, hlow, hbx, hb9, hmk⟩ := hI
 obtain ⟨u, rfl⟩ := frameP a _ hsz hdf _ _ _ _ _ _ _ _ _ t0 t1 t3 t4 t5 t6 t7 t8 t9
 clear hsz hdf t0 t1 t3 t4 t5 t6 t7 t8 t9
 have HLR := hid (HLW.out.below hlow)
 have HLO := hid hlow
 have HMK := hid hmk
 have cb9 := hbx.one
 have hwr := hlow.size
 clear hlow hmk
 obtain ⟨dd, hdd⟩ : ∃ dd, dd = mkD D' := ⟨_, rfl⟩
 rw [<- hdd]
 by_cases ht2 : t < 2
 ·have hti : (t : Int) < 2 := by omega
  obtain ⟨M, hM⟩ : ∃ M, M = wr.heap.size := ⟨_, rfl⟩
  obtain ⟨wA, hwA⟩ : ∃ wA, wA = wr.alloc (.cells #[.int .i64 0] 3) := ⟨_, rfl⟩
  have hbA : Below wr.heap.size wr wA := by rw [hwA]; exact (Below.refl _ _).alloc (Nat.le_refl _) _
  have nA : Cb wA M #[.int .i64 0] 3 := by rw [hwA, hM]; exact Cb.new _ _ _
  have hsA : wA.heap.size = M + 1 := by rw [hwA, hM]; simp
  have HLA := hid (HLR.out.below hbA)
  have HSA := hid hsA
  have HM := hid hM
  rw [<- hM] at hbA hwr
  clear hM hsA
  gi_wp2_with fail
  rw [<- hwA, <- HM.out]; clear hwA; refine rangeS rfl (by omega) rfl trivial (enters_of Tryz.func82 (by kernel_rfl) rfl) (seach_s 19 (by omega) EB l L HLm.out wA HLA.out.e (by omega)) KrW_t (KrW_b HLA.out.e.lt) (Below.refl _ _) (fun _ => rfl)
   (fun pre V => Below M wr V /\ Cb V M #[.int .i64 (pre.length : Nat)] 3)
   (fun c pre V => c = .exit 2 /\ t = 0 /\ Below M wr V /\ ∃ q : Nat, Cb V M #[.int .i64 (q : Nat)] 3) ?own ?ownx
   ⟨hbA, nA⟩
   (fun x a' _ => a' = { tmps := #[.string ⟨l.toArray⟩, .int .i64 st, u 2, .pointer (some ⟨N, 0, none⟩), .pointer (some ⟨N + 1, 0, none⟩), .pointer (some ⟨b5, 0, none⟩), .pointer (some ⟨b6, 0, none⟩), .func (.func 82) #[] #[.pointer (some ⟨EB, 0, none⟩)], .pointer (some ⟨b8, 0, none⟩), .pointer (some ⟨b9, 0, none⟩), .pointer (some ⟨M, 0, none⟩), .int .i64 (x.v.1 : Nat), .int .i64 (x.v.2 : Nat), u 13, u 14, u 15, u 16, u 17, u 18, u 19, u 20, u 21, u 22, u 23, u 24, u 25, u 26, u 27, u 28, u 29, u 30, u 31, u 32, u 33, u 34, u 35, u 36, u 37, .int .i64 (t : Nat), .bool true, u 40, u 41, .func (.func 82) #[] #[.pointer (some ⟨EB, 0, none⟩)], .int .i64 (x.v.1 : Nat), .int .i64 (x.v.2 : Nat), u 45, u 46, u 47, u 48, u 49, u 50, u 51, u 52, u 53, u 54, u 55, u 56, u 57, u 58, u 59, u 60, u 61, u 62, u 63, u 64, u 65, u 66, u 67, u 68, u 69, u 70, u 71, u 72, u 73, u 74, u 75, u 76, u 77, u 78, u 79, u 80, u 81, u 82, u 83, u 84, u 85, u 86, u 87, u 88, u 89, u 90, u 91, u 92, u 93, u 94, u 95, u 96, u 97, u 98, u 99, u 100, u 101, u 102, u 103, u 104, u 105, u 106, u 107, u 108, u 109, u 110, u 111, u 112, u 113, u 114, u 115, u 116, u 117, u 118, u 119, u 120], defers := [] })
   (fun _ _ _ _ _ _ h _ _ => h) ?assign ?body ?done ?stop
  case own =>
   rintro pre P C row ⟨k0, k1⟩ hg hr
   exact ⟨k0.grown hg (by rw [HM.out]; exact k0.size) (fun k hk => by have := (hr k hk).1; have := HSA.out; omega), k1.kept hg (fun e => by have := (hr _ e.symm).1; have := HSA.out; omega)⟩
  case ownx =>
   rintro c pre P C row ⟨e, k2, k0, q, k1⟩ hg hr
   exact ⟨e, k2, k0.grown hg (by rw [HM.out]; exact k0.size) (fun k hk => by have := (hr k hk).1; have := HSA.out; omega), q, k1.kept hg (fun e => by have := (hr _ e.symm).1; have := HSA.out; omega)⟩
  case assign =>
   intro lp pre x V K hI hK
   dsimp only [encP]
   gi_wp2; exact hK _ _ (KeepsFrom.refl _ _) ⟨KeepsWalks.refl _, fun _ _ => rfl⟩ hI rfl
  case body =>
   rintro lp pre x a' V hlp hrec ⟨kb, kn⟩ rfl hsp
   obtain ⟨Rx, hRx⟩ := hsp
   have hLk : L[pre.length]? = some x := by rw [<- hRx]; simp
   have hkn : pre.length < n := by rw [HNL.out]; exact (List.getElem?_eq_some_iff.1 hLk).1
   obtain ⟨hDf, hDt⟩ := HA.out _ x hLk
   obtain ⟨k, hk⟩ : ∃ k, k = pre.length := ⟨_, rfl⟩
   have HPL := hid (show (pre ++ [x]).length = k + 1 by rw [hk]; simp)
   rw [<- hk] at hDf hDt hkn kn
   clear hk hRx hLk; have hmk := (List.getElem?_eq_some_iff.1 hDt).1
   rw [<- HMD.out] at hmk
   obtain ⟨g, rfl⟩ : ∃ g, uo = some ⟨g, 0, none⟩ := by
    rcases HUO.out with h | h
    ·omega
    ·exact h
   obtain ⟨f, hf⟩ : ∃ f, f = x.v.1 := ⟨_, rfl⟩
   obtain ⟨tt, htt⟩ : ∃ tt, tt = x.v.2 := ⟨_, rfl⟩
   rw [<- hf] at hDf
   rw [<- htt] at hDt
   rw [<- hf, <- htt]; obtain ⟨k1, hk1⟩ : ∃ k1, k1 = k + 1 := ⟨_, rfl⟩
   rw [<- hk1] at hDt hmk HPL
   have HLV := hid (HLR.out.below (by rw [<- HM.out]; exact kb))
   have cRf : V.cell? ⟨g, k, none⟩ = some (.int .i64 (f : Nat)) := by
    obtain ⟨a, h1, _, h3⟩ := HLV.out.rd k (f : Int) (by rw [List.getElem?_map, hDf]; rfl)
    cases h1
    rw [Addr.add_lit, Nat.zero_add] at h3
    exact h3
   have cRt : V.cell? ⟨g, k1, none⟩ = some (.int .i64 (tt : Nat)) := by
    obtain ⟨a, h1, _, h3⟩ := HLV.out.rd k1 (tt : Int) (by rw [List.getElem?_map, hDt]; rfl)
    cases h1
    rw [Addr.add_lit, Nat.zero_add] at h3
    exact h3
   have c5 := HLV.out.row.one
   have c6 := HLV.out.cnt.one
   have c8 := HLV.out.bk.one
   have c10 := kn.one
   have hki : ¬ (n : Int) <= (k : Int) := by omega
   have hk0 : (0 : Int) <= (k : Int) := by omega
   have hkm : (k : Int) < (m : Int) := by omega
   have hkw : (k : Int) + 1 = (k1 : Int) := by omega
   have hkwr : IntKind.i64.wrap (k1 : Int) = (k1 : Int) := by rw [IntKind.wrap_i64]; omega
   have hk10 : (0 : Int) <= (k1 : Int) := by omega
   have hk1m : (k1 : Int) < (m : Int) := by omega
   have xf : ((f : Int) != (f : Int)) = false := bne_eq_false_iff_eq.2 rfl
   have xt : ((tt : Int) != (tt : Int)) = false := bne_eq_false_iff_eq.2 rfl
   have HK1 := hid hk1
   have HKN := hid hkn
   obtain ⟨K0, hK0⟩ : ∃ K0, K0 = V.heap.size := ⟨_, rfl⟩
   have HK0 := hid hK0
   obtain ⟨V1, hV1⟩ : ∃ V1, V1 = V.alloc (.cells #[.int .i64 (n : Nat)] 3) := ⟨_, rfl⟩
   have vb : Below V.heap.size V V1 := by rw [hV1]; exact (Below.refl _ _).alloc (Nat.le_refl _) _
   have vk : Cb V1 K0 #[.int .i64 (n : Nat)] 3 := by rw [hV1, hK0]; exact Cb.new V _ _
   have hs1 : V1.heap.size = K0 + 1 := by rw [hV1, hK0]; simp
   have HLV1 := hid (HLV.out.below vb)
   have d8 := HLV1.out.bk.one
   rw [hV1] at d8
   obtain ⟨r0, hr0⟩ := hrec
   have hlpV := (Array.getElem?_eq_some_iff.1 hr0).1
   have hr1 := (vb.block lp hlpV).trans hr0
   have HS1 := hid hs1
   have HR1 := hid hr1
   have HKM := hid (show M < K0 by have := kn.lt; omega)
   have HKN2 := hid kn
   have HKB := hid kb
   clear hf htt hDf hDt hmk hkn hk1 hK0 hs1 hr0 hr1 hlpV kn kb c8
   gi_wp2_with fail
   rw [<- hV1, <- HK0.out]; clear d8 hV1 c5 c6 c10 cRf cRt; rw [<- HK0.out] at vb
   refine rangeS_in rfl HR1.out (by omega) rfl trivial (enters_of Tryz.func83 (by kernel_rfl) rfl) (seqS_in (sback_s 17 (by omega) BB V1.heap.size l L2 HLr.out V1 HLV1.out.b (by omega))) KrB_t (KrB_b HLV1.out.b.lt) (Below.refl _ _) (fun _ => rfl)
    (fun pre2 U => Below K0 V U /\ Cb U K0 #[.int .i64 ((n : Int) - (pre2.length : Nat))] 3)
    (fun c _ U => c = .exit 4 /\ Below K0 V U) ?own2 ?ownx2 ⟨vb, by simpa using vk⟩
    (fun x2 a2 _ => a2 = { tmps := #[.string ⟨l.toArray⟩, .int .i64 st, u 2, .pointer (some ⟨N, 0, none⟩), .pointer (some ⟨N + 1, 0, none⟩), .pointer (some ⟨b5, 0, none⟩), .pointer (some ⟨b6, 0, none⟩), .func (.func 82) #[] #[.pointer (some ⟨EB, 0, none⟩)], .pointer (some ⟨b8, 0, none⟩), .pointer (some ⟨b9, 0, none⟩), .pointer (some ⟨M, 0, none⟩), .int .i64 (f : Nat), .int .i64 (tt : Nat), .pointer (some ⟨K0, 0, none⟩), .int .i64 (x2.v.1 : Nat), .int .i64 (x2.v.2 : Nat), u 16, u 17, u 18, u 19, u 20, u 21, u 22, u 23, u 24, u 25, u 26, u 27, u 28, u 29, u 30, u 31, u 32, u 33, u 34, u 35, u 36, u 37, .int .i64 (t : Nat), .bool true, u 40, u 41, .func (.func 82) #[] #[.pointer (some ⟨EB, 0, none⟩)], .int .i64 (f : Nat), .int .i64 (tt : Nat), .int .i64 (k : Nat), .int .i64 (n : Nat), .bool false, .bool false, .int .i64 (f : Nat), .slice (some ⟨g, 0, none⟩) m uc, .int .i64 (k : Nat), .pointer (some ⟨g, k, none⟩), .int .i64 (f : Nat), .bool false, .bool false, .bool false, .int .i64 (tt : Nat), .slice (some ⟨g, 0, none⟩) m uc, .int .i64 (k : Nat), .int .i64 (k1 : Nat), .pointer (some ⟨g, k1, none⟩), .int .i64 (tt : Nat), .bool false, .bool false, .int .i64 (n : Nat), .func (.func 83) #[] #[.pointer (some ⟨BB, 0, none⟩)], .int .i64 (x2.v.1 : Nat), .int .i64 (x2.v.2 : Nat), u 69, u 70, u 71, u 72, u 73, u 74, u 75, u 76, u 77, u 78, u 79, u 80, u 81, u 82, u 83, u 84, u 85, u 86, u 87, u 88, u 89, u 90, u 91, u 92, u 93, u 94, u 95, u 96, u 97, u 98, u 99, u 100, u 101, u 102, u 103, u 104, u 105, u 106, u 107, u 108, u 109, u 110, u 111, u 112, u 113, u 114, u 115, u 116, u 117, u 118, u 119, u 120], defers := [] }) (fun _ _ _ _ _ _ h _ _ => h) ?assign2 ?body2 ?done2 ?stop2
   case own2 =>
    rintro pre2 P C row ⟨k0, k1⟩ hg hr
    exact ⟨k0.grown hg (by rw [HK0.out]; exact k0.size) (fun k hk => by have := (hr k hk).1; have := HS1.out; omega), k1.kept hg (fun e => by have := (hr _ e.symm).1; have := HS1.out; omega)⟩
   case ownx2 =>
    rintro c pre2 P C row ⟨e, k0⟩ hg hr
    exact ⟨e, k0.grown hg (by rw [HK0.out]; exact k0.size) (fun k hk => by have := (hr k hk).1; have := HS1.out; omega)⟩
   case assign2 =>
    intro lp2 pre2 x2 U K hI hK
    dsimp only [encP]
    gi_wp2; exact hK _ _ (KeepsFrom.refl _ _) ⟨⟨KeepsWalks.refl _, fun _ _ => rfl⟩, fun _ _ _ _ h => h⟩ hI rfl
   case body2 =>
    rintro lp2 pre2 x2 a2 U hlp2 _ ⟨ub, un⟩ rfl hsp2
    obtain ⟨Ry, hRy⟩ := hsp2
    have hLj : L2[pre2.length]? = some x2 := by rw [<- hRy]; simp
    obtain ⟨hj, hDf, hDt⟩ := HA2.out _ x2 hLj
    obtain ⟨q, hq⟩ : ∃ q, q = n - 1 - pre2.length := ⟨_, rfl⟩
    obtain ⟨q1, hq1⟩ : ∃ q1, q1 = n - pre2.length := ⟨_, rfl⟩
    have HPL2 := hid (show (n : Int) - ((pre2 ++ [x2]).length : Nat) = (q : Int) by rw [List.length_append, List.length_singleton]; omega)
    rw [show (n : Int) - (pre2.length : Nat) = (q1 : Int) by omega] at un
    rw [<- hq] at hDf
    rw [<- hq1] at hDt
    have hqq : q1 = q + 1 := by omega
    obtain ⟨f2, hf2⟩ : ∃ f2, f2 = x2.v.1 := ⟨_, rfl⟩
    obtain ⟨t2, ht2'⟩ : ∃ t2, t2 = x2.v.2 := ⟨_, rfl⟩
    rw [<- hf2] at hDf
    rw [<- ht2'] at hDt
    rw [<- hf2, <- ht2']; have hmq := (List.getElem?_eq_some_iff.1 hDt).1
    rw [<- HMD.out] at hmq
    have HLU := hid (HLV.out.below (by rw [<- HK0.out]; exact ub))
    have cRf : U.cell? ⟨g, q, none⟩ = some (.int .i64 (f2 : Nat)) := by
     obtain ⟨a, h1, _, h3⟩ := HLU.out.rd q (f2 : Int) (by rw [List.getElem?_map, hDf]; rfl)
     cases h1
     rw [Addr.add_lit, Nat.zero_add] at h3
     exact h3
    have cRt : U.cell? ⟨g, q1, none⟩ = some (.int .i64 (t2 : Nat)) := by
     obtain ⟨a, h1, _, h3⟩ := HLU.out.rd q1 (t2 : Int) (by rw [List.getElem?_map, hDt]; rfl)
     cases h1
     rw [Addr.add_lit, Nat.zero_add] at h3
     exact h3
    have c5 := HLU.out.row.one
    have cU := un.one
    have zU := un.frozen 0
    have hKN : N < K0 := by have := HLV.out.stop.lt; have := HK0.out; omega
    have hKB : BB < K0 := by have := HLV.out.b.bs.lt; have := HK0.out; omega
    have hK3 : 3 <= K0 := by have := HLV.out.b.tb.two; have := HK0.out; omega
    obtain ⟨U1, hU1⟩ : ∃ U1, U1 = U.setCell ⟨K0, 0, none⟩ (.int .i64 (q : Int)) := ⟨_, rfl⟩
    have r13 : Cb U1 K0 #[.int .i64 (q : Int)] 3 := by rw [hU1]; exact un.set 0 _
    have HQ13 := hid r13
    have HQB := hid (show Below K0 V U1 by rw [hU1]; exact ub.setCell (Nat.le_refl K0) _)
    have HQK := hid (show KeepsFrom V1.heap.size U U1 by rw [hU1]; exact KeepsFrom.of_grownBy (grownBy_setCell' _ _ _) (fun r e => by cases e; have := HS1.out; omega))
    have HQN := hid (show KrB (KW BB) V1.heap.size U U1 by
     rw [hU1]; exact ⟨kr_set U K0 _ (fun k hk => by rcases hk with rfl | hk <;> omega), fun k c fz hk h => (Below.heap_setCell _ _ _ k (by show k ≠ K0; have := HS1.out; omega)).trans h⟩)
    have c13 : U1.cell? ⟨K0, 0, none⟩ = some (.int .i64 (q : Int)) := r13.one
    have c3 : U1.cell? ⟨N, 0, none⟩ = some (.int .i64 st) := by rw [hU1]; exact (HLU.out.stop.other (by omega) 0 _).one
    rw [hU1] at c13 c3
    have hqi : ¬ (q1 : Int) < 1 := by omega
    have hq0 : (0 : Int) <= (q : Int) := by omega
    have hqm : (q : Int) < (m : Int) := by omega
    have hqw : (q1 : Int) - 1 = (q : Int) := by omega
    have hqwr : IntKind.i64.wrap (q : Int) = (q : Int) := by rw [IntKind.wrap_i64]; omega
    have hq10 : (0 : Int) <= (q1 : Int) := by omega
    have hq1m : (q1 : Int) < (m : Int) := by omega
    have xf2 : ((f2 : Int) != (f2 : Int)) = false := bne_eq_false_iff_eq.2 rfl
    have xt2 : ((t2 : Int) != (t2 : Int)) = false := bne_eq_false_iff_eq.2 rfl
    have HU1 := hid hU1
    clear hq hq1 hqq hf2 ht2' hDf hDt hmq hRy hLj hj r13 hU1 ub un
    by_cases hst : st = (q : Int)
    ·subst hst
     gi_wp2; rw [<- HU1.out]; exact ⟨HQK.out, rfl, HQB.out⟩
    ·have hst2 : ¬ (q : Int) = st := fun e => hst e.symm
     gi_wp2; rw [<- HU1.out]; exact ⟨HQK.out, HQN.out, HQB.out, by rw [HPL2.out]; exact HQ13.out⟩
   case' done2 => rintro xs U rfl ⟨ub, _⟩
   case' stop2 => rintro c pre2 U _ ⟨rfl, ub⟩
   all_goals (
    rw [HK0.out] at ub
    have kn := HKN2.out
    have kb := HKB.out
    have hUM : Cb U M #[.int .i64 (k : Nat)] 3 := (ub.block M (by have := kn.lt; omega)).trans kn
    have cU9 := hUM.one
    have zU9 := hUM.frozen 0
    have HLU := hid (HLV.out.below ub)
    have hbM : b9 < M := by have := hbx.lt; have := HM.out; omega
    have hNM : N < M := by have := HLR.out.stop.lt; have := HM.out; omega
    have hEM : EB < M := by have := HLR.out.e.bs.lt; have := HM.out; omega
    have hM3 : 3 <= M := by have := HLR.out.e.tb.two; have := HM.out; omega
    have hV9 : Cb V b9 #[.int .i64 (t : Nat)] 3 := (kb.block b9 hbM).trans hbx
    have hU9 : Cb U b9 #[.int .i64 (t : Nat)] 3 := (ub.block b9 hV9.lt).trans hV9
    obtain ⟨U1, hU1⟩ : ∃ U1, U1 = U.setCell ⟨M, 0, none⟩ (.int .i64 (k1 : Int)) := ⟨_, rfl⟩
    have r9 : Cb U1 M #[.int .i64 (k1 : Int)] 3 := by rw [hU1]; exact hUM.set 0 _
    have HR9 := hid r9
    have HQB := hid (show Below M wr U1 from by
     rw [hU1]; exact (kb.trans (ub.mono (by have := kb.size; have := HM.out; omega))).setCell (Nat.le_refl M) _)
    have HQK := hid (show KeepsFrom wA.heap.size V U1 from (KeepsFrom.of_grownBy (wgrown ub) (fun r e => by cases e)).trans (by rw [hU1]; exact KeepsFrom.of_grownBy (grownBy_setCell' _ _ _) (fun r e => by cases e; have := HSA.out; omega)))
    have HQN := hid (show KrW (KW EB) V U1 from KrW_t (kr_below ub HLV.out.e.lt) (by rw [hU1]; exact kr_set U M _ (fun k hk => by rcases hk with rfl | hk <;> omega)))
    have hc9 : U1.cell? ⟨M, 0, none⟩ = some (.int .i64 (k1 : Int)) := r9.one
    have hc8 : U1.cell? ⟨b9, 0, none⟩ = some (.int .i64 (t : Nat)) := by rw [hU1]; exact (hU9.other (by omega) 0 _).one
    have hc3 : U1.cell? ⟨N, 0, none⟩ = some (.int .i64 st) := by rw [hU1]; exact (HLU.out.stop.other (by omega) 0 _).one
    rw [hU1] at hc9 hc8 hc3
    have HU1 := hid hU1
    clear hU1 r9 kn kb ub hUM hV9 hU9
    by_cases ht0 : t = 0
    ·subst ht0
     by_cases hst : st = (k1 : Int)
     ·subst hst
      gi_wp2; rw [<- HU1.out]
      first | exact ⟨HQK.out, rfl, rfl, HQB.out, _, HR9.out⟩ | exact ⟨HQK.out, rfl, HQB.out, _, HR9.out⟩
     ·have hst2 : ¬ (k1 : Int) = st := fun e => hst e.symm
      gi_wp2; rw [<- HU1.out]; exact ⟨HQK.out, HQN.out, HQB.out, by rw [HPL.out]; exact HR9.out⟩
    ·obtain rfl : t = 1 := by omega
     gi_wp2; rw [<- HU1.out]; exact ⟨HQK.out, HQN.out, HQB.out, by rw [HPL.out]; exact HR9.out⟩)
  case' done =>
   rintro D0 xs V hD0 rfl ⟨kb, kn⟩ hK
   rw [<- HNL.out] at kn
  case' stop => rintro D0 c pre V hD0 hp ⟨rfl, ht0, kb, q, kn⟩ hK
  all_goals (
   have hbM : b9 < M := by have := hbx.lt; have := HM.out; omega
   have hV9 : Cb V b9 #[.int .i64 (t : Nat)] 3 := (kb.block b9 hbM).trans hbx
   have HLV := hid (HLR.out.below (by rw [<- HM.out]; exact kb))
   have cV9 := hV9.one
   have cV6 := HLV.out.cnt.one
   have cVM := kn.one
   have hVs := kb.size
   have HEnd := hid (show ∀ (w' : World) (a' : Act) (z : Int), z = (t : Int) + 1 -> w' = V.alloc (.cells #[.int .i64 z] 3) -> a'.tmps.size = 121 -> a'.defers = { target := .collected D0, args := #[] } :: mkD D' -> Pw.at_ a' 0 = .string ⟨l.toArray⟩ -> Pw.at_ a' 1 = .int .i64 st -> Pw.at_ a' 3 = .pointer (some ⟨N, 0, none⟩) -> Pw.at_ a' 4 = .pointer (some ⟨N + 1, 0, none⟩) -> Pw.at_ a' 5 = .pointer (some ⟨b5, 0, none⟩) -> Pw.at_ a' 6 = .pointer (some ⟨b6, 0, none⟩) -> Pw.at_ a' 7 = .func (.func 82) #[] #[.pointer (some ⟨EB, 0, none⟩)] -> Pw.at_ a' 8 = .pointer (some ⟨b8, 0, none⟩) -> Pw.at_ a' 9 = .pointer (some ⟨V.heap.size, 0, none⟩) -> Tn N EB b5 b6 b8 l st w9 m' a' w' (t + 1) V.heap.size (D0 :: D') by
    rintro w' a' z hz rfl h1 h2 i0 i1 i3 i4 i5 i6 i7 i8 i9
    have hnew : Cb (V.alloc (.cells #[.int .i64 z] 3)) V.heap.size #[.int .i64 z] 3 := Cb.new V _ _
    rw [show z = ((t + 1 : Nat) : Int) by omega] at *
    have hsame : ∀ d, d < V.heap.size -> (V.alloc (.cells #[.int .i64 ((t + 1 : Nat) : Int)] 3)).heap[d]? = V.heap[d]? := fun d hd => Below.heap_alloc _ _ _ hd
    have hDl : D0 < V.heap.size := (Array.getElem?_eq_some_iff.1 hK).1
    have hm0 := HM.out
    have hsa := HSA.out
    have hbl : Below w9.heap.size w9 V := HLO.out.trans (kb.mono (by omega))
    refine ⟨h1, by rw [h2]; rfl, i0, i1, i3, i4, i5, i6, i7, i8, i9, by omega, by omega, hbl.trans ((Below.refl _ _).alloc (by have := hbl.size; omega) _), hnew, by have := hbl.size; omega, HMK.out.more ((hsame _ hDl).trans hK) (by omega) (by omega) (fun e he _ => (hsame e (by omega)).trans (kb.block e (by omega)))⟩)
   clear hV9 hbx cb9 hK HMK HLO kb kn hbM)
  case done =>
   rcases (show t = 0 \/ t = 1 by omega) with rfl | rfl
   ·gi_wp2
    exact ⟨_, _, _, HEnd.out _ _ _ (by omega) rfl rfl (by rw [<- hdd]) rfl rfl rfl rfl rfl rfl rfl rfl rfl⟩
   ·gi_wp2
    exact ⟨_, _, _, HEnd.out _ _ _ (by omega) rfl rfl (by rw [<- hdd]) rfl rfl rfl rfl rfl rfl rfl rfl rfl⟩
  case stop =>
   subst ht0
   gi_wp2; exact ⟨_, _, _, HEnd.out _ _ _ (by omega) rfl rfl (by rw [<- hdd]) rfl rfl rfl rfl rfl rfl rfl rfl rfl⟩
 ·have ht2i : ¬ (t : Int) < 2 := by omega
  obtain ⟨M, hM⟩ : ∃ M, M = wr.heap.size := ⟨_, rfl⟩
  obtain ⟨wB, hwB⟩ : ∃ wB, wB = wr.alloc (.cells #[.int .i64 0] 3) := ⟨_, rfl⟩
  have hbB : Below wr.heap.size wr wB := by rw [hwB]; exact (Below.refl _ _).alloc (Nat.le_refl _) _
  have nB : Cb wB M #[.int .i64 0] 3 := by rw [hwB, hM]; exact Cb.new _ _ _
  have hsB : wB.heap.size = M + 1 := by rw [hwB, hM]; simp
  have HLB := hid (HLR.out.below hbB)
  have d8 := HLB.out.bk.one
  rw [hwB] at d8
  have HSB' := hid hsB
  have HM := hid hM
  rw [<- hM] at hbB hwr
  clear hM hsB
  gi_wp2_with fail
  rw [<- hwB, <- HM.out]; clear hwB d8; refine rangeS rfl (by omega) rfl trivial (enters_of Tryz.func83 (by kernel_rfl) rfl) (sback_s 19 (by omega) BB wB.heap.size l L2 HLr.out wB HLB.out.b (by omega)) KrB_t (KrB_b HLB.out.b.lt) (Below.refl _ _) (fun _ => rfl)
   (fun pre V => Below M wr V /\ Cb V M #[.int .i64 (pre.length : Nat)] 3)
   (fun _ _ _ => False) ?own3 ?ownx3
   ⟨hbB, nB⟩
   (fun x a' _ => a' = { tmps := #[.string ⟨l.toArray⟩, .int .i64 st, u 2, .pointer (some ⟨N, 0, none⟩), .pointer (some ⟨N + 1, 0, none⟩), .pointer (some ⟨b5, 0, none⟩), .pointer (some ⟨b6, 0, none⟩), .func (.func 82) #[] #[.pointer (some ⟨EB, 0, none⟩)], .pointer (some ⟨b8, 0, none⟩), .pointer (some ⟨b9, 0, none⟩), u 10, u 11, u 12, u 13, u 14, u 15, .pointer (some ⟨M, 0, none⟩), u 17, u 18, u 19, u 20, u 21, u 22, u 23, u 24, u 25, u 26, u 27, u 28, u 29, u 30, u 31, u 32, u 33, u 34, u 35, u 36, u 37, .int .i64 (t : Nat), .bool false, u 40, u 41, u 42, u 43, u 44, u 45, u 46, u 47, u 48, u 49, u 50, u 51, u 52, u 53, u 54, u 55, u 56, u 57, u 58, u 59, u 60, u 61, u 62, u 63, u 64, u 65, u 66, u 67, u 68, u 69, u 70, u 71, u 72, u 73, u 74, u 75, u 76, u 77, u 78, u 79, u 80, u 81, u 82, u 83, u 84, u 85, u 86, u 87, u 88, u 89, u 90, u 91, u 92, u 93, u 94, u 95, u 96, u 97, u 98, u 99, u 100, u 101, u 102, u 103, u 104, u 105, u 106, u 107, u 108, u 109, .func (.func 83) #[] #[.pointer (some ⟨BB, 0, none⟩)], .int .i64 (x.v.1 : Nat), .int .i64 (x.v.2 : Nat), u 113, u 114, u 115, u 116, u 117, u 118, u 119, u 120], defers := [] })
   (fun _ _ _ _ _ _ h _ _ => h) ?assign3 ?body3 ?done3 ?stop3
  case own3 =>
   rintro pre P C row ⟨k0, k1⟩ hg hr
   exact ⟨k0.grown hg (by rw [HM.out]; exact k0.size) (fun k hk => by have := (hr k hk).1; have := HSB'.out; omega), k1.kept hg (fun e => by have := (hr _ e.symm).1; have := HSB'.out; omega)⟩
  case ownx3 => exact fun _ _ _ _ _ h _ _ => h
  case assign3 =>
   intro lp pre x V K hI hK
   dsimp only [encP]
   gi_wp2; exact hK _ _ (KeepsFrom.refl _ _) ⟨⟨KeepsWalks.refl _, fun _ _ => rfl⟩, fun _ _ _ _ h => h⟩ hI rfl
  case body3 =>
   rintro lp pre x a' V hlp _ ⟨kb, kn⟩ rfl hsp
   have hln : pre.length < n := by
    have h := hsp.length_le
    rw [List.length_append, List.length_singleton, HL22.out] at h
    omega
   have HPL := hid (show ((pre ++ [x]).length : Nat) = pre.length + 1 by simp)
   obtain ⟨k, hk⟩ : ∃ k, k = pre.length := ⟨_, rfl⟩
   rw [<- hk] at HPL hln kn
   obtain ⟨k1, hk1⟩ : ∃ k1, k1 = k + 1 := ⟨_, rfl⟩
   rw [<- hk1] at HPL
   have hkw : (k : Int) + 1 = (k1 : Int) := by omega
   have hkwr : IntKind.i64.wrap (k1 : Int) = (k1 : Int) := by rw [IntKind.wrap_i64]; omega
   have cV := kn.one
   have zV := kn.frozen 0
   have hBM : BB < M := by have := HLR.out.b.bs.lt; have := HM.out; omega
   have hM3 : 3 <= M := by have := HLR.out.b.tb.two; have := HM.out; omega
   obtain ⟨U1, hU1⟩ : ∃ U1, U1 = V.setCell ⟨M, 0, none⟩ (.int .i64 (k1 : Int)) := ⟨_, rfl⟩
   have HR9 := hid (show Cb U1 M #[.int .i64 (k1 : Int)] 3 by rw [hU1]; exact kn.set 0 _)
   have HQB := hid (show Below M wr U1 by rw [hU1]; exact kb.setCell (Nat.le_refl M) _)
   have HQK := hid (show KeepsFrom wB.heap.size V U1 by rw [hU1]; exact KeepsFrom.of_grownBy (grownBy_setCell' _ _ _) (fun r e => by cases e; have := HSB'.out; omega))
   have HQN := hid (show KrB (KW BB) wB.heap.size V U1 by
    rw [hU1]; exact ⟨kr_set V M _ (fun k hk => by rcases hk with rfl | hk <;> omega), fun k c fz hk h => (Below.heap_setCell _ _ _ k (by show k ≠ M; have := HSB'.out; omega)).trans h⟩)
   have HU1 := hid hU1
   clear hU1 hk hk1 kb kn hsp
   gi_wp2; rw [<- HU1.out]; exact ⟨HQK.out, HQN.out, HQB.out, by rw [HPL.out]; exact HR9.out⟩
  case done3 =>
   rintro D0 xs V hD0 rfl ⟨kb, kn⟩ hK
   rw [HL22.out] at kn
   have HLV := hid (HLR.out.below (by rw [<- HM.out]; exact kb))
   have cV6 := HLV.out.cnt.one
   have cVM := kn.one
   have hVs := kb.size
   have hm0 := HM.out
   have hsb := HSB'.out
   have HBV := hid (show Below w.heap.size w V from (HBW.out.trans (HLO.out.mono HBW.out.size)).trans (kb.mono (Nat.le_trans HBW.out.size (by omega))))
   have HMV := hid (show Marks (D0 :: D') w9.heap.size V from HMK.out.more hK (by omega) (by omega) (fun e he _ => kb.block e (by omega)))
   clear hm0 hsb
   gi_wp2_with fail
   refine ⟨trivial, (callsIn_wide.2 (HL0.out V HBV.out)).mono ?_⟩
   rintro e w5 ⟨rfl, be⟩; have b4 := HLV.out.res.below be
   have c5 := b4.one
   have z5 := b4.frozen 0
   have hN2 := HLW.out.res.lt
   obtain ⟨w6, hw6⟩ : ∃ w6, w6 = w5.setCell ⟨N + 1, 0, none⟩ (.bool true) := ⟨_, rfl⟩
   have HR := hid (show Cb w6 (N + 1) #[.bool true] 4 by rw [hw6]; exact b4.set 0 _)
   have HBR := hid (show Bw w w6 by
    have h1 : Below w.heap.size w w5 := HBV.out.trans (be.mono HBV.out.size)
    rw [hw6]; exact h1.setCell (by show w.heap.size <= N + 1; have := HEN.out; unfold Eqn at this; omega) _)
   have HM6 := hid (show Marks (D0 :: D') w9.heap.size w6 from ⟨fun d hd => by
    have h1 := HMV.out.lt hd
    have h2 := HMV.out.low d hd
    rw [hw6]; exact ((Below.heap_setCell _ _ _ d (by show d ≠ N + 1; omega)).trans (be.block d h1)).trans (HMV.out.at' d hd), HMV.out.low, HMV.out.nodup⟩)
   have hw9N : Bw w w9 := HBW.out
   clear be b4 HLO HMK HLR cb9 hbx hwr hK kb kn
   gi_wp2_with fail
   rw [<- hw6]; clear hw6 c5 z5; exact leaves_marks 20 w9.heap.size (D0 :: D') w6 HM6.out (fun w' hs => ⟨_, results_bool rfl _ _ _ _ rfl (hs.cells _ _ HR.out rfl), rfl, HBR.out.trans (hs.low.mono hw9N.size)⟩)
  case stop3 =>
   rintro D0 c pre V _ _ h _
   exact h.elim
theorem spw_walk (l : List UInt8) (st : Int) (w : World) (ht : TbW w) :
  Calls Tryz.prog 10 #[.string ⟨l.toArray⟩, .int .i64 st] w fun e w' => e = .returned (.bool true) /\ Below w.heap.size w w' := callsIn_wide.1 (spw_in l st w ht)
end Go.Proofs.YtdpohgoikbeplaaGreatDoor.Sn
