/- The contract of both (the statements' own): the program's table and the document's. -/
import Derived.Test.YtljlhlcoaajggaaAsks
import Derived.Test.YtljlhlcoaajggaaRBuild
import Derived.Test.YtljlhlcoaajggaaLdMath
import Derived.Test.YtljlhlcoaajggaaReadNAll
namespace Go.Proofs.Ytljlhlcoaajggaa
open Go.RowKit

/-- The program's table at T and the document's at P are the same: of the ranges L, in their normal form. -/
structure Twin (B T P r : Nat) (F : List (List Nat)) (L : List Tr) (w : World) : Prop where
  t : TbAt B T F r w
  p : RtAt B P L r w
  f : F.flatten = clA r L
  lt : r < 256
  ris : Ris 0 L
  nrm : rgs r (clA r L) = L
theorem Twin.below {B T P r : Nat} {F : List (List Nat)} {L : List Tr} {w w' : World} (h : Twin B T P r F L w) (hb : Below w.heap.size w w') : Twin B T P r F L w' := ⟨h.t.below hb, h.p.below hb, h.f, h.lt, h.ris, h.nrm⟩
theorem RtAt.mono {B B' P r : Nat} {L : List Tr} {w : World} (h : RtAt B P L r w) (hb : B' ≤ B) : RtAt B' P L r w := by
  obtain ⟨v, h1, h2⟩ := h
  exact ⟨v, h1, own_mono h2 hb⟩
theorem Twin.mono {B B' T P r : Nat} {F : List (List Nat)} {L : List Tr} {w : World} (h : Twin B T P r F L w) (hb : B' ≤ B) : Twin B' T P r F L w := ⟨h.t.mono hb, h.p.mono hb, h.f, h.lt, h.ris, h.nrm⟩
theorem icl_lt {r : Int} (h : icl r = true) : r.toNat < 256 ∧ ((r.toNat : Nat) : Int) = r := by
  unfold icl at h
  have := of_decide_eq_true h
  omega
theorem twin_of (l : List Rk) (r : Int) (hb : bo l r = none) : r.toNat < 256 ∧ Ris 0 (nrA r.toNat [] (srt [] l)) ∧ clA r.toNat (nrA r.toNat [] (srt [] l)) = clA r.toNat (srt [] l) ∧ rgs r.toNat (clA r.toNat (nrA r.toNat [] (srt [] l))) = nrA r.toNat [] (srt [] l) := by
  obtain ⟨h1, _, h2⟩ := bo_none hb
  have h3 := (icl_lt h1).1
  have h4 := srt_ris l [] 0 trivial h2
  have h5 := nrA_rgs r.toNat h3 _ h4
  have h6 := clA_len r.toNat _ h4
  have h7 := clA_256 r.toNat _ h3 h4
  have h8 := clA_rgs r.toNat _ h6 h7
  rw [h5]
  refine ⟨h3, rgs_ris _ _ h6 h7, h8, by rw [h8]⟩

theorem results_tmp4 {fn : Func} {t u v x : Tmp} (h : fn.results = #[.tmp t, .tmp u, .tmp v, .tmp x]) (tmps : Array Value) (P : Program) (w : World) :
    (results fn tmps).run P w = .ok (.tuple #[tmps.getD t undef, tmps.getD u undef, tmps.getD v undef, tmps.getD x undef]) w := by
  simp [results, h]
set_option maxHeartbeats 2000000 in
set_option maxRecDepth 100000 in
theorem both_any (ao : Option Addr) (ac : Nat) (l : List Rk) (r : Int) (w : World) (ha : RdK w ao l) (hna : ao = none → ac = 0) (hl : l.length ≤ 100000) :
    Calls Try.prog 20 #[.slice ao l.length ac, .int .i64 r] w fun e w' => Below w.heap.size w w' ∧
      ((bo l r ≠ none ∧ e = .returned (.tuple #[.pointer none, .pointer none, .bool false, .bool true])) ∨
       (bo l r = none ∧ ∃ T P F L, e = .returned (.tuple #[.pointer (some ⟨T, 0, none⟩), .pointer (some ⟨P, 0, none⟩), .bool true, .bool true]) ∧ Twin w.heap.size T P r.toNat F L w')) := by
  have HA := hid ha
  have HO := hid (own_any ao ac l w ha hna (by omega))
  obtain ⟨n, hn⟩ : ∃ n, n = l.length := ⟨_, rfl⟩
  have HN := hid hn
  rw [← hn] at HO ⊢
  clear ha hn
  go_enter Try.func20, Try.ntmps20
  go_wp2_with fail
  refine HO.out.mono ?_
  rintro e w1 ⟨g1, p1, rfl, o1, b1⟩
  have HB1 := hid b1
  have HBU := hid (build_any (some ⟨g1, 0, none⟩) p1 l r w1 (rd_ownL o1) (by have h5 := HN.out; omega))
  rw [← HN.out] at HBU
  clear o1 b1 HO
  go_wp2_with fail
  refine HBU.out.mono ?_
  rintro e w2 ⟨b2, hc⟩
  have HB2 := hid (HB1.out.trans (b2.mono HB1.out.size))
  have hs1 := HB1.out.size
  have hs2 := HB2.out.size
  have HRB := hid (rbuild_any ao ac l r w2 (HA.out.below HB2.out) (by have h5 := HN.out; omega))
  rw [← HN.out] at HRB
  clear b2 HBU
  rcases hc with ⟨c, k, hc, rfl⟩ | ⟨hbo, T, F, rfl, hTs, hF, hsl, hTb⟩
  · have HC := hid hc
    clear hc
    go_wp2_with fail
    refine HRB.out.mono ?_
    rintro e w3 ⟨b3, hd⟩
    have HB3 := hid (HB2.out.trans (b3.mono hs2))
    clear b3 HRB
    rcases hd with ⟨c', k', hc', rfl⟩ | ⟨hbo, _⟩
    · rw [HC.out] at hc'
      cases hc'
      have HNO := hid (show bo l r ≠ none by rw [HC.out]; simp)
      go_wp2_with (first | (go_at_call 9; refine (num_any _ _).mono ?_; rintro e w9 ⟨rfl, h9⟩; obtain rfl := h9.symm) | fail)
      refine bodyPost_ret (results_tmp4 rfl _ _ _) rfl ?_
      exact ⟨HB3.out, .inl ⟨HNO.out, rfl⟩⟩
    · rw [HC.out] at hbo
      cases hbo
  · have HBO := hid hbo
    have HF := hid hF
    have HTb := hid hTb
    clear hbo hF hTb
    go_wp2_with fail
    refine HRB.out.mono ?_
    rintro e w3 ⟨b3, hd⟩
    have HB3 := hid (HB2.out.trans (b3.mono hs2))
    have HT3 := hid ((HTb.out.below b3).mono hs1)
    clear b3 HRB
    rcases hd with ⟨c', k', hc', rfl⟩ | ⟨hbo, P, rfl, hPs, hPt⟩
    · rw [HBO.out] at hc'
      cases hc'
    · have HPT := hid (hPt.mono hs2)
      clear hbo hPt
      go_wp2_with (first | (go_at_call 9; refine (num_any _ _).mono ?_; rintro e w9 ⟨rfl, h9⟩; obtain rfl := h9.symm) | fail)
      refine bodyPost_ret (results_tmp4 rfl _ _ _) rfl ?_
      obtain ⟨q1, q2, q3, q4⟩ := twin_of l r HBO.out
      exact ⟨HB3.out, .inr ⟨HBO.out, T, P, F, _, rfl, HT3.out, HPT.out, by rw [q3]; exact HF.out, q1, q2, q4⟩⟩
end Go.Proofs.Ytljlhlcoaajggaa
/- The contract of take (package kerfref03). -/
namespace Go.Proofs.Ytljlhlcoaajggaa
open Go.RowKit

/-- A number of a few bytes: it, where it ends, and whether there is one. -/
def tkF (t : Nat) : Nat → Nat → Nat → List Nat → Nat × Nat × Bool
  | 0, _, _, _ => (0, 0, false)
  | _ + 1, _, _, [] => (0, 0, false)
  | f + 1, i, n, c :: r => if c < 128 then (n + c % 128 * 2 ^ (7 * i), t + i + 1, decide (i = 0) || decide (0 < c)) else tkF t f (i + 1) (n + c % 128 * 2 ^ (7 * i)) r
def tkR (b : List Nat) (t : Nat) : Nat × Nat × Bool := tkF t 4 0 0 (b.drop t)
def tkV (x : Nat × Nat × Bool) : Value := .tuple #[.int .i64 (x.1 : Int), .int .i64 (x.2.1 : Int), .bool x.2.2]

set_option maxHeartbeats 4000000 in
set_option maxRecDepth 100000 in
theorem take_any (ao : Option Addr) (ac : Nat) (b : List Nat) (t : Nat) (w : World) (hb : RdU w ao b) (h8 : ∀ c ∈ b, c < 256) (hl : b.length ≤ 1000000000) (ht : t ≤ 1000000000) :
    Calls Try.prog 59 #[.slice ao b.length ac, .int .i64 (t : Int)] w fun e w' => e = .returned (tkV (tkR b t)) ∧ w' = w := by
  have HR := hid hb
  have H8 := hid h8
  obtain ⟨n, hn⟩ : ∃ n, n = b.length := ⟨_, rfl⟩
  rw [← hn] at hl ⊢
  have HN := hid hn
  have HT0 := hid (show tkR b t = tkF t (4 - 0) 0 0 (b.drop (t + 0)) from rfl)
  clear hb h8 hn
  go_enter Try.func59, Try.ntmps59
  go_wp2
  go_loopw [8, 7] (fun x y wr => ∃ (i s : Nat), x = .int .i64 (i : Int) ∧ y = .int .i64 (s : Int) ∧ i ≤ 4 ∧ s < 2 ^ (7 * i) ∧ Hid (tkR b t = tkF t (4 - i) i s (b.drop (t + i))) ∧ Hid (wr = w)) (fun x _ _ => 4 - (intOf x).toNat)
  case atStart => exact ⟨0, 0, rfl, rfl, by omega, by decide, HT0, rfl⟩
  case round =>
    obtain ⟨i, s, rfl, rfl, hi, hs, HT, HWW⟩ := hrel
    obtain rfl := HWW.out.symm
    have h5 : i = 0 ∨ i = 1 ∨ i = 2 ∨ i = 3 ∨ i = 4 := by omega
    clear hi
    rcases h5 with rfl | rfl | rfl | rfl | rfl
    · obtain rfl : s = 0 := by have h6 : s < 1 := hs; omega
      clear hs
      by_cases hlt : t < n
      · have hib : t < b.length := by have h5 := HN.out; omega
        obtain ⟨a, rfl, _, a0⟩ := HR.out (t) b[t] (List.getElem?_eq_getElem hib)
        have h256 := H8.out b[t] (List.getElem_mem hib)
        have HDR := hid (show b.drop (t) = b[t] :: b.drop (t + 1) from List.drop_eq_getElem_cons hib)
        obtain ⟨c, hc⟩ : ∃ c, c = b[t] := ⟨_, rfl⟩
        rw [← hc] at a0 h256 HDR
        have HT1 := hid (show tkR b t = if c < 128 then (0 + c % 128, t + 1, decide (0 = 0) || decide (0 < c)) else tkF t (4 - 1) 1 (0 + c % 128) (b.drop (t + 1)) by rw [HT.out, Nat.add_zero, HDR.out]; show (if c < 128 then (0 + c % 128 * 2 ^ (7 * 0), t + 0 + 1, decide (0 = 0) || decide (0 < c)) else tkF t 3 (0 + 1) (0 + c % 128 * 2 ^ (7 * 0)) (b.drop (t + 1))) = _; simp)
        obtain ⟨d, hd⟩ : ∃ d, d = c % 128 := ⟨_, rfl⟩
        rw [← hd] at HT1
        have e1 : (c : Int) % 128 = (d : Int) := by omega
        have e2 : IntKind.i64.wrap (c : Int) = (c : Int) := by rw [IntKind.wrap_i64]; omega
        have hd2 : d < 128 := by omega
        have e3 : IntKind.i64.wrap (d : Int) = (d : Int) := by rw [IntKind.wrap_i64]; omega
        have e4 : IntKind.i64.wrap ((t : Int) + 1) = ((t + 1 : Nat) : Int) := by rw [IntKind.wrap_i64]; omega
        have j3 : ¬ (n : Int) ≤ (t : Int) := by omega
        have j4 : (t : Int) < (n : Int) := by omega
        have j0 : (0 : Int) ≤ (t : Int) := by omega
        have hs2 : d < 2 ^ (7 * 1) := by show d < 128; omega
        rw [Nat.zero_add] at HT1
        clear hc hd HT HDR
        by_cases hc : c < 128
        · have hc' : (c : Int) < 128 := by omega
          rw [if_pos hc] at HT1
          clear hc
          go_wp2
          go_ret3
          exact ⟨by rw [HT1.out]; rfl, rfl⟩
        · have hc' : ¬ (c : Int) < 128 := by omega
          rw [if_neg hc] at HT1
          have HT2 := hid (show tkR b t = tkF t (4 - 1) 1 d (b.drop (t + 1)) from HT1.out)
          clear hc
          go_wp2
          go_roundw
          case rel => exact ⟨1, d, by go_num, rfl, by omega, hs2, HT2, by first | exact (trivial : True) | rfl⟩
          case measure => simp [intOf]
      · have HTE := hid (show tkR b t = (0, 0, false) by rw [HT.out, List.drop_of_length_le (by have h5 := HN.out; omega)]; rfl)
        have j3 : (n : Int) ≤ ((t : Nat) : Int) := by omega
        go_wp2
        go_ret3
        exact ⟨by rw [HTE.out]; rfl, rfl⟩
    · have hs' : s < 128 := hs
      have i1 : IntKind.i64.wrap ((t : Int) + 1) = ((t + 1 : Nat) : Int) := by rw [IntKind.wrap_i64]; omega
      clear hs
      by_cases hlt : t + 1 < n
      · have hib : t + 1 < b.length := by have h5 := HN.out; omega
        obtain ⟨a, rfl, _, a0⟩ := HR.out (t + 1) b[t + 1] (List.getElem?_eq_getElem hib)
        have h256 := H8.out b[t + 1] (List.getElem_mem hib)
        have HDR := hid (show b.drop (t + 1) = b[t + 1] :: b.drop (t + 1 + 1) from List.drop_eq_getElem_cons hib)
        obtain ⟨c, hc⟩ : ∃ c, c = b[t + 1] := ⟨_, rfl⟩
        rw [← hc] at a0 h256 HDR
        have HT1 := hid (show tkR b t = if c < 128 then (s + c % 128 * 128, t + 1 + 1, decide (1 = 0) || decide (0 < c)) else tkF t (4 - 2) 2 (s + c % 128 * 128) (b.drop (t + 1 + 1)) by rw [HT.out, HDR.out]; rfl)
        obtain ⟨j, hj⟩ : ∃ j, j = t + 1 := ⟨_, rfl⟩
        rw [← hj] at a0 i1 hlt
        have HJ := hid hj
        obtain ⟨d, hd⟩ : ∃ d, d = c % 128 := ⟨_, rfl⟩
        rw [← hd] at HT1
        have e1 : (c : Int) % 128 = (d : Int) := by omega
        have e2 : IntKind.i64.wrap (c : Int) = (c : Int) := by rw [IntKind.wrap_i64]; omega
        have hd2 : d < 128 := by omega
        have ew : wrap64 ((d : Int) * 128) = (d : Int) * 128 := by unfold wrap64; omega
        have e3 : IntKind.i64.wrap ((s : Int) + (d : Int) * 128) = ((s + d * 128 : Nat) : Int) := by rw [IntKind.wrap_i64]; omega
        have e4 : IntKind.i64.wrap ((j : Int) + 1) = ((j + 1 : Nat) : Int) := by rw [IntKind.wrap_i64]; omega
        have j3 : ¬ (n : Int) ≤ (j : Int) := by omega
        have j4 : (j : Int) < (n : Int) := by omega
        have j0 : (0 : Int) ≤ (j : Int) := by omega
        have hs2 : s + d * 128 < 2 ^ (7 * 2) := Nat.lt_of_lt_of_eq (Nat.add_lt_add_of_lt_of_le hs' (Nat.mul_le_mul_right 128 (show d ≤ 127 by omega))) (show 128 + 127 * 128 = 2 ^ (7 * 2) by decide)
        obtain ⟨s2, hse⟩ : ∃ s2, s2 = s + d * 128 := ⟨_, rfl⟩
        rw [← hse] at HT1 e3 hs2
        clear hc hd hj hse HT HDR
        by_cases hc : c < 128
        · have hc' : (c : Int) < 128 := by omega
          rw [if_pos hc] at HT1
          clear hc
          go_wp2
          go_ret3
          exact ⟨by rw [HT1.out]; have h5 := HJ.out; subst h5; simp [tkV], rfl⟩
        · have hc' : ¬ (c : Int) < 128 := by omega
          rw [if_neg hc] at HT1
          have HT2 := hid (show tkR b t = tkF t (4 - 2) 2 s2 (b.drop (t + 2)) from HT1.out)
          clear hc
          go_wp2
          go_roundw
          case rel => exact ⟨2, s2, by go_num, rfl, by omega, hs2, HT2, by first | exact (trivial : True) | rfl⟩
          case measure => simp [intOf]
      · have HTE := hid (show tkR b t = (0, 0, false) by rw [HT.out, List.drop_of_length_le (by have h5 := HN.out; omega)]; rfl)
        have j3 : (n : Int) ≤ ((t + 1 : Nat) : Int) := by omega
        go_wp2
        go_ret3
        exact ⟨by rw [HTE.out]; rfl, rfl⟩
    · have hs' : s < 16384 := hs
      have i1 : IntKind.i64.wrap ((t : Int) + 2) = ((t + 2 : Nat) : Int) := by rw [IntKind.wrap_i64]; omega
      clear hs
      by_cases hlt : t + 2 < n
      · have hib : t + 2 < b.length := by have h5 := HN.out; omega
        obtain ⟨a, rfl, _, a0⟩ := HR.out (t + 2) b[t + 2] (List.getElem?_eq_getElem hib)
        have h256 := H8.out b[t + 2] (List.getElem_mem hib)
        have HDR := hid (show b.drop (t + 2) = b[t + 2] :: b.drop (t + 2 + 1) from List.drop_eq_getElem_cons hib)
        obtain ⟨c, hc⟩ : ∃ c, c = b[t + 2] := ⟨_, rfl⟩
        rw [← hc] at a0 h256 HDR
        have HT1 := hid (show tkR b t = if c < 128 then (s + c % 128 * 16384, t + 2 + 1, decide (2 = 0) || decide (0 < c)) else tkF t (4 - 3) 3 (s + c % 128 * 16384) (b.drop (t + 2 + 1)) by rw [HT.out, HDR.out]; rfl)
        obtain ⟨j, hj⟩ : ∃ j, j = t + 2 := ⟨_, rfl⟩
        rw [← hj] at a0 i1 hlt
        have HJ := hid hj
        obtain ⟨d, hd⟩ : ∃ d, d = c % 128 := ⟨_, rfl⟩
        rw [← hd] at HT1
        have e1 : (c : Int) % 128 = (d : Int) := by omega
        have e2 : IntKind.i64.wrap (c : Int) = (c : Int) := by rw [IntKind.wrap_i64]; omega
        have hd2 : d < 128 := by omega
        have ew : wrap64 ((d : Int) * 16384) = (d : Int) * 16384 := by unfold wrap64; omega
        have e3 : IntKind.i64.wrap ((s : Int) + (d : Int) * 16384) = ((s + d * 16384 : Nat) : Int) := by rw [IntKind.wrap_i64]; omega
        have e4 : IntKind.i64.wrap ((j : Int) + 1) = ((j + 1 : Nat) : Int) := by rw [IntKind.wrap_i64]; omega
        have j3 : ¬ (n : Int) ≤ (j : Int) := by omega
        have j4 : (j : Int) < (n : Int) := by omega
        have j0 : (0 : Int) ≤ (j : Int) := by omega
        have hs2 : s + d * 16384 < 2 ^ (7 * 3) := Nat.lt_of_lt_of_eq (Nat.add_lt_add_of_lt_of_le hs' (Nat.mul_le_mul_right 16384 (show d ≤ 127 by omega))) (show 16384 + 127 * 16384 = 2 ^ (7 * 3) by decide)
        obtain ⟨s2, hse⟩ : ∃ s2, s2 = s + d * 16384 := ⟨_, rfl⟩
        rw [← hse] at HT1 e3 hs2
        clear hc hd hj hse HT HDR
        by_cases hc : c < 128
        · have hc' : (c : Int) < 128 := by omega
          rw [if_pos hc] at HT1
          clear hc
          go_wp2
          go_ret3
          exact ⟨by rw [HT1.out]; have h5 := HJ.out; subst h5; simp [tkV], rfl⟩
        · have hc' : ¬ (c : Int) < 128 := by omega
          rw [if_neg hc] at HT1
          have HT2 := hid (show tkR b t = tkF t (4 - 3) 3 s2 (b.drop (t + 3)) from HT1.out)
          clear hc
          go_wp2
          go_roundw
          case rel => exact ⟨3, s2, by go_num, rfl, by omega, hs2, HT2, by first | exact (trivial : True) | rfl⟩
          case measure => simp [intOf]
      · have HTE := hid (show tkR b t = (0, 0, false) by rw [HT.out, List.drop_of_length_le (by have h5 := HN.out; omega)]; rfl)
        have j3 : (n : Int) ≤ ((t + 2 : Nat) : Int) := by omega
        go_wp2
        go_ret3
        exact ⟨by rw [HTE.out]; rfl, rfl⟩
    · have hs' : s < 2097152 := hs
      have i1 : IntKind.i64.wrap ((t : Int) + 3) = ((t + 3 : Nat) : Int) := by rw [IntKind.wrap_i64]; omega
      clear hs
      by_cases hlt : t + 3 < n
      · have hib : t + 3 < b.length := by have h5 := HN.out; omega
        obtain ⟨a, rfl, _, a0⟩ := HR.out (t + 3) b[t + 3] (List.getElem?_eq_getElem hib)
        have h256 := H8.out b[t + 3] (List.getElem_mem hib)
        have HDR := hid (show b.drop (t + 3) = b[t + 3] :: b.drop (t + 3 + 1) from List.drop_eq_getElem_cons hib)
        obtain ⟨c, hc⟩ : ∃ c, c = b[t + 3] := ⟨_, rfl⟩
        rw [← hc] at a0 h256 HDR
        have HT1 := hid (show tkR b t = if c < 128 then (s + c % 128 * 2097152, t + 3 + 1, decide (3 = 0) || decide (0 < c)) else tkF t (4 - 4) 4 (s + c % 128 * 2097152) (b.drop (t + 3 + 1)) by rw [HT.out, HDR.out]; rfl)
        obtain ⟨j, hj⟩ : ∃ j, j = t + 3 := ⟨_, rfl⟩
        rw [← hj] at a0 i1 hlt
        have HJ := hid hj
        obtain ⟨d, hd⟩ : ∃ d, d = c % 128 := ⟨_, rfl⟩
        rw [← hd] at HT1
        have e1 : (c : Int) % 128 = (d : Int) := by omega
        have e2 : IntKind.i64.wrap (c : Int) = (c : Int) := by rw [IntKind.wrap_i64]; omega
        have hd2 : d < 128 := by omega
        have ew : wrap64 ((d : Int) * 2097152) = (d : Int) * 2097152 := by unfold wrap64; omega
        have e3 : IntKind.i64.wrap ((s : Int) + (d : Int) * 2097152) = ((s + d * 2097152 : Nat) : Int) := by rw [IntKind.wrap_i64]; omega
        have e4 : IntKind.i64.wrap ((j : Int) + 1) = ((j + 1 : Nat) : Int) := by rw [IntKind.wrap_i64]; omega
        have j3 : ¬ (n : Int) ≤ (j : Int) := by omega
        have j4 : (j : Int) < (n : Int) := by omega
        have j0 : (0 : Int) ≤ (j : Int) := by omega
        have hs2 : s + d * 2097152 < 2 ^ (7 * 4) := Nat.lt_of_lt_of_eq (Nat.add_lt_add_of_lt_of_le hs' (Nat.mul_le_mul_right 2097152 (show d ≤ 127 by omega))) (show 2097152 + 127 * 2097152 = 2 ^ (7 * 4) by decide)
        obtain ⟨s2, hse⟩ : ∃ s2, s2 = s + d * 2097152 := ⟨_, rfl⟩
        rw [← hse] at HT1 e3 hs2
        clear hc hd hj hse HT HDR
        by_cases hc : c < 128
        · have hc' : (c : Int) < 128 := by omega
          rw [if_pos hc] at HT1
          clear hc
          go_wp2
          go_ret3
          exact ⟨by rw [HT1.out]; have h5 := HJ.out; subst h5; simp [tkV], rfl⟩
        · have hc' : ¬ (c : Int) < 128 := by omega
          rw [if_neg hc] at HT1
          have HT2 := hid (show tkR b t = tkF t (4 - 4) 4 s2 (b.drop (t + 4)) from HT1.out)
          clear hc
          go_wp2
          go_roundw
          case rel => exact ⟨4, s2, by go_num, rfl, by omega, hs2, HT2, by first | exact (trivial : True) | rfl⟩
          case measure => simp [intOf]
      · have HTE := hid (show tkR b t = (0, 0, false) by rw [HT.out, List.drop_of_length_le (by have h5 := HN.out; omega)]; rfl)
        have j3 : (n : Int) ≤ ((t + 3 : Nat) : Int) := by omega
        go_wp2
        go_ret3
        exact ⟨by rw [HTE.out]; rfl, rfl⟩
    · have HTE := hid (show tkR b t = (0, 0, false) from HT.out.trans rfl)
      clear hs
      go_wp2
      go_ret3
      exact ⟨by rw [HTE.out]; rfl, rfl⟩
end Go.Proofs.Ytljlhlcoaajggaa
