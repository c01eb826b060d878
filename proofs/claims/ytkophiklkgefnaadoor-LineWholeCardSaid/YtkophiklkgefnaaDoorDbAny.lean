/- The document's database in memory, and what it says of a rune: Db and Named. -/
import Derived.Test.YtkophiklkgefnaaDoorLnDb
import Derived.Test.YtkophiklkgefnaaDoorMix
namespace Go.Proofs.YtkophiklkgefnaaDoor.Dc
open Go.RowKit

/-- A database: its names, and the ranges of all classes. -/
def Bk (U : List (List UInt8)) (A : List Tr) (Q : Nat) (w : World) : Prop := ∃ B nv sv vs, DocAt B Q U (dst U.length A) nv sv vs w
theorem Bk.below {U : List (List UInt8)} {A : List Tr} {Q : Nat} {w w' : World} (h : Bk U A Q w) (hb : Below w.heap.size w w') : Bk U A Q w' := by
  obtain ⟨B, nv, sv, vs, h⟩ := h
  exact ⟨B, nv, sv, vs, h.below hb⟩
theorem Bk.names {U : List (List UInt8)} {A : List Tr} {Q : Nat} {w : World} (h : Bk U A Q w) (k : Nat) (b : List UInt8) (hk : U[k]? = some b) : ∃ a ac, w.cell? ⟨Q, 0, none⟩ = some (.slice (some a) U.length ac) ∧ w.cell? (a.add k) = some (.string ⟨b.toArray⟩) := by
  obtain ⟨B, nv, sv, vs, h⟩ := h
  obtain ⟨ao, ac, rfl, hr⟩ := rdn_own h.hN rfl
  obtain ⟨a, rfl, _, h2⟩ := hr k b hk
  exact ⟨a, ac, h.c0, h2⟩
theorem rnew_eq (s : ByteArray) (t : List UInt8) (w : World) (hs : s = ⟨t.toArray⟩) (ht : t.length ≤ 12000 ∨ 65536 < t.length) (U : List (List UInt8)) (S : List Tr) (W : List Tr) (hn : nw t = ((0, 0), U, S)) (hw : whl S = W) :
    Calls Tryd.prog 40 #[.string s] w fun e w' => Below w.heap.size w w' ∧ ∃ Q, e = .returned (.tuple #[.pointer (some ⟨Q, 0, none⟩), .int .i64 0, .int .i64 0]) ∧ Bk U W Q w' := by
  subst hs
  refine (rnew_any t w ht).mono ?_
  rintro e w' ⟨hb, h⟩
  rw [hn, hw] at h
  refine ⟨hb, ?_⟩
  rcases h with ⟨h1, _⟩ | ⟨_, Q, nv, sv, vs, h1, h2⟩
  · exact absurd rfl h1
  · exact ⟨Q, h1, _, nv, sv, vs, h2⟩
set_option maxHeartbeats 1000000 in
set_option maxRecDepth 100000 in
theorem named14 (U : List (List UInt8)) (A : List Tr) (Q : Nat) (r : Int) (w : World) (h : Bk U A Q w) (hC : Cov 0 A 1114112) (hc : ∀ g ∈ A, g.2.2 < U.length) (hn : U.length ≤ 1000) (hl : A.length ≤ 10000000) (b : List UInt8) (hb : U[gtp (instd r) A]? = some b) :
    Calls Tryd.prog 29 #[.pointer (some ⟨Q, 0, none⟩), .int .i32 r] w fun e w' => e = .returned (.string ⟨b.toArray⟩) ∧ Below w.heap.size w w' := by
  have HG := hid (fun w0 : World => fun (h0 : Bk U A Q w0) => show Calls Tryd.prog 38 #[.pointer (some ⟨Q, 0, none⟩), .int .i32 r] w0 fun e w' => e = .returned (.int .i64 (gtp (instd r) A : Nat)) ∧ w' = w0 by
    obtain ⟨B, nv, sv, vs, h1⟩ := h0
    exact rget_any B Q U.length U A nv sv vs r w0 h1 hC hc hn hl)
  obtain ⟨k, hk⟩ : ∃ k, k = gtp (instd r) A := ⟨_, rfl⟩
  rw [← hk] at HG hb
  clear hk hC hc hl
  have HK := hid h
  obtain ⟨a, ac, z0, z1⟩ := h.names k b hb
  have kl : k < U.length := (List.getElem?_eq_some_iff.1 hb).1
  obtain ⟨N, hN⟩ : ∃ N, N = U.length := ⟨_, rfl⟩
  rw [← hN] at z0 kl hn
  clear hN hb h
  have k1 : (k : Int) < (N : Int) := by omega
  have k0 : (0 : Int) ≤ (k : Int) := by omega
  go_enter Tryd.func29, Tryd.ntmps29
  go_wp2_with fail
  refine wp_region_mix [(0, true), (1, true), (2, true), (3, true), (4, true), (5, true), (6, false), (7, true), (8, true), (9, true)] (fun w' => w'.cell? ⟨Q, 0, none⟩ = some (.slice (some a) N ac) ∧ w'.cell? (a.add k) = some (.string ⟨b.toArray⟩)) (fun _ => false) (by kernel_rfl) (by kernel_rfl) (fun j hj => by cases hj) rfl (by kernel_rfl) ⟨z0, z1⟩ ?_
  iterate 6 (refine mix_free ?_ rfl (by kernel_rfl) (fun w' hS => ?_) ?_; (rotate_left; (obtain ⟨y0, y1⟩ := hS; go_simp; with_reducible rfl); rotate_left))
  refine mix_go rfl (by kernel_rfl) fun KK hKK => ?_
  go_simp
  refine (HG.out w.drew (HK.out.below (bdrew w))).mono ?_
  rintro e w1 ⟨rfl, hw1⟩
  subst hw1
  refine hKK _ _ (fun _ => ⟨z0, z1⟩) ?_
  clear hKK KK
  iterate 3 (refine mix_free ?_ rfl (by kernel_rfl) (fun w' hS => ?_) ?_; (rotate_left; (obtain ⟨y0, y1⟩ := hS; go_simp; with_reducible rfl); rotate_left))
  refine mix_end (NoPanic.normal ?_)
  go_simp
  go_wp2
  go_ret
  exact ⟨rfl, bdrew w⟩
set_option maxHeartbeats 1000000 in
set_option maxRecDepth 100000 in
theorem named12 (U : List (List UInt8)) (A : List Tr) (Q : Nat) (r : Int) (w : World) (h : Bk U A Q w) (hC : Cov 0 A 1114112) (hc : ∀ g ∈ A, g.2.2 < U.length) (hn : U.length ≤ 1000) (hl : A.length ≤ 10000000) (b : List UInt8) (hb : U[gtp (instd r) A]? = some b) :
    Calls Tryd.prog 16 #[.pointer (some ⟨Q, 0, none⟩), .int .i32 r] w fun e w' => e = .returned (.string ⟨b.toArray⟩) ∧ Below w.heap.size w w' := by
  have HG := hid (fun w0 : World => fun (h0 : Bk U A Q w0) => show Calls Tryd.prog 38 #[.pointer (some ⟨Q, 0, none⟩), .int .i32 r] w0 fun e w' => e = .returned (.int .i64 (gtp (instd r) A : Nat)) ∧ w' = w0 by
    obtain ⟨B, nv, sv, vs, h1⟩ := h0
    exact rget_any B Q U.length U A nv sv vs r w0 h1 hC hc hn hl)
  obtain ⟨k, hk⟩ : ∃ k, k = gtp (instd r) A := ⟨_, rfl⟩
  rw [← hk] at HG hb
  clear hk hC hc hl
  have HK := hid h
  obtain ⟨a, ac, z0, z1⟩ := h.names k b hb
  have kl : k < U.length := (List.getElem?_eq_some_iff.1 hb).1
  obtain ⟨N, hN⟩ : ∃ N, N = U.length := ⟨_, rfl⟩
  rw [← hN] at z0 kl hn
  clear hN hb h
  have k1 : (k : Int) < (N : Int) := by omega
  have k0 : (0 : Int) ≤ (k : Int) := by omega
  go_enter Tryd.func16, Tryd.ntmps16
  go_wp2_with fail
  refine wp_region_mix [(0, true), (1, true), (2, true), (3, true), (4, true), (5, true), (6, false), (7, true), (8, true), (9, true)] (fun w' => w'.cell? ⟨Q, 0, none⟩ = some (.slice (some a) N ac) ∧ w'.cell? (a.add k) = some (.string ⟨b.toArray⟩)) (fun _ => false) (by kernel_rfl) (by kernel_rfl) (fun j hj => by cases hj) rfl (by kernel_rfl) ⟨z0, z1⟩ ?_
  iterate 6 (refine mix_free ?_ rfl (by kernel_rfl) (fun w' hS => ?_) ?_; (rotate_left; (obtain ⟨y0, y1⟩ := hS; go_simp; with_reducible rfl); rotate_left))
  refine mix_go rfl (by kernel_rfl) fun KK hKK => ?_
  go_simp
  refine (HG.out w.drew (HK.out.below (bdrew w))).mono ?_
  rintro e w1 ⟨rfl, hw1⟩
  subst hw1
  refine hKK _ _ (fun _ => ⟨z0, z1⟩) ?_
  clear hKK KK
  iterate 3 (refine mix_free ?_ rfl (by kernel_rfl) (fun w' hS => ?_) ?_; (rotate_left; (obtain ⟨y0, y1⟩ := hS; go_simp; with_reducible rfl); rotate_left))
  refine mix_end (NoPanic.normal ?_)
  go_simp
  go_wp2
  go_ret
  exact ⟨rfl, bdrew w⟩
/-- The names of the classes of lines. -/
def lnN (c : Int) : List UInt8 := lnU.getD c.toNat []
set_option maxRecDepth 100000 in
theorem lnP_len : lnP.length ≤ 12000 := by decide +kernel
theorem named_ln (Q : Nat) (r : Nat) (w : World) (h : Bk lnU lnW Q w) (hr : r ≤ 1114111) :
    Calls Tryd.prog 29 #[.pointer (some ⟨Q, 0, none⟩), .int .i32 (r : Int)] w fun e w' => e = .returned (.string ⟨(lnN (lncls (r : Int))).toArray⟩) ∧ Below w.heap.size w w' := by
  have e1 : instd (r : Int) = (r : Int) := by unfold instd; rw [if_neg (by omega)]
  have e2 := ln_get (r : Int) (by omega) (by omega)
  have e3 : gtp (instd (r : Int)) lnW < lnU.length := by
    obtain ⟨i1, i2⟩ := instd_in (r : Int)
    exact gtp_lt lnW _ ln_cov ln_cls _ i1 i2
  refine named14 lnU lnW Q r w h ln_cov ln_cls (by decide) (by decide +kernel) _ ?_
  rw [e1] at e3 ⊢
  unfold lnN
  rw [e2, Int.toNat_natCast, List.getD_eq_getElem?_getD, List.getElem?_eq_getElem e3]
  rfl
set_option maxRecDepth 100000 in
theorem db14 (w : World) : Calls Tryd.prog 28 #[] w fun e w' => Below w.heap.size w w' ∧ ∃ Q, e = .returned (.pointer (some ⟨Q, 0, none⟩)) ∧ Bk lnU lnW Q w' := by
  go_enter Tryd.func28, Tryd.ntmps28
  go_wp2_with fail
  refine (rnew_eq _ lnP w (by kernel_rfl) (.inl lnP_len) lnU lnS lnW ln_nw ln_whl).mono ?_
  rintro e w1 ⟨hb, Q, rfl, hk⟩
  have HB := hid hb
  have HK := hid hk
  clear hb hk
  go_wp2
  go_ret
  exact ⟨HB.out, Q, rfl, HK.out⟩
end Go.Proofs.YtkophiklkgefnaaDoor.Dc
