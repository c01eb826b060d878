/- The contract of own (the laws'): an automaton, copied. -/
import Derived.Test.YtkmcbhdjecpmjaaDoorCopy7
namespace Go.Proofs.YtkmcbhdjecpmjaaDoor
open Go.RowKit

/-- What own leaves. -/
def OwnQ (w : World) (c : Int) (n m : Nat) (R : Rw) (T : List Int) (e : Ending) (w' : World) : Prop :=
  ∃ (no to : Option Addr) (nc tc : Nat), e = .returned (.agg #[.int .i64 c, .slice no n nc, .slice to m tc]) ∧ DRd w' no n to m R T ∧ Below w.heap.size w w'
/-- What holds while the rows are copied. -/
structure OwnI (p B : Nat) (W1 : World) (c : Int) (m : Nat) (tv : Value) (R : Rw) (k : Nat) (lo : Option Addr) (lc : Nat) (V : List Value) (wr : World) : Prop where
  at_ : wr.heap[p]? = some (.cells #[.int .i64 c, .slice lo k lc, tv] 32)
  own : wr.ownsRow B 28 1 (.slice lo k lc) k V
  cp : CpR wr (fun b => b < B ∨ (Value.slice lo k lc).ownBlock = some b) R k V
  but : But1 p B W1 wr
theorem own_drew {w : World} {B e size n : Nat} {v : Value} {xs : List Value} (h : w.ownsRow B e size v n xs) : w.drew.ownsRow B e size v n xs := h.drew
theorem one_news (w : World) (v : Value) (T : TypeId) : ∀ j u, [v][j]? = some u → (w.alloc (.cells #[v] T)).drew.cell? ((⟨w.heap.size, 0, none⟩ : Addr).add j) = some u := fun j u hj => news_one w v T j u hj
set_option maxHeartbeats 8000000 in
set_option maxRecDepth 100000 in
theorem own_any (c : Int) (no to : Option Addr) (n nc m tc : Nat) (R : Rw) (T : List Int) (w : World) (hd : DRd w no n to m R T) (hn : n ≤ 60) (hm : m ≤ 1500) (hr : ∀ row ∈ R, row.length ≤ 1500) :
    Calls Tryd.prog 20 #[.agg #[.int .i64 c, .slice no n nc, .slice to m tc]] w fun e w' => OwnQ w c n m R T e w' := by
  obtain ⟨i28, hi28, hs0, hs1, hs2⟩ := info_parts Tryd.info28
  have HD := hid hd
  have HR := hid hr
  have HB0 := hid (two_same (w := w) (A := #[.int .i64 c, .slice no n nc, .slice to m tc]) (B := #[.int .i64 0, .slice none 0 0, .slice none 0 0]))
  clear hd hr
  go_enter Tryd.func20, Tryd.ntmps20
  go_wp2_with fail
  obtain ⟨u, hu⟩ : ∃ u, u = (w.alloc (.cells #[.int .i64 c, .slice no n nc, .slice to m tc] 32)).alloc (.cells #[.int .i64 0, .slice none 0 0, .slice none 0 0] 32) := ⟨_, rfl⟩
  rw [← hu]
  have HU := hid hu
  have hus : u.heap.size = w.heap.size + 2 := by rw [hu]; simp
  have c0 : u.cell? ⟨w.heap.size, 0, none⟩ = some (.int .i64 c) := by rw [hu]; exact (two_box HB0.out).1 0
  have c2 : u.cell? ⟨w.heap.size, 2, none⟩ = some (.slice to m tc) := by rw [hu]; exact (two_box HB0.out).1 2
  have HT := hid (show ∀ W, Below (w.heap.size + 2) u W → RdI W to T from fun W h => (HD.out.two (by rw [← HU.out]; exact h)).take)
  have HTL := hid HD.out.hm
  have HUS := hid hus
  have HC := hid (show ∀ W, Below (w.heap.size + 2) u W → W.cell? ⟨w.heap.size, 0, none⟩ = some (.int .i64 c) ∧ W.cell? ⟨w.heap.size, 2, none⟩ = some (.slice to m tc) from fun W h => ⟨cell_bl (by rw [hus]; exact h) c0, cell_bl (by rw [hus]; exact h) c2⟩)
  clear hu hus c0 c2
  refine wp_mid (fun a' W => ∃ (H p g gc : Nat), Own1 (w.heap.size + 2) u c m T W p g gc ∧ a' = (fun H p g gc => { tmps := #[.agg #[.int .i64 c, .slice no n nc, .slice to m tc], .pointer (some ⟨w.heap.size, 0, none⟩), .pointer (some ⟨w.heap.size + 1, 0, none⟩), .pointer (some ⟨p, 0, none⟩), undef, .pointer (some ⟨w.heap.size, 0, none⟩), .int .i64 c, .slice (some ⟨H, 0, none⟩) 0 0, .pointer (some ⟨w.heap.size, 2, none⟩), .slice to m tc, .slice (some ⟨g, 0, none⟩) m gc, .agg #[.int .i64 c, .slice none 0 0, .slice (some ⟨g, 0, none⟩) m gc], undef, undef, undef, undef, undef, undef, undef, undef, undef, undef, undef, undef, undef, undef, undef, undef, undef, undef, undef, undef], defers := [] } : Nat → Nat → Nat → Nat → Act) H p g gc) ?m1 ?m2
  case m1 =>
    obtain ⟨v, hv⟩ : ∃ v, v = u.drew := ⟨_, rfl⟩
    have HV := hid (show Below (w.heap.size + 2) u v by rw [hv]; exact (Below.refl _ _).drew)
    have HVS := hid (show v.heap.size = w.heap.size + 2 by rw [hv]; exact HUS.out)
    refine wp_region_mixT (.one 0 1 (.one 1 1 (.one 3 1 (.one 4 1 (.two 2 7 (.two 5 7 (.one 6 1 (.one 7 2 (.one 8 2 .nil))) (.one 5 2 (.one 6 1 (.one 8 2 .nil)))) (.one 2 2 (.one 5 2 (.one 6 1 (.one 8 2 .nil))))))))) (fun _ => True) (fun w' => w'.cell? ⟨w.heap.size, 0, none⟩ = some (.int .i64 c) ∧ w'.cell? ⟨w.heap.size, 2, none⟩ = some (.slice to m tc)) (fun _ => false) (by kernel_rfl) (by kernel_rfl) (fun j hj => by cases hj) rfl (by kernel_rfl) trivial (HC.out _ (Below.refl _ _).drew) ?_
    rw [← hv]
    clear hv
    have HBv := HV
    have HSv := hid (show w.heap.size + 2 ≤ v.heap.size from Nat.le_of_eq HVS.out.symm)
    iterate 4 (refine mixT_t ?_ rfl (by kernel_rfl) (fun w' hS => ?_) ?_; (rotate_left; (obtain ⟨s1, s2⟩ := hS; go_simp; with_reducible rfl); rotate_left))
    refine mixT_two ?x2 ?x7
    case x2 =>
      refine hand_go rfl (by kernel_rfl) fun KK hKK => ?_
      go_simp
      have HB1 := hid (HBv.out.alloc HSv.out (.cells #[] 3))
      refine hKK _ _ (fun _ => trivial) (HC.out _ HB1.out) ?_
      clear hKK KK
      obtain ⟨v1, hv1⟩ : ∃ W, W = v.alloc (.cells #[] 3) := ⟨_, rfl⟩
      rw [← hv1] at HB1
      rw [← hv1]
      have HS1 := hid (show w.heap.size + 2 ≤ v1.heap.size by rw [hv1]; have := HSv.out; simp; omega)
      have HZ1 := hid (show v1.heap.size = v.heap.size + 1 by rw [hv1]; simp)
      have HA1 := hid (show v1.heap[v.heap.size]? = some (.cells #[] 3) by rw [hv1]; exact al_new _ _ rfl)
      have HK1 := hid (show ∀ b, b < v.heap.size → v1.heap[b]? = v.heap[b]? from fun b hb => by rw [hv1]; exact al_old _ _ hb)
      have HO1 := hid (show v1.ownsRow v.heap.size 3 1 (.slice (some ⟨v.heap.size, 0, none⟩) 0 0) 0 [] by rw [hv1]; exact World.ownsRow_lit v #[] 0 (Nat.le_refl _) (by decide) (by simp))
      clear hv1
      refine mixT_two ?x5 ?x57
      case x5 =>
        have HH := hid (show v.heap.size ≤ v1.heap.size by have := HZ1.out; omega)
        have HHL := hid (show w.heap.size + 2 ≤ v.heap.size from HSv.out)
        refine hand_go rfl (by kernel_rfl) fun KK hKK => ?_
        refine wp_copy _ _ rfl v.heap.size v.heap.size rfl HO1.out to m tc T rfl (HT.out _ HB1.out) HTL.out (by omega) HH.out ?_
        intro g gc v2 o2 gr2 hg2 hlt2
        have HB2 := hid (show Below (w.heap.size + 2) u v2 from HB1.out.trans ⟨gr2.os, gr2.tape, gr2.output, gr2.size, fun k hk => gr2.block k (by have := HS1.out; omega) (fun e => by have e' := Option.some.inj e; have := HHL.out; omega)⟩)
        have HS2 := hid (show w.heap.size + 2 ≤ v2.heap.size from Nat.le_trans HS1.out gr2.size)
        have HR2 := hid o2
        have HG2 := hid gr2
        have HL2 := hid hlt2
        have HGG2 := hid hg2
        refine hKK _ _ (fun _ => trivial) (HC.out _ HB2.out) ?_
        clear hKK KK o2 gr2 hg2 hlt2
        refine mixT_t ?_ rfl (by kernel_rfl) (fun w' hS => ?_) ?_; (rotate_left; (go_simp; with_reducible rfl); rotate_left)
        refine mixT_go rfl (by kernel_rfl) fun KK hKK => ?_
        go_simp
        have HB3 := hid (HB2.out.alloc HS2.out (.cells #[.int .i64 0, .slice none 0 0, .slice none 0 0] 32))
        refine hKK _ _ (fun _ => trivial) (HC.out _ HB3.out) ?_
        clear hKK KK
        obtain ⟨v3, hv3⟩ : ∃ W, W = v2.alloc (.cells #[.int .i64 0, .slice none 0 0, .slice none 0 0] 32) := ⟨_, rfl⟩
        rw [← hv3] at HB3
        rw [← hv3]
        have HS3 := hid (show w.heap.size + 2 ≤ v3.heap.size by rw [hv3]; have := HS2.out; simp; omega)
        have HZ3 := hid (show v3.heap.size = v2.heap.size + 1 by rw [hv3]; simp)
        have HA3 := hid (show v3.heap[v2.heap.size]? = some (.cells #[.int .i64 0, .slice none 0 0, .slice none 0 0] 32) by rw [hv3]; exact al_new _ _ rfl)
        have HK3 := hid (show ∀ b, b < v2.heap.size → v3.heap[b]? = v2.heap[b]? from fun b hb => by rw [hv3]; exact al_old _ _ hb)
        have HP := hid HA3.out
        have HPP := hid HS2.out
        clear hv3
        obtain ⟨p, hp⟩ : ∃ p, p = v2.heap.size := ⟨_, rfl⟩
        rw [← hp] at HP
        rw [← hp]
        have HPL := hid (show w.heap.size + 2 ≤ p by rw [hp]; exact HPP.out)
        have HGP := hid (show g ≠ p by rw [hp]; have := HL2.out; omega)
        have HOW := hid (show v3.ownsRow v.heap.size 3 1 (.slice (some ⟨g, 0, none⟩) m gc) m (i64s T) from own_same HR2.out (fun b _ hb => HK3.out b hb))
        clear hp
        have x0 : v3.cell? ⟨p, 0, none⟩ = some (.int .i64 0) := by rw [cell_of_row v3 p 0 _ 32 (0, 0) HP.out]; rfl
        have x1 : v3.cell? ⟨p, 1, none⟩ = some (.slice none 0 0) := by rw [cell_of_row v3 p 1 _ 32 (0, 0) HP.out]; rfl
        have x2 : v3.cell? ⟨p, 2, none⟩ = some (.slice none 0 0) := by rw [cell_of_row v3 p 2 _ 32 (0, 0) HP.out]; rfl
        have z0 := frozen_of_row v3 p 0 _ 32 HP.out
        have z1 := frozen_of_row v3 p 1 _ 32 HP.out
        have z2 := frozen_of_row v3 p 2 _ 32 HP.out
        refine mixT_go rfl (by kernel_rfl) fun KK hKK => ?_
        go_simp
        refine hKK _ _ (fun _ => trivial) (HC.out _ (st3_below (W := v3) (p := p) (v0 := .int .i64 c) (v1 := .slice none 0 0) (v2 := .slice (some ⟨g, 0, none⟩) m gc) HB3.out HPL.out)) ?_
        clear hKK KK
        refine mixT_end (NoPanic.normal ?_)
        exact ⟨rfl, _, _, _, _, own1_of HP.out HB3.out HPL.out HOW.out HGP.out HHL.out, rfl⟩
      case x57 =>
        refine hand_go rfl (by kernel_rfl) fun KK hKK => ?_
        go_simp
        have HB2 := hid (HB1.out.alloc HS1.out (.cells #[.int .i64 0, .slice none 0 0, .slice none 0 0] 32))
        refine hKK _ _ (fun _ => trivial) (HC.out _ HB2.out) ?_
        clear hKK KK
        obtain ⟨v2, hv2⟩ : ∃ W, W = v1.alloc (.cells #[.int .i64 0, .slice none 0 0, .slice none 0 0] 32) := ⟨_, rfl⟩
        rw [← hv2] at HB2
        rw [← hv2]
        have HS2 := hid (show w.heap.size + 2 ≤ v2.heap.size by rw [hv2]; have := HS1.out; simp; omega)
        have HZ2 := hid (show v2.heap.size = v1.heap.size + 1 by rw [hv2]; simp)
        have HA2 := hid (show v2.heap[v1.heap.size]? = some (.cells #[.int .i64 0, .slice none 0 0, .slice none 0 0] 32) by rw [hv2]; exact al_new _ _ rfl)
        have HK2 := hid (show ∀ b, b < v1.heap.size → v2.heap[b]? = v1.heap[b]? from fun b hb => by rw [hv2]; exact al_old _ _ hb)
        have HO2 := hid (own_same HO1.out (fun b _ hb => HK2.out b hb))
        have HH := hid (show v.heap.size ≤ v2.heap.size by have := HZ1.out; have := HZ2.out; omega)
        have HHL := hid (show w.heap.size + 2 ≤ v.heap.size from HSv.out)
        clear hv2
        refine mixT_go rfl (by kernel_rfl) fun KK hKK => ?_
        refine wp_copy _ _ rfl v.heap.size v.heap.size rfl HO2.out to m tc T rfl (HT.out _ HB2.out) HTL.out (by omega) HH.out ?_
        intro g gc v3 o3 gr3 hg3 hlt3
        have HB3 := hid (show Below (w.heap.size + 2) u v3 from HB2.out.trans ⟨gr3.os, gr3.tape, gr3.output, gr3.size, fun k hk => gr3.block k (by have := HS2.out; omega) (fun e => by have e' := Option.some.inj e; have := HHL.out; omega)⟩)
        have HS3 := hid (show w.heap.size + 2 ≤ v3.heap.size from Nat.le_trans HS2.out gr3.size)
        have HR3 := hid o3
        have HG3 := hid gr3
        have HL3 := hid hlt3
        have HGG3 := hid hg3
        refine hKK _ _ (fun _ => trivial) (HC.out _ HB3.out) ?_
        clear hKK KK o3 gr3 hg3 hlt3
        refine mixT_t ?_ rfl (by kernel_rfl) (fun w' hS => ?_) ?_; (rotate_left; (go_simp; with_reducible rfl); rotate_left)
        have HP := hid (show v3.heap[v1.heap.size]? = _ from (HG3.out.block v1.heap.size (by have := HZ2.out; omega) (fun e => by have e' := Option.some.inj e; have := HZ1.out; omega)).trans HA2.out)
        have HPP := hid HS1.out
        obtain ⟨p, hp⟩ : ∃ p, p = v1.heap.size := ⟨_, rfl⟩
        rw [← hp] at HP
        rw [← hp]
        have HPL := hid (show w.heap.size + 2 ≤ p by rw [hp]; exact HPP.out)
        have HGP := hid (show g ≠ p by rw [hp]; have h1 := HGG3.out; have h2 := HZ1.out; have h3 := HZ2.out; omega)
        have HOW := hid (show v3.ownsRow v.heap.size 3 1 (.slice (some ⟨g, 0, none⟩) m gc) m (i64s T) from HR3.out)
        clear hp
        have x0 : v3.cell? ⟨p, 0, none⟩ = some (.int .i64 0) := by rw [cell_of_row v3 p 0 _ 32 (0, 0) HP.out]; rfl
        have x1 : v3.cell? ⟨p, 1, none⟩ = some (.slice none 0 0) := by rw [cell_of_row v3 p 1 _ 32 (0, 0) HP.out]; rfl
        have x2 : v3.cell? ⟨p, 2, none⟩ = some (.slice none 0 0) := by rw [cell_of_row v3 p 2 _ 32 (0, 0) HP.out]; rfl
        have z0 := frozen_of_row v3 p 0 _ 32 HP.out
        have z1 := frozen_of_row v3 p 1 _ 32 HP.out
        have z2 := frozen_of_row v3 p 2 _ 32 HP.out
        refine mixT_go rfl (by kernel_rfl) fun KK hKK => ?_
        go_simp
        refine hKK _ _ (fun _ => trivial) (HC.out _ (st3_below (W := v3) (p := p) (v0 := .int .i64 c) (v1 := .slice none 0 0) (v2 := .slice (some ⟨g, 0, none⟩) m gc) HB3.out HPL.out)) ?_
        clear hKK KK
        refine mixT_end (NoPanic.normal ?_)
        exact ⟨rfl, _, _, _, _, own1_of HP.out HB3.out HPL.out HOW.out HGP.out HHL.out, rfl⟩
    case x7 =>
      refine hand_go rfl (by kernel_rfl) fun KK hKK => ?_
      go_simp
      have HB1 := hid (HBv.out.alloc HSv.out (.cells #[.int .i64 0, .slice none 0 0, .slice none 0 0] 32))
      refine hKK _ _ (fun _ => trivial) (HC.out _ HB1.out) ?_
      clear hKK KK
      obtain ⟨v1, hv1⟩ : ∃ W, W = v.alloc (.cells #[.int .i64 0, .slice none 0 0, .slice none 0 0] 32) := ⟨_, rfl⟩
      rw [← hv1] at HB1
      rw [← hv1]
      have HS1 := hid (show w.heap.size + 2 ≤ v1.heap.size by rw [hv1]; have := HSv.out; simp; omega)
      have HZ1 := hid (show v1.heap.size = v.heap.size + 1 by rw [hv1]; simp)
      have HA1 := hid (show v1.heap[v.heap.size]? = some (.cells #[.int .i64 0, .slice none 0 0, .slice none 0 0] 32) by rw [hv1]; exact al_new _ _ rfl)
      have HK1 := hid (show ∀ b, b < v.heap.size → v1.heap[b]? = v.heap[b]? from fun b hb => by rw [hv1]; exact al_old _ _ hb)
      clear hv1
      refine mixT_go rfl (by kernel_rfl) fun KK hKK => ?_
      go_simp
      have HB2 := hid (HB1.out.alloc HS1.out (.cells #[] 3))
      refine hKK _ _ (fun _ => trivial) (HC.out _ HB2.out) ?_
      clear hKK KK
      obtain ⟨v2, hv2⟩ : ∃ W, W = v1.alloc (.cells #[] 3) := ⟨_, rfl⟩
      rw [← hv2] at HB2
      rw [← hv2]
      have HS2 := hid (show w.heap.size + 2 ≤ v2.heap.size by rw [hv2]; have := HS1.out; simp; omega)
      have HZ2 := hid (show v2.heap.size = v1.heap.size + 1 by rw [hv2]; simp)
      have HA2 := hid (show v2.heap[v1.heap.size]? = some (.cells #[] 3) by rw [hv2]; exact al_new _ _ rfl)
      have HK2 := hid (show ∀ b, b < v1.heap.size → v2.heap[b]? = v1.heap[b]? from fun b hb => by rw [hv2]; exact al_old _ _ hb)
      have HO2 := hid (show v2.ownsRow v1.heap.size 3 1 (.slice (some ⟨v1.heap.size, 0, none⟩) 0 0) 0 [] by rw [hv2]; exact World.ownsRow_lit v1 #[] 0 (Nat.le_refl _) (by decide) (by simp))
      clear hv2
      have HH := hid (show v1.heap.size ≤ v2.heap.size by have := HZ2.out; omega)
      have HHL := hid (show w.heap.size + 2 ≤ v1.heap.size from HS1.out)
      refine mixT_go rfl (by kernel_rfl) fun KK hKK => ?_
      refine wp_copy _ _ rfl v1.heap.size v1.heap.size rfl HO2.out to m tc T rfl (HT.out _ HB2.out) HTL.out (by omega) HH.out ?_
      intro g gc v3 o3 gr3 hg3 hlt3
      have HB3 := hid (show Below (w.heap.size + 2) u v3 from HB2.out.trans ⟨gr3.os, gr3.tape, gr3.output, gr3.size, fun k hk => gr3.block k (by have := HS2.out; omega) (fun e => by have e' := Option.some.inj e; have := HHL.out; omega)⟩)
      have HS3 := hid (show w.heap.size + 2 ≤ v3.heap.size from Nat.le_trans HS2.out gr3.size)
      have HR3 := hid o3
      have HG3 := hid gr3
      have HL3 := hid hlt3
      have HGG3 := hid hg3
      refine hKK _ _ (fun _ => trivial) (HC.out _ HB3.out) ?_
      clear hKK KK o3 gr3 hg3 hlt3
      refine mixT_t ?_ rfl (by kernel_rfl) (fun w' hS => ?_) ?_; (rotate_left; (go_simp; with_reducible rfl); rotate_left)
      have HP := hid (show v3.heap[v.heap.size]? = _ from (HG3.out.block v.heap.size (by have := HZ1.out; have := HZ2.out; omega) (fun e => by have e' := Option.some.inj e; have := HZ1.out; omega)).trans ((HK2.out v.heap.size (by have := HZ1.out; omega)).trans HA1.out))
      have HPP := hid HSv.out
      obtain ⟨p, hp⟩ : ∃ p, p = v.heap.size := ⟨_, rfl⟩
      rw [← hp] at HP
      rw [← hp]
      have HPL := hid (show w.heap.size + 2 ≤ p by rw [hp]; exact HPP.out)
      have HGP := hid (show g ≠ p by rw [hp]; have h1 := HGG3.out; have h2 := HZ1.out; have h3 := HZ2.out; omega)
      have HOW := hid (show v3.ownsRow v1.heap.size 3 1 (.slice (some ⟨g, 0, none⟩) m gc) m (i64s T) from HR3.out)
      clear hp
      have x0 : v3.cell? ⟨p, 0, none⟩ = some (.int .i64 0) := by rw [cell_of_row v3 p 0 _ 32 (0, 0) HP.out]; rfl
      have x1 : v3.cell? ⟨p, 1, none⟩ = some (.slice none 0 0) := by rw [cell_of_row v3 p 1 _ 32 (0, 0) HP.out]; rfl
      have x2 : v3.cell? ⟨p, 2, none⟩ = some (.slice none 0 0) := by rw [cell_of_row v3 p 2 _ 32 (0, 0) HP.out]; rfl
      have z0 := frozen_of_row v3 p 0 _ 32 HP.out
      have z1 := frozen_of_row v3 p 1 _ 32 HP.out
      have z2 := frozen_of_row v3 p 2 _ 32 HP.out
      refine mixT_go rfl (by kernel_rfl) fun KK hKK => ?_
      go_simp
      refine hKK _ _ (fun _ => trivial) (HC.out _ (st3_below (W := v3) (p := p) (v0 := .int .i64 c) (v1 := .slice none 0 0) (v2 := .slice (some ⟨g, 0, none⟩) m gc) HB3.out HPL.out)) ?_
      clear hKK KK
      refine mixT_end (NoPanic.normal ?_)
      exact ⟨rfl, _, _, _, _, own1_of HP.out HB3.out HPL.out HOW.out HGP.out HHL.out, rfl⟩
  case m2 =>
    rintro a' W1 ⟨H, p, g, gc, O1, rfl⟩
    obtain ⟨B, hB⟩ : ∃ B, B = W1.heap.size := ⟨_, rfl⟩
    have hpB : p < B := by rw [hB]; exact lt_of O1.at_
    have hPp : w.heap.size + 2 ≤ p := O1.lo
    have HB1 := hid O1.below
    have HRD := hid O1.rd
    have HAT := hid O1.at_
    have HBS := hid hB
    clear O1 hB
    go_wp2
    go_loopw [4] (fun y wr => ∃ (k : Nat) (lo : Option Addr) (lc : Nat) (V : List Value), y = .int .i64 k ∧ k ≤ n ∧ Hid (OwnI p B W1 c m (.slice (some ⟨g, 0, none⟩) m gc) R k lo lc V wr)) (fun y _ => n - (intOf y).toNat)
    case atStart => exact ⟨0, none, 0, [], rfl, Nat.zero_le _, HAT.out, World.ownsRow_nil _ _ _ _, fun j g hj => (by omega), ⟨rfl, rfl, rfl, Nat.le_refl _, fun _ _ _ => rfl⟩⟩
    case round =>
      obtain ⟨k, lo, lc, V, rfl, hk, HI⟩ := hrel
      have HB := hid (show Below (w.heap.size + 2) u wr from HB1.out.trans ⟨HI.out.but.os, HI.out.but.tape, HI.out.but.output, HI.out.but.size, fun b hb => HI.out.but.block b (by omega) (by omega)⟩)
      have c1 : wr.cell? ⟨w.heap.size, 1, none⟩ = some (.slice no n nc) := (two_box (by rw [← HU.out]; exact HB.out)).1 1
      have x0 : wr.cell? ⟨p, 0, none⟩ = some (.int .i64 c) := by rw [cell_of_row wr p 0 _ 32 (0, 0) HI.out.at_]; rfl
      have x1 : wr.cell? ⟨p, 1, none⟩ = some (.slice lo k lc) := by rw [cell_of_row wr p 1 _ 32 (0, 0) HI.out.at_]; rfl
      have x2 : wr.cell? ⟨p, 2, none⟩ = some (.slice (some ⟨g, 0, none⟩) m gc) := by rw [cell_of_row wr p 2 _ 32 (0, 0) HI.out.at_]; rfl
      have hBr : B ≤ wr.heap.size := by rw [HBS.out]; exact HI.out.but.size
      by_cases hlt : k < n
      · have i3 : (k : Int) < (n : Int) := by omega
        have i0 : (0 : Int) ≤ (k : Int) := by omega
        obtain ⟨row, a, co, cc, hr, rfl, ha, a0, hI, _⟩ := (HD.out.two (by rw [← HU.out]; exact HB.out)).row hlt
        have HAB := hid (show a.block < w.heap.size by obtain ⟨_, a', _, _, _, e', ha', _⟩ := HD.out.row hlt; cases e'; exact ha')
        have hrl := HR.out row (List.mem_of_getElem? hr)
        obtain ⟨l, hl⟩ : ∃ l, l = row.length := ⟨_, rfl⟩
        rw [← hl] at a0 hrl
        have HRR := hid hr
        have HRI := hid hI
        have HRL := hid hl
        clear hr hI hl ha x0 x2
        go_wp2_with fail
        refine wp_region_mix [(0, true), (1, true), (3, true), (4, true), (5, true), (6, true), (7, true), (2, false), (8, false), (9, false), (10, false), (11, true), (12, false)] (fun w' => w'.cell? ⟨p, 1, none⟩ = some (.slice lo k lc) ∧ w'.cell? ⟨w.heap.size, 1, none⟩ = some (.slice (some a) n nc) ∧ w'.cell? (a.add k) = some (.slice co l cc)) (fun j => j == 12) (by kernel_rfl) (by kernel_rfl) (fun j hj => by have := beq_iff_eq.1 hj; subst this; decide) rfl (by kernel_rfl) ⟨x1, c1, a0⟩ ?_
        iterate 7 (refine mix_free ?_ rfl (by kernel_rfl) (fun w' hS => ?_) ?_; (rotate_left; (obtain ⟨s1, s2, s3⟩ := hS; go_simp; with_reducible rfl); rotate_left))
        obtain ⟨w4, hw4⟩ : ∃ w4, w4 = wr.drew := ⟨_, rfl⟩
        rw [← hw4]
        have x4 : w4.cell? ⟨p, 1, none⟩ = some (.slice lo k lc) := by rw [hw4]; exact x1
        have y4 : w4.cell? ⟨w.heap.size, 1, none⟩ = some (.slice (some a) n nc) := by rw [hw4]; exact c1
        have z4 : w4.cell? (a.add k) = some (.slice co l cc) := by rw [hw4]; exact a0
        have HI4 := hid (show OwnI p B W1 c m (.slice (some ⟨g, 0, none⟩) m gc) R k lo lc V w4 by rw [hw4]; exact ⟨HI.out.at_, HI.out.own.drew, HI.out.cp, ⟨HI.out.but.os, HI.out.but.tape, HI.out.but.output, HI.out.but.size, HI.out.but.block⟩⟩)
        have HRI4 := hid (show RdI w4 co row by rw [hw4]; exact HRI.out)
        have hB4 : B ≤ w4.heap.size := by rw [hw4]; exact hBr
        clear hw4 x1 c1 a0 HI HRI hBr HB
        refine mix_go rfl (by kernel_rfl) fun KK hKK => ?_
        go_simp
        refine hKK _ _ (fun _ => ⟨cell_al x4, cell_al y4, cell_al z4⟩) ?_
        clear hKK KK
        have HW5 := hid (show (w4.alloc (.cells #[] 3)).ownsRow w4.heap.size 3 1 (.slice (some ⟨w4.heap.size, 0, none⟩) 0 0) 0 [] from World.ownsRow_lit w4 #[] 0 (Nat.le_refl _) (by decide) (by simp))
        have HB5 := hid (show Below w4.heap.size w4 (w4.alloc (.cells #[] 3)) from below_box)
        refine mix_go rfl (by kernel_rfl) fun KK hKK => ?_
        refine wp_copy _ _ rfl w4.heap.size w4.heap.size rfl HW5.out co l cc row rfl (HRI4.out.below HB5.out) HRL.out (by omega) (by simp) ?_
        intro q qc w6 o6 gr6 hq6 hlt6
        have hs6 : w4.heap.size + 1 ≤ w6.heap.size := by have h := gr6.size; simpa using h
        have hq4 : w4.heap.size ≤ q := by
          rcases hq6 with h | h
          · omega
          · simp at h
            omega
        have hblk6 : ∀ b, b < w4.heap.size → w6.heap[b]? = w4.heap[b]? := fun b hb => (gr6.block b (by simp; omega) (fun e => by have := Option.some.inj e; omega)).trans (al_old _ _ hb)
        have hp4 : p < w4.heap.size := by omega
        have hP4 : w.heap.size < w4.heap.size := by omega
        have hA4 : (a.add k).block < w4.heap.size := World.block_lt_of_cell? w4 _ z4
        have x6 : w6.cell? ⟨p, 1, none⟩ = some (.slice lo k lc) := (World.cell?_of_block (hblk6 p hp4)).trans x4
        have y6 : w6.cell? ⟨w.heap.size, 1, none⟩ = some (.slice (some a) n nc) := (World.cell?_of_block (hblk6 w.heap.size hP4)).trans y4
        have z6 : w6.cell? (a.add k) = some (.slice co l cc) := (World.cell?_of_block (hblk6 (a.add k).block hA4)).trans z4
        refine hKK _ _ (fun _ => ⟨x6, y6, z6⟩) ?_
        clear hKK KK
        have HO6 := hid o6
        have HT6 := hid (show w6.os = w4.os ∧ w6.tape = w4.tape ∧ w6.output = w4.output from ⟨gr6.os, gr6.tape, gr6.output⟩)
        have HQ4 := hid hq4
        have HS6 := hid hs6
        have HLT6 := hid hlt6
        have HBK6 := hid hblk6
        have HOG := hid (show ∀ b, (Value.slice lo k lc).ownBlock = some b → b < w4.heap.size from fun b hb => (HI4.out.own.lt b hb).2)
        clear o6 gr6 hq6 hblk6 hq4 hs6 hlt6 HW5 HB5
        refine mix_go rfl (by kernel_rfl) fun KK hKK => ?_
        go_simp
        refine hKK _ _ (fun _ => ⟨cell_al x6, cell_al y6, cell_al z6⟩) ?_
        clear hKK KK
        have HOE6 := hid (show w6.ownsRow B 28 1 (.slice lo k lc) k V from own_same HI4.out.own (fun b _ hb => HBK6.out b hb))
        refine mix_go rfl (by kernel_rfl) fun KK hKK => ?_
        refine wp_append_lies _ _ _ 30 rfl B 28 i28 (.slice none 0 0) 1 24 Tryd.underlying30 hi28 hs0 hs1 hs2 rfl (by decide) (.slice lo k lc) k V rfl (HOE6.out.alloc _) ⟨w6.heap.size, 0, none⟩ 1 1 [.slice (some ⟨q, 0, none⟩) l qc] rfl rfl (news_one w6 _ 28) (fun u hu => by simp at hu; rw [hu]; rfl) (by decide) (by unfold maxLen; omega) (by omega) (by have h2 := HS6.out; simp; omega) (w6.alloc (.cells #[.slice (some ⟨q, 0, none⟩) l qc] 28)).heap.size rfl ?_
        intro g8 c8 w8 o8 gr8 hl8 hlt8
        have hs8 : w6.heap.size + 1 ≤ w8.heap.size := by
          have h : (w6.alloc (.cells #[.slice (some ⟨q, 0, none⟩) l qc] 28)).heap.size ≤ w8.heap.size := gr8.size
          simpa using h
        have hblk8 : ∀ b, b < w6.heap.size → (Value.slice lo k lc).ownBlock ≠ some b → w8.heap[b]? = w6.heap[b]? := fun b hb hne => (gr8.block b (by show b < (w6.alloc _).heap.size; simp; omega) (fun e => hne e.symm)).trans (al_old _ _ hb)
        have hnB : ∀ b, b < B → (Value.slice lo k lc).ownBlock ≠ some b := fun b hb e => by have := (HOE6.out.lt b e).1; omega
        have h46 : w4.heap.size < w6.heap.size := by have h2 := HS6.out; omega
        have hp6 : p < w6.heap.size := by omega
        have hp8 : w8.heap[p]? = some (.cells #[.int .i64 c, .slice lo k lc, .slice (some ⟨g, 0, none⟩) m gc] 32) := (hblk8 p hp6 (hnB p hpB)).trans ((HBK6.out p hp4).trans HI4.out.at_)
        have x8 : w8.cell? ⟨p, 1, none⟩ = some (.slice lo k lc) := by rw [cell_of_row w8 p 1 _ 32 (0, 0) hp8]; rfl
        have fz := frozen_of_row w8 p 1 _ 32 hp8
        have hg8 : B ≤ g8 := (o8.lt g8 rfl).1
        have hq8 : g8 ≠ q := fun e => by
          rcases hl8 with h | h
          · have h1 := HOG.out g8 h; have h2 := HQ4.out; omega
          · have h' : g8 = (w6.alloc (.cells #[.slice (some ⟨q, 0, none⟩) l qc] 28)).heap.size := h
            have h1 := HLT6.out
            simp at h'
            omega
        have hset : ∀ b, b ≠ p → (w8.setCell ⟨p, 1, none⟩ (.slice (some ⟨g8, 0, none⟩) (k + 1) c8)).heap[b]? = w8.heap[b]? := fun b hb => heap_setCell_other w8 ⟨p, 1, none⟩ b _ (fun e => hb e)
        have hss : (w8.setCell ⟨p, 1, none⟩ (.slice (some ⟨g8, 0, none⟩) (k + 1) c8)).heap.size = w8.heap.size := by simp
        have hall : ∀ b, b < w4.heap.size → b ≠ p → (Value.slice lo k lc).ownBlock ≠ some b → (w8.setCell ⟨p, 1, none⟩ (.slice (some ⟨g8, 0, none⟩) (k + 1) c8)).heap[b]? = w4.heap[b]? := fun b hb hne hno => (hset b hne).trans ((hblk8 b (by omega) hno).trans (HBK6.out b hb))
        have HI9 := hid (show OwnI p B W1 c m (.slice (some ⟨g, 0, none⟩) m gc) R (k + 1) (some ⟨g8, 0, none⟩) c8 (V ++ [.slice (some ⟨q, 0, none⟩) l qc]) (w8.setCell ⟨p, 1, none⟩ (.slice (some ⟨g8, 0, none⟩) (k + 1) c8)) from by
          refine ⟨(heap_setCell_same w8 p 1 _ 32 _ hp8).trans rfl, own_same o8 (fun b hb _ => hset b (by have e : g8 = b := Option.some.inj hb; omega)), ?_, ⟨(show w8.os = w6.os from gr8.os).trans (HT6.out.1.trans HI4.out.but.os), (show w8.tape = w6.tape from gr8.tape).trans (HT6.out.2.1.trans HI4.out.but.tape), (show w8.output = w6.output from gr8.output).trans (HT6.out.2.2.trans HI4.out.but.output), by rw [hss]; have h1 := HI4.out.but.size; omega, fun b hb hne => (hall b (by omega) hne (hnB b hb)).trans (HI4.out.but.block b hb hne)⟩⟩
          have hk9 : CpR (w8.setCell ⟨p, 1, none⟩ (.slice (some ⟨g8, 0, none⟩) (k + 1) c8)) (fun b => b < B ∨ (Value.slice (some ⟨g8, 0, none⟩) (k + 1) c8).ownBlock = some b) R k V := HI4.out.cp.keep ⟨by rw [hss]; omega, fun b hb hx => hall b hb (fun e => hx (.inl (by omega))) (fun e => hx (.inr e)), fun b hb hx => by
            rcases hx with h | h
            · exact .inl h
            · have e : g8 = b := Option.some.inj h
              subst e
              rcases hl8 with h | h
              · exact .inr h
              · have h' : g8 = (w6.alloc (.cells #[.slice (some ⟨q, 0, none⟩) l qc] 28)).heap.size := h
                simp at h'
                omega⟩
          have hlen : V.length = k := by have := HI4.out.own.1; omega
          have hcn : l = row.length := HRL.out
          rw [hcn]
          refine hk9.next hlen HRR.out (fun j z hz => ?_)
          obtain ⟨q', e, _, hq', hc⟩ := own_at HO6.out hz
          cases e
          have h1 := HQ4.out
          refine ⟨_, rfl, by show q < _; rw [hss]; omega, ?_, ?_⟩
          · rintro (h | h)
            · have h1 : q < B := h
              omega
            · exact hq8 (Option.some.inj h)
          · rw [Addr.add_lit, Nat.zero_add, World.cell?_of_block (w := w6) (a := ⟨q, j, none⟩) ((hset q (by omega)).trans (hblk8 q hq' (fun e => by have := HOG.out q e; omega)))]
            exact hc)
        have y8 : w8.cell? ⟨w.heap.size, 1, none⟩ = some (.slice (some a) n nc) := (World.cell?_of_block (hblk8 w.heap.size (by omega) (hnB _ (by omega)))).trans y6
        have z8 : w8.cell? (a.add k) = some (.slice co l cc) := (World.cell?_of_block (hblk8 (a.add k).block (by omega) (hnB _ (by have := HAB.out; rw [add_blk]; omega)))).trans z6
        refine hKK _ _ (fun _ => ⟨x8, y8, z8⟩) ?_
        clear hKK KK o8 gr8 hl8 hlt8 hblk8 hset hss hall hq8 hnB
        refine mix_free ?_ rfl (by kernel_rfl) (fun w' hS => ?_) ?_; (rotate_left; (obtain ⟨s1, s2, s3⟩ := hS; go_simp; with_reducible rfl); rotate_left)
        refine mix_go rfl (by kernel_rfl) fun KK hKK => ?_
        go_simp
        refine hKK _ _ (fun h => by cases h) ?_
        clear hKK KK
        refine mix_end (NoPanic.normal ?_)
        go_wp2
        go_roundw
        case rel => exact ⟨k + 1, some ⟨g8, 0, none⟩, c8, _, by go_num, by omega, HI9⟩
        case measure => simp [intOf]; omega
      · have i3 : ¬ (k : Int) < (n : Int) := by omega
        have hkn : k = n := by omega
        subst hkn
        have hr : wr.heap[w.heap.size + 1]? = some (.cells #[.int .i64 0, .slice none 0 0, .slice none 0 0] 32) := by rw [HB.out.block (w.heap.size + 1) (by omega), HU.out, al_new _ _ (by simp)]
        have r0 : wr.cell? ⟨w.heap.size + 1, 0, none⟩ = some (.int .i64 0) := by rw [cell_of_row wr _ 0 _ 32 (0, 0) hr]; rfl
        have r1 : wr.cell? ⟨w.heap.size + 1, 1, none⟩ = some (.slice none 0 0) := by rw [cell_of_row wr _ 1 _ 32 (0, 0) hr]; rfl
        have r2 : wr.cell? ⟨w.heap.size + 1, 2, none⟩ = some (.slice none 0 0) := by rw [cell_of_row wr _ 2 _ 32 (0, 0) hr]; rfl
        have z0 := frozen_of_row wr (w.heap.size + 1) 0 _ 32 hr
        have z1 := frozen_of_row wr (w.heap.size + 1) 1 _ 32 hr
        have z2 := frozen_of_row wr (w.heap.size + 1) 2 _ 32 hr
        have HRW := hid hr
        clear hr
        go_wp2
        (try simp only [Exit.inBlock, Exit.then])
        refine bodyPost_ret (results_cell_row rfl _ _ (w.heap.size + 1) 32 #[.int .i64 c, .slice lo k lc, .slice (some ⟨g, 0, none⟩) m gc] (0, 0) _ rfl (st3_at (v0 := .int .i64 c) (v1 := .slice lo k lc) (v2 := .slice (some ⟨g, 0, none⟩) m gc) HRW.out) Tryd.underlying32 rfl (by kernel_rfl)) rfl ?_
        have hfin : Below w.heap.size w (st3 wr (w.heap.size + 1) (.int .i64 c) (.slice lo k lc) (.slice (some ⟨g, 0, none⟩) m gc)) := st3_below (two_low (by rw [← HU.out]; exact HB.out)) (by omega)
        have hkp : ∀ (X : Nat → Prop), (∀ b, b = w.heap.size + 1 → X b) → Kp wr (st3 wr (w.heap.size + 1) (.int .i64 c) (.slice lo k lc) (.slice (some ⟨g, 0, none⟩) m gc)) X X := fun X hX => ⟨by rw [st3_size]; exact Nat.le_refl _, fun b _ hx => st3_other (fun e => hx (hX b e)), fun _ _ h => h⟩
        have hT1 : RdIx wr (fun b => b = p ∨ b < w.heap.size + 2) (some ⟨g, 0, none⟩) T := HRD.out.keep ⟨HI.out.but.size, fun b hb hx => HI.out.but.block b (by have := HBS.out; omega) (fun e => hx (.inl e)), fun _ _ h => h⟩
        refine ⟨lo, some ⟨g, 0, none⟩, lc, gc, rfl, ⟨HD.out.hn, HD.out.hm, ?_, ?_, HD.out.nl, HD.out.ml⟩, hfin⟩
        · exact rdr_of (own_same HI.out.own (fun b hb _ => st3_other (by have := (HI.out.own.lt b hb).1; omega))) (HI.out.cp.keep (hkp _ (fun b e => .inl (by omega)))) HD.out.hn (fun row hr => by have := HR.out row hr; unfold most; omega)
        · exact (hT1.keep (hkp _ (fun b e => .inr (by omega)))).rd
end Go.Proofs.YtkmcbhdjecpmjaaDoor
