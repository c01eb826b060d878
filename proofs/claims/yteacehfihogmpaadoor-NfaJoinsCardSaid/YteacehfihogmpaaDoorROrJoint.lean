/- The contract of moved (the document's): states copied, and their numbers moved. -/
import Derived.Test.YteacehfihogmpaaDoorOwn2Joint
namespace Go.Proofs.YteacehfihogmpaaDoor
open Go.RowKit

/-- Two automata that lie apart, the second one's states laid behind the first one's. -/
theorem Gro.join {w0 w w' : World} {B B2 n n2 : Nat} {V V2 V' : Value} {M M2 : List St} {R R2 : List Value} (h : Gro w0 B V n M R) (h2 : Gro w B2 V2 n2 M2 R2) (hB0 : B ≤ B2) (hw0 : w0.heap.size ≤ B2) (hkeep : ∀ k, B ≤ k → k < w0.heap.size → w.heap[k]? = w0.heap[k]?) (h0s : w0.heap.size ≤ w.heap.size) (hs : w.heap.size ≤ w'.heap.size) (hk : ∀ k, B ≤ k → k < w.heap.size → V.ownBlock ≠ some k → w'.heap[k]? = w.heap[k]?) (hrow : w'.ownsRow B 86 2 V' (n + n2) (R ++ R2)) (hv : ∀ b, V'.ownBlock = some b → V.ownBlock = some b ∨ w.heap.size ≤ b) : Gro w' B V' (n + n2) (M ++ M2) (R ++ R2) := by
  have hlt := h.lts
  have hlt2 := h2.lts
  have hR : R.length = n * 2 := h.row.1
  have hM := h.len
  have hkp1 : Kp w0 w' (Grw B V R) (Grw B V' (R ++ R2)) := ⟨by omega, fun k hk' hx => by
    have hBk : B ≤ k := Nat.le_of_not_lt fun e => hx (.inl e)
    exact (hk k hBk (by omega) (fun e => hx (.inr (.inl e)))).trans (hkeep k hBk hk'), fun b hb hx => by
    rcases hx with hx | hx | ⟨x, hx, e⟩
    · exact .inl hx
    · rcases hv b hx with h1 | h1
      · exact .inr (.inl h1)
      · omega
    · rcases List.mem_append.1 hx with hx | hx
      · exact .inr (.inr ⟨x, hx, e⟩)
      · have := (hlt2.2 x hx b e).1; omega⟩
  have hkp2 : Kp w w' (Grw B2 V2 R2) (Grw B V' (R ++ R2)) := ⟨hs, fun k hk' hx => by
    have hBk : B2 ≤ k := Nat.le_of_not_lt fun e => hx (.inl e)
    exact hk k (by omega) hk' (fun e => by have := (hlt.1 k e).2; omega), fun b hb hx => by
    rcases hx with hx | hx | ⟨x, hx, e⟩
    · exact .inl (by omega)
    · rcases hv b hx with h1 | h1
      · exact .inl (by have := (hlt.1 b h1).2; omega)
      · omega
    · rcases List.mem_append.1 hx with hx | hx
      · exact .inl (by have := (hlt.2 x hx b e).2; omega)
      · exact .inr (.inr ⟨x, hx, e⟩)⟩
  have hk1 : ∀ (v : Value), v ∈ R → ∀ k, v.ownBlock = some k → w'.heap[k]? = w0.heap[k]? := fun v hv' k hk' => by
    have h1 := hlt.2 v hv' k hk'
    exact (hk k h1.1 (by omega) (h.off v hv' k hk')).trans (hkeep k h1.1 h1.2)
  have hk2 : ∀ (v : Value), v ∈ R2 → ∀ k, v.ownBlock = some k → w'.heap[k]? = w.heap[k]? := fun v hv' k hk' => by
    have h1 := hlt2.2 v hv' k hk'
    exact hk k (by omega) h1.2 (fun e => by have := (hlt.1 k e).2; omega)
  have at1 : ∀ {p : Nat} {x : Value}, R[p]? = some x → (R ++ R2)[p]? = some x := fun {p x} hx => by rw [List.getElem?_append_left (List.getElem?_eq_some_iff.1 hx).1]; exact hx
  have at2 : ∀ {p : Nat} {x : Value}, R2[p]? = some x → (R ++ R2)[n * 2 + p]? = some x := fun {p x} hx => by rw [List.getElem?_append_right (by omega), show n * 2 + p - R.length = p by omega]; exact hx
  have split : ∀ {p : Nat} {x : Value}, (R ++ R2)[p]? = some x → (p < n * 2 ∧ R[p]? = some x) ∨ (n * 2 ≤ p ∧ R2[p - n * 2]? = some x) := fun {p x} hx => by
    by_cases hp : p < n * 2
    · rw [List.getElem?_append_left (by omega)] at hx; exact .inl ⟨hp, hx⟩
    · rw [List.getElem?_append_right (by omega), hR] at hx; exact .inr ⟨by omega, hx⟩
  refine ⟨by rw [List.length_append, hM, h2.len], hrow, fun x hx b hb e => ?_, fun p q u v b hu hv' hbu hbv => ?_, fun t s hs' => ?_, fun t s hs' => ?_⟩
  · rcases List.mem_append.1 hx with hx | hx
    · rcases hv b e with h1 | h1
      · exact h.off x hx b hb h1
      · have := (hlt.2 x hx b hb).2; omega
    · rcases hv b e with h1 | h1
      · have h3 := (hlt.1 b h1).2; have h4 := (hlt2.2 x hx b hb).1; omega
      · have := (hlt2.2 x hx b hb).2; omega
  · rcases split hu with ⟨_, hu⟩ | ⟨h5, hu⟩
    · rcases split hv' with ⟨_, hv'⟩ | ⟨_, hv'⟩
      · exact h.apart p q u v b hu hv' hbu hbv
      · have h3 := (hlt.2 u (List.mem_of_getElem? hu) b hbu).2; have h4 := (hlt2.2 v (List.mem_of_getElem? hv') b hbv).1; omega
    · rcases split hv' with ⟨_, hv'⟩ | ⟨h6, hv'⟩
      · have h3 := (hlt.2 v (List.mem_of_getElem? hv') b hbv).2; have h4 := (hlt2.2 u (List.mem_of_getElem? hu) b hbu).1; omega
      · have := h2.apart _ _ u v b hu hv' hbu hbv; omega
  · by_cases ht : t < M.length
    · rw [List.getElem?_append_left ht] at hs'
      obtain ⟨v, h1, RE, h3, h4⟩ := h.slE t s hs'
      exact ⟨v, at1 h1, RE, own_same h3 fun k hk' _ => hk1 v (List.mem_of_getElem? h1) k hk', h4.keep hkp1⟩
    · rw [List.getElem?_append_right (by omega)] at hs'
      obtain ⟨v, h1, RE, h3, h4⟩ := h2.slE _ s hs'
      exact ⟨v, by have h5 := at2 h1; rwa [show n * 2 + (t - M.length) * 2 = t * 2 by omega] at h5, RE, own_mono' (own_same h3 fun k hk' _ => hk2 v (List.mem_of_getElem? h1) k hk') hB0, fun j g hg => by
        obtain ⟨co, cc, d1, d2, d3, d4⟩ := h4.keep hkp2 j g hg
        refine ⟨co, cc, d1, d2, ?_, d4⟩
        rcases d3 with d3 | d3
        · exact .inl d3
        · exact .inr (own_mono' d3 hB0)⟩
  · by_cases ht : t < M.length
    · rw [List.getElem?_append_left ht] at hs'
      obtain ⟨v, h1, h3⟩ := h.slF t s hs'
      exact ⟨v, at1 h1, own_same h3 fun k hk' _ => hk1 v (List.mem_of_getElem? h1) k hk'⟩
    · rw [List.getElem?_append_right (by omega)] at hs'
      obtain ⟨v, h1, h3⟩ := h2.slF _ s hs'
      exact ⟨v, by have h5 := at2 h1; rwa [show n * 2 + ((t - M.length) * 2 + 1) = t * 2 + 1 by omega] at h5, own_mono' (own_same h3 fun k hk' _ => hk2 v (List.mem_of_getElem? h1) k hk') hB0⟩
theorem Gro.one {w : World} {p : Nat} (h : w.heap[p]? = some (.cells #[.slice none 0 0, .slice none 0 0] 86)) : Gro w p (.slice (some ⟨p, 0, none⟩) 1 1) 1 [([], [])] [.slice none 0 0, .slice none 0 0] := Gro.start (n := 1) (h.trans (by rw [show madeCells (Value.agg #[.slice none 0 0, .slice none 0 0]).cells (1 * 2) = #[.slice none 0 0, .slice none 0 0] by kernel_rfl])) (Nat.le_refl _) (by decide)
/-- What moved leaves. -/
def MvQ (w : World) (n : Nat) (J : List St) (e : Ending) (w' : World) : Prop := ∃ (vo : Option Addr) (vc : Nat) (R : List Value), e = .returned (.slice vo n vc) ∧ Gro w' w.heap.size (.slice vo n vc) n J R ∧ Below w.heap.size w w'
set_option maxHeartbeats 16000000 in
set_option maxRecDepth 100000 in
theorem moved_any (so : Option Addr) (sc n : Nat) (L : List St) (s f : Int) (by_ : Nat) (w : World) (hn : n = L.length) (hs : RdS w so L) (hnm : n ≤ 100000) (hg : Gdd L s f) (he : eS L ≤ 1000000) (hf : fS L ≤ 1000000) (hby : by_ ≤ 100000) :
    Calls Tryd.prog 96 #[.slice so n sc, .int .i64 (by_ : Int)] w fun e w' => MvQ w n (mv by_ L) e w' := by
  obtain ⟨i86, hi86, hs0, hs1, hs2⟩ := info_parts Tryd.info86
  obtain ⟨i88, hi88, he0, he1, he2⟩ := info_parts Tryd.info88
  obtain ⟨i3x, hi3, hz0, hz1', hz2⟩ := info_parts Tryd.info3
  have HN := hid hn
  have HS := hid hs
  have HES := hid he
  have HFS := hid hf
  have HGD := hid hg
  clear hn hs he hf hg
  go_enter Tryd.func96, Tryd.ntmps96
  go_wp2
  go_loopw [5, 6] (fun x y wr => ∃ (i : Nat) (lo : Option Addr) (lc : Nat), x = .slice lo i lc ∧ y = .int .i64 i ∧ i ≤ n ∧ Hid (∃ R, Gro wr w.heap.size (.slice lo i lc) i (mv by_ (L.take i)) R) ∧ Hid (Below w.heap.size w wr)) (fun _ y _ => n - (intOf y).toNat)
  case atStart => exact ⟨0, none, 0, rfl, rfl, Nat.zero_le _, ⟨[], Gro.nil _ _⟩, Below.refl _ _⟩
  case round =>
    obtain ⟨i, lo, lc, rfl, rfl, hi, HI, HBW⟩ := hrel
    obtain ⟨R, hGr⟩ := HI.out
    clear HI
    have HG0 := hid hGr
    have hsw := HBW.out.size
    clear hGr
    by_cases hlt : i < n
    · have i3 : (i : Int) < (n : Int) := by omega
      have i0 : (0 : Int) ≤ (i : Int) := by omega
      have hiL : i < L.length := by have := HN.out; omega
      obtain ⟨E, F, hEF⟩ : ∃ E F, L[i]? = some (E, F) := ⟨L[i].1, _, List.getElem?_eq_getElem hiL⟩
      obtain ⟨a, ea, hab, eo, ec, fo, fc, f0w, f1w, hE, hF, _, _⟩ := HS.out i (E, F) hEF
      dsimp only at f0w f1w hE hF
      subst ea
      obtain ⟨en, hen⟩ : ∃ en, en = E.length := ⟨_, rfl⟩
      obtain ⟨fn, hfn⟩ : ∃ fn, fn = F.length := ⟨_, rfl⟩
      rw [← hen] at f0w
      rw [← hfn] at f1w
      have HF0 := hid (show ∀ W, Below w.heap.size w W → W.cell? (a.add (i * 2)) = some (.slice eo en ec) from fun W h => (h.cell (p := a.add (i * 2)) (by rw [add_blk]; exact hab)).trans f0w)
      have HF1 := hid (show ∀ W, Below w.heap.size w W → W.cell? ⟨(a.add (i * 2)).block, (a.add (i * 2)).off + 1, none⟩ = some (.slice fo fn fc) from fun W h => (h.cell (p := ⟨(a.add (i * 2)).block, (a.add (i * 2)).off + 1, none⟩) (show (a.add (i * 2)).block < _ by rw [add_blk]; exact hab)).trans f1w)
      have HAB := hid (show (a.add (i * 2)).block < w.heap.size by rw [add_blk]; exact hab)
      have HEN := hid hen
      have HFN := hid hfn
      have HER := hid hE
      have HFR := hid hF
      have HEF := hid hEF
      have hle1 : en ≤ 1000000 := by
        have h1 := eS_in (List.mem_of_getElem? hEF)
        have h2 := HES.out
        dsimp only at h1
        omega
      have hle2 : fn ≤ 1000000 := by
        have h1 := fS_in (List.mem_of_getElem? hEF)
        have h2 := HFS.out
        dsimp only at h1
        omega
      have HL := hid (show (mv by_ (L.take i)).length = i from by rw [mv_len, List.length_take]; omega)
      obtain ⟨w7, hw7⟩ : ∃ w7, w7 = wr.alloc (.cells #[.slice none 0 0, .slice none 0 0] 86) := ⟨_, rfl⟩
      obtain ⟨p7, hp7⟩ : ∃ p7, p7 = wr.heap.size := ⟨_, rfl⟩
      have hb7 : Below wr.heap.size wr w7 := by rw [hw7]; exact (Below.refl _ _).alloc (Nat.le_refl _) _
      have hr7 : w7.heap[p7]? = some (.cells #[.slice none 0 0, .slice none 0 0] 86) := by rw [hw7]; exact al_new _ _ hp7
      have hs7 : w7.heap.size = p7 + 1 := by rw [hw7, hp7]; simp
      have HGX := hid (Gro.one hr7)
      have HKP := hid (show ∀ (W : World) (Q : List Value), Gst w7 W (.slice (some ⟨p7, 0, none⟩) 1 1) [.slice none 0 0, .slice none 0 0] Q → Below p7 wr W ∧ Below w.heap.size w W ∧ p7 + 1 ≤ W.heap.size from fun W Q h => by
        have h1 := h.low HGX.out (by omega)
        have h2 : Below p7 wr W := (by rw [hp7]; exact hb7.trans (by rw [← hp7]; exact h1))
        exact ⟨h2, HBW.out.trans (h2.mono (by omega)), by have := h.size; omega⟩)
      have hp7w : w.heap.size ≤ p7 := by omega
      have HW7 := hid hw7
      have HPP := hid hp7
      clear hen hfn hE hF f0w f1w hEF hab hiL hw7 hp7 hb7 hr7 hs7
      go_wp2
      rw [← HPP.out, ← HW7.out]
      clear HW7
      go_loopw [8] (fun y wr => ∃ k : Nat, y = .int .i64 k ∧ k ≤ en ∧ Hid (∃ Q, Gro wr p7 (.slice (some ⟨p7, 0, none⟩) 1 1) 1 [(mvE by_ (E.take k), [])] Q ∧ Gst w7 wr (.slice (some ⟨p7, 0, none⟩) 1 1) [.slice none 0 0, .slice none 0 0] Q)) (fun y _ => en - (intOf y).toNat)
      case atStart => exact ⟨0, rfl, Nat.zero_le _, ⟨_, HGX.out, Gst.refl _ _ _⟩⟩
      case round =>
        obtain ⟨w0r, hw0r⟩ : ∃ W, W = wr := ⟨_, rfl⟩
        obtain ⟨k, rfl, hk, HI⟩ := hrel
        obtain ⟨R1, hGr, hSt⟩ := HI.out
        clear HI hw0r
        have HG := hid hGr
        have HST := hid hSt
        obtain ⟨bp7, bw, hsz⟩ := HKP.out _ _ hSt
        have f0 := HF0.out _ bw
        by_cases hkl : k < en
        · have k3 : (k : Int) < (en : Int) := by omega
          have k0 : (0 : Int) ≤ (k : Int) := by omega
          have hkE : k < E.length := by have := HEN.out; omega
          obtain ⟨C, t, hCt⟩ : ∃ C t, E[k]? = some (C, t) := ⟨E[k].1, _, List.getElem?_eq_getElem hkE⟩
          obtain ⟨d, ed, hdb, co, cc, u0w, u1w, hC, _⟩ := HER.out k (C, t) hCt
          subst ed
          have htb := HGD.out.ge (u := i) (C := C) (t := t) ⟨_, HEF.out, List.mem_of_getElem? hCt⟩
          dsimp only at u0w u1w hC
          have u0 := (bw.cell (p := d.add (k * 2)) (by rw [add_blk]; exact hdb)).trans u0w
          have u1 := (bw.cell (p := ⟨(d.add (k * 2)).block, (d.add (k * 2)).off + 1, none⟩) (show (d.add (k * 2)).block < _ by rw [add_blk]; exact hdb)).trans u1w
          have hcl : C.length ≤ 64 := HGD.out.lens _ (List.mem_of_getElem? HEF.out) _ (List.mem_of_getElem? hCt)
          obtain ⟨cn, hcn⟩ : ∃ cn, cn = C.length := ⟨_, rfl⟩
          rw [← hcn] at u0 hcl
          have hm9 : IntKind.i64.wrap (t + (by_ : Int)) = t + (by_ : Int) := by rw [IntKind.wrap_i64]; have := HN.out; omega
          -- the box of the edge
          obtain ⟨w9, hw9⟩ : ∃ w9, w9 = wr.alloc (.cells #[.slice co cn cc, .int .i64 t] 88) := ⟨_, rfl⟩
          obtain ⟨p9, hp9⟩ : ∃ p9, p9 = wr.heap.size := ⟨_, rfl⟩
          have hb9 : Below wr.heap.size wr w9 := by rw [hw9]; exact (Below.refl _ _).alloc (Nat.le_refl _) _
          have hr9 : w9.heap[p9]? = some (.cells #[.slice co cn cc, .int .i64 t] 88) := by rw [hw9]; exact al_new _ _ hp9
          have g9 := hGr.keep hb9
          have HG9 := hid g9
          obtain ⟨go, gc, _, _, RE, r0, _, oE, gE, _, x0, _⟩ := g9.at (t := 0) (E := mvE by_ (E.take k)) (F := []) rfl
          rw [Nat.zero_mul] at x0 r0
          obtain ⟨gn, hgn⟩ : ∃ gn, gn = (mvE by_ (E.take k)).length := ⟨_, rfl⟩
          rw [← hgn] at x0 oE r0
          have hgn6 : gn ≤ 1000000 := by rw [hgn]; unfold mvE; rw [List.length_map, List.length_take]; omega
          have v0 : w9.cell? ⟨p9, 0, none⟩ = some (.slice co cn cc) := by rw [cell_of_row w9 p9 0 _ 88 (0, 0) hr9]; rfl
          have v1 : w9.cell? ⟨p9, 1, none⟩ = some (.int .i64 t) := by rw [cell_of_row w9 p9 1 _ 88 (0, 0) hr9]; rfl
          have HFO := hid (show ∀ b, (Value.slice go gn gc).ownBlock = some b → b ≠ p7 ∧ b < p9 from fun b hb => ⟨fun e => g9.off _ (List.mem_of_getElem? r0) b hb (by rw [e]; rfl), by have := (hGr.lts.2 _ (List.mem_of_getElem? r0) b hb).2; omega⟩)
          have HR0 := hid r0
          have HOE := hid oE
          have HGE := hid gE
          have HGN := hid hgn
          have HC9 := hid (show RdI w9 co C from hC.below (bw.trans (hb9.mono bw.size)))
          have HCN := hid hcn
          have HCT := hid hCt
          have HB9 := hid hb9
          have hs9 : w9.heap.size = p9 + 1 := by rw [hw9, hp9]; simp
          have hp79 : p7 < p9 := by omega
          have HS9 := hid hs9
          have HSW := hid (show wr.heap.size = p9 from hp9.symm)
          have HW9 := hid hw9
          have HP9 := hid hp9
          have hBs : p7 ≤ w9.heap.size := by omega
          clear hgn hC hcn hCt hGr hSt hkE u0w u1w htb hdb hsz bp7 r0 oE gE g9 hb9 hr9 hw9 hp9 hs9
          go_wp2_with fail
          rw [← HP9.out, ← HW9.out]
          clear HW9 HP9 u0 u1 f0
          refine wp_region_mix [(0, true), (1, true), (3, true), (4, true), (6, true), (7, true), (8, true), (9, true), (2, false), (5, false), (10, true), (11, false), (12, false), (13, true), (14, false)] (fun w' => w'.cell? ⟨p7, 0, none⟩ = some (.slice go gn gc) ∧ w'.cell? ⟨p9, 0, none⟩ = some (.slice co cn cc) ∧ w'.cell? ⟨p9, 1, none⟩ = some (.int .i64 t)) (fun j => j == 14) (by kernel_rfl) (by kernel_rfl) (fun j hj => by have := beq_iff_eq.1 hj; subst this; decide) rfl (by kernel_rfl) ⟨x0, v0, v1⟩ ?_
          iterate 8 (refine mix_free ?_ rfl (by kernel_rfl) (fun w' hS => ?_) ?_; (rotate_left; (obtain ⟨s1, s2, s3⟩ := hS; go_simp; with_reducible rfl); rotate_left))
          refine mix_go rfl (by kernel_rfl) fun KK hKK => ?_
          go_simp
          refine hKK _ _ (fun _ => ⟨cell_al x0, cell_al v0, cell_al v1⟩) ?_
          clear hKK KK
          have HW5 := hid (show (w9.alloc (.cells #[] 3)).drew.ownsRow w9.heap.size 3 1 (.slice (some ⟨w9.heap.size, 0, none⟩) 0 0) 0 [] from (World.ownsRow_lit w9 #[] 0 (Nat.le_refl _) (by decide) (by simp)).drew)
          have HB5 := hid (show Below w9.heap.size w9 (w9.alloc (.cells #[] 3)).drew from ((Below.refl _ _).alloc (Nat.le_refl _) _).drew)
          refine mix_go rfl (by kernel_rfl) fun KK hKK => ?_
          refine wp_copy _ _ rfl w9.heap.size w9.heap.size rfl HW5.out co cn cc C rfl (HC9.out.below HB5.out) HCN.out (by omega) (by show w9.heap.size ≤ (w9.alloc _).heap.size; simp) ?_
          intro q4 qc4 w4 o4 gr4 hq4 hlt4
          have b4 : Below w9.heap.size w9 w4 := HB5.out.grown gr4 (by show w9.heap.size ≤ (w9.alloc _).heap.size; simp) (fun k hk => by have e : w9.heap.size = k := Option.some.inj hk; omega)
          have hs4 : w9.heap.size ≤ w4.heap.size := b4.size
          have x4 := cell_bl b4 x0
          have v4 := cell_bl b4 v0
          have y4 := cell_bl b4 v1
          refine hKK _ _ (fun _ => ⟨x4, v4, y4⟩) ?_
          clear hKK KK
          refine mix_free ?_ rfl (by kernel_rfl) (fun w' hS => ?_) ?_; (rotate_left; (go_simp; with_reducible rfl); rotate_left)
          have HK4 := hid (show w4.ownsRow w9.heap.size 3 1 (.slice (some ⟨q4, 0, none⟩) cn qc4) cn (i64s C) from o4)
          have HB4 := hid (show ∀ b, b < w9.heap.size → w4.heap[b]? = w9.heap[b]? from fun b hb => b4.block b hb)
          have HT4 := hid (show w4.os = w9.os ∧ w4.tape = w9.tape ∧ w4.output = w9.output from ⟨b4.os, b4.tape, b4.output⟩)
          have HOE4 := hid (show w4.ownsRow p7 88 2 (.slice go gn gc) gn RE from own_same HOE.out fun b _ hb => b4.block b hb)
          clear o4 gr4 hq4 hlt4 b4 HW5 HB5
          refine mix_go rfl (by kernel_rfl) fun KK hKK => ?_
          go_simp
          refine hKK _ _ (fun _ => ⟨cell_al x4, cell_al v4, cell_al y4⟩) ?_
          clear hKK KK
          refine mix_go rfl (by kernel_rfl) fun KK hKK => ?_
          refine wp_append_lies _ _ _ 84 rfl p7 88 i88 (.agg #[.slice none 0 0, .int .i64 0]) 2 32 Tryd.underlying84 hi88 he0 he1 he2 rfl (by decide) (.slice go gn gc) gn RE rfl (HOE4.out.alloc _) ⟨w4.heap.size, 0, none⟩ 1 1 [.slice (some ⟨q4, 0, none⟩) cn qc4, .int .i64 (t + (by_ : Int))] rfl rfl (news_two w4 _ _ 88) (fun u hu => by simp at hu; rcases hu with h | h <;> rw [h] <;> rfl) (by decide) (by unfold maxLen; omega) (by omega) (by show p7 ≤ (w4.alloc _).heap.size; simp; omega) (w4.heap.size + 1) (by show (w4.alloc _).heap.size = _; simp) ?_
          intro q qc w8 o8 gr8 hl8 hlt8
          have hs8 : w4.heap.size + 1 ≤ w8.heap.size := by
            have h : (w4.alloc (.cells #[.slice (some ⟨q4, 0, none⟩) cn qc4, .int .i64 (t + (by_ : Int))] 88)).heap.size ≤ w8.heap.size := gr8.size
            simpa using h
          have hblk48 : ∀ b, b < w4.heap.size → (Value.slice go gn gc).ownBlock ≠ some b → w8.heap[b]? = w4.heap[b]? := fun b hb hne => (gr8.block b (by show b < (w4.alloc _).heap.size; simp; omega) (fun e => hne e.symm)).trans (al_old w4 _ hb)
          have hblk8 : ∀ b, b < w9.heap.size → (Value.slice go gn gc).ownBlock ≠ some b → w8.heap[b]? = w9.heap[b]? := fun b hb hne => (hblk48 b (by omega) hne).trans (HB4.out b hb)
          have hg8 : w8.heap[p7]? = w9.heap[p7]? := hblk8 p7 (by have := HS9.out; omega) fun e => (HFO.out p7 e).1 rfl
          have x8 : w8.cell? ⟨p7, 0, none⟩ = some (.slice go gn gc) := (World.cell?_of_block hg8).trans x0
          have hg9 : w8.heap[p9]? = w9.heap[p9]? := hblk8 p9 (by have := HS9.out; omega) fun e => by have := (HFO.out p9 e).2; omega
          have v8 : w8.cell? ⟨p9, 0, none⟩ = some (.slice co cn cc) := (World.cell?_of_block hg9).trans v0
          have y8 : w8.cell? ⟨p9, 1, none⟩ = some (.int .i64 t) := (World.cell?_of_block hg9).trans v1
          have orow : w8.ownsRow p7 86 2 (.slice (some ⟨p7, 0, none⟩) 1 1) 1 R1 := own_same HG9.out.row fun k hk _ => by
            have e : p7 = k := Option.some.inj hk
            rw [← e]; exact hg8
          have fz := orow.frozenAt 0
          refine hKK _ _ (fun _ => ⟨x8, v8, y8⟩) ?_
          clear hKK KK
          refine mix_free ?_ rfl (by kernel_rfl) (fun w' hS => ?_) ?_; (rotate_left; (obtain ⟨s1, s2, s3⟩ := hS; go_simp; with_reducible rfl); rotate_left)
          have HO8 := hid o8
          have HROW := hid orow
          have HB8 := hid hblk8
          have HB48 := hid hblk48
          have HS8 := hid hs8
          have HS4 := hid hs4
          have HL8 := hid hl8
          have HT8 := hid (show w8.os = w9.os ∧ w8.tape = w9.tape ∧ w8.output = w9.output from ⟨(show w8.os = w4.os from gr8.os).trans HT4.out.1, (show w8.tape = w4.tape from gr8.tape).trans HT4.out.2.1, (show w8.output = w4.output from gr8.output).trans HT4.out.2.2⟩)
          clear o8 gr8 hl8 hlt8 hs8 hblk8 hblk48 orow hg8 hg9 hs4 x4 y4 v4
          refine mix_go rfl (by kernel_rfl) fun KK hKK => ?_
          go_simp
          refine hKK _ _ (fun h => by cases h) ?_
          clear hKK KK
          refine mix_end (NoPanic.normal ?_)
          have hst := HROW.out.stored 0 (.slice (some ⟨q, 0, none⟩) (gn + 1) qc)
          have hset : ∀ b, b ≠ p7 → (w8.setCell ⟨p7, 0, none⟩ (.slice (some ⟨q, 0, none⟩) (gn + 1) qc)).heap[b]? = w8.heap[b]? := fun b hb => heap_setCell_other w8 ⟨p7, 0, none⟩ b _ (fun e => hb e)
          have hss : (w8.setCell ⟨p7, 0, none⟩ (.slice (some ⟨q, 0, none⟩) (gn + 1) qc)).heap.size = w8.heap.size := by simp
          have hs4 := HS4.out
          have hs8 := HS8.out
          have hs9' := HS9.out
          have hv : ∀ b, (Value.slice (some ⟨q, 0, none⟩) (gn + 1) qc).ownBlock = some b → (Value.slice go gn gc).ownBlock = some b ∨ w9.heap.size ≤ b := fun b hb => by
            have e : q = b := Option.some.inj hb
            rcases HL8.out with h | h
            · exact .inl (e ▸ h)
            · exact .inr (by omega)
          have hk' : ∀ k, k < w9.heap.size → (Value.slice (some ⟨p7, 0, none⟩) 1 1).ownBlock ≠ some k → (Value.slice go gn gc).ownBlock ≠ some k → (w8.setCell ⟨p7, 0, none⟩ (.slice (some ⟨q, 0, none⟩) (gn + 1) qc)).heap[k]? = w9.heap[k]? := fun k hk h1 h2 => (hset k (fun e => h1 (by rw [e]; rfl))).trans (HB8.out k hk h2)
          have hs10 : w9.heap.size ≤ (w8.setCell ⟨p7, 0, none⟩ (.slice (some ⟨q, 0, none⟩) (gn + 1) qc)).heap.size := by rw [hss]; omega
          have hqg : q ≠ p7 := fun e => by
            rcases HL8.out with h | h
            · exact (HFO.out q h).1 e
            · omega
          have hq4b := HK4.out.lt q4 rfl
          have hq4q : q4 ≠ q := fun e => by
            rcases HL8.out with h | h
            · have := (HFO.out q h).2; omega
            · omega
          have HG2 := hid (show Gro (w8.setCell ⟨p7, 0, none⟩ (.slice (some ⟨q, 0, none⟩) (gn + 1) qc)) p7 (.slice (some ⟨p7, 0, none⟩) 1 1) 1 [(mvE by_ (E.take (k + 1)), [])] (R1.set 0 (.slice (some ⟨q, 0, none⟩) (gn + 1) qc)) from by
            rw [mvE_take HCT.out]
            refine HG9.out.addE (t := 0) (co := some ⟨q4, 0, none⟩) (cc := qc4) rfl HR0.out (by rw [← HGN.out]; exact HOE.out) HGE.out hs10 hk' hst.1 hv ?_ ?_ (fun _ b hb => ?_)
            · rw [← HGN.out, ← HCN.out]
              exact own_same HO8.out fun b hb _ => hset b (by have e : q = b := Option.some.inj hb; omega)
            · rw [← HCN.out]
              refine .inr ?_
              rw [← HCN.out]
              refine own_same (own_mono' HK4.out hBs) fun b hb hl => ?_
              have e : q4 = b := Option.some.inj hb
              subst e
              rw [hset q4 (by omega), HB48.out q4 hl (fun e => by have := (HFO.out q4 e).2; omega)]
            · have e : q4 = b := Option.some.inj hb
              subst e
              exact ⟨hq4b.1, fun e => hq4q (Option.some.inj e).symm⟩)
          have HST2 := hid (HST.out.trans ((Gst.below HB9.out _ _).trans (Gst.put (w' := w8.setCell ⟨p7, 0, none⟩ (.slice (some ⟨q, 0, none⟩) (gn + 1) qc)) HR0.out HT8.out.1 HT8.out.2.1 HT8.out.2.2 hs10 hk' hv)))
          clear hst hset hss hs4 hs8 hs9' hv hk' hs10 hqg hq4b hq4q HG HST
          go_wp2
          go_roundw
          case rel => exact ⟨k + 1, by go_num, by omega, ⟨_, HG2.out, HST2.out⟩⟩
          case measure => simp [intOf]; omega
        · have k3 : ¬ (k : Int) < (en : Int) := by omega
          have HT := hid (show E.take k = E from List.take_of_length_le (by have := HEN.out; omega))
          rw [HT.out] at HG
          clear HT bp7 bw hsz hGr hSt
          go_wp2
          clear f0
          go_loopw [10] (fun y wr => ∃ j : Nat, y = .int .i64 j ∧ j ≤ fn ∧ Hid (∃ Q, Gro wr p7 (.slice (some ⟨p7, 0, none⟩) 1 1) 1 [(mvE by_ E, mvF by_ (F.take j))] Q ∧ Gst w7 wr (.slice (some ⟨p7, 0, none⟩) 1 1) [.slice none 0 0, .slice none 0 0] Q)) (fun y _ => fn - (intOf y).toNat)
          case atStart => exact ⟨0, rfl, Nat.zero_le _, ⟨R1, HG.out, HST.out⟩⟩
          case round =>
            clear HG HST
            obtain ⟨j, rfl, hj, HI⟩ := hrel
            obtain ⟨R2, hGr, hSt⟩ := HI.out
            clear HI
            have HG := hid hGr
            have HST := hid hSt
            obtain ⟨bp7, bw, hsz⟩ := HKP.out _ _ hSt
            have f1 := HF1.out _ bw
            obtain ⟨go, gc, ho, hc, RE, r0, r1, oE, gE, oF, x0, x1⟩ := hGr.at (t := 0) (E := mvE by_ E) (F := mvF by_ (F.take j)) rfl
            rw [Nat.zero_mul] at x0 x1 r0 r1
            rw [Nat.zero_add] at x1 r1
            by_cases hjl : j < fn
            · have j3 : (j : Int) < (fn : Int) := by omega
              have j0 : (0 : Int) ≤ (j : Int) := by omega
              have hjF : j < F.length := by have := HFN.out; omega
              obtain ⟨t, hFt⟩ : ∃ t, F[j]? = some t := ⟨_, List.getElem?_eq_getElem hjF⟩
              obtain ⟨d, ed, hdb, u0w⟩ := HFR.out j t hFt
              subst ed
              have htb := HGD.out.gf (u := i) (t := t) ⟨_, HEF.out, List.mem_of_getElem? hFt⟩
              have u0 := (bw.cell (p := d.add j) (by rw [add_blk]; exact hdb)).trans u0w
              have hm9 : IntKind.i64.wrap (t + (by_ : Int)) = t + (by_ : Int) := by rw [IntKind.wrap_i64]; have := HN.out; omega
              obtain ⟨gn, hgn⟩ : ∃ gn, gn = (mvF by_ (F.take j)).length := ⟨_, rfl⟩
              rw [← hgn] at x1 oF r1
              have hgn6 : gn ≤ 1000000 := by rw [hgn]; unfold mvF; rw [List.length_map, List.length_take]; omega
              have HFO := hid (show ∀ b, (Value.slice ho gn hc).ownBlock = some b → b ≠ p7 ∧ b < wr.heap.size ∧ p7 ≤ b from fun b hb => ⟨fun e => hGr.off _ (List.mem_of_getElem? r1) b hb (by rw [e]; rfl), (oF.lt b hb).2, (oF.lt b hb).1⟩)
              have HR1 := hid r1
              have HOF := hid oF
              have HGN := hid hgn
              have HCT := hid hFt
              have hBs : p7 ≤ wr.heap.size := by omega
              have hdw : (d.add j).block < w.heap.size := by rw [add_blk]; exact hdb
              have haw : (a.add (i * 2)).block < w.heap.size := HAB.out
              clear hgn hFt hGr hSt hjF u0w htb hdb bp7 bw r0 r1 oE gE oF x0
              go_wp2_with fail
              refine wp_region_mix [(0, true), (1, true), (2, true), (3, true), (4, true), (5, true), (6, true), (7, true), (8, true), (9, true), (10, true), (11, true), (12, false), (13, false), (14, true), (15, false)] (fun w' => w'.cell? ⟨p7, 1, none⟩ = some (.slice ho gn hc) ∧ w'.cell? ⟨(a.add (i * 2)).block, (a.add (i * 2)).off + 1, none⟩ = some (.slice (some d) fn fc) ∧ w'.cell? (d.add j) = some (.int .i64 t)) (fun j => j == 15) (by kernel_rfl) (by kernel_rfl) (fun j hj => by have := beq_iff_eq.1 hj; subst this; decide) rfl (by kernel_rfl) ⟨x1, f1, u0⟩ ?_
              iterate 12 (refine mix_free ?_ rfl (by kernel_rfl) (fun w' hS => ?_) ?_; (rotate_left; (obtain ⟨s1, s2, s3⟩ := hS; go_simp; with_reducible rfl); rotate_left))
              refine mix_go rfl (by kernel_rfl) fun KK hKK => ?_
              go_simp
              refine hKK _ _ (fun _ => ⟨cell_al x1, cell_al f1, cell_al u0⟩) ?_
              clear hKK KK
              refine mix_go rfl (by kernel_rfl) fun KK hKK => ?_
              refine wp_append_lies _ _ _ 22 rfl p7 3 i3x (.int .i64 0) 1 8 Tryd.underlying22 hi3 hz0 hz1' hz2 rfl (by decide) (.slice ho gn hc) gn (i64s (mvF by_ (F.take j))) rfl (HOF.out.alloc _).drew ⟨wr.heap.size, 0, none⟩ 1 1 [.int .i64 (t + (by_ : Int))] rfl rfl (news1 wr _ 3) (fun u hu => by simp at hu; rw [hu]; rfl) (by decide) (by unfold maxLen; omega) (by omega) (by show p7 ≤ (wr.alloc _).heap.size; simp; omega) (wr.heap.size + 1) (by show (wr.alloc _).heap.size = _; simp) ?_
              intro q qc w8 o8 gr8 hl8 hlt8
              have hs8 : wr.heap.size + 1 ≤ w8.heap.size := by
                have h : (wr.alloc (.cells #[.int .i64 (t + (by_ : Int))] 3)).heap.size ≤ w8.heap.size := gr8.size
                simpa using h
              have hblk8 : ∀ b, b < wr.heap.size → (Value.slice ho gn hc).ownBlock ≠ some b → w8.heap[b]? = wr.heap[b]? := fun b hb hne => (gr8.block b (by show b < (wr.alloc _).heap.size; simp; omega) (fun e => hne e.symm)).trans (al_old wr _ hb)
              have hg8 : w8.heap[p7]? = wr.heap[p7]? := hblk8 p7 (by omega) fun e => (HFO.out p7 e).1 rfl
              have x8 : w8.cell? ⟨p7, 1, none⟩ = some (.slice ho gn hc) := (World.cell?_of_block hg8).trans x1
              have y8 : w8.cell? ⟨(a.add (i * 2)).block, (a.add (i * 2)).off + 1, none⟩ = some (.slice (some d) fn fc) := (World.cell?_of_block (a := ⟨(a.add (i * 2)).block, (a.add (i * 2)).off + 1, none⟩) (hblk8 (a.add (i * 2)).block (by omega) (fun e => by have := (HFO.out _ e).2.2; omega))).trans f1
              have v8 : w8.cell? (d.add j) = some (.int .i64 t) := (World.cell?_of_block (hblk8 _ (by omega) (fun e => by have := (HFO.out _ e).2.2; omega))).trans u0
              have orow : w8.ownsRow p7 86 2 (.slice (some ⟨p7, 0, none⟩) 1 1) 1 R2 := own_same HG.out.row fun k hk _ => by
                have e : p7 = k := Option.some.inj hk
                rw [← e]; exact hg8
              have fz := orow.frozenAt 1
              refine hKK _ _ (fun _ => ⟨x8, y8, v8⟩) ?_
              clear hKK KK
              refine mix_free ?_ rfl (by kernel_rfl) (fun w' hS => ?_) ?_; (rotate_left; (obtain ⟨s1, s2, s3⟩ := hS; go_simp; with_reducible rfl); rotate_left)
              have HO8 := hid o8
              have HROW := hid orow
              have HB8 := hid hblk8
              have HS8 := hid hs8
              have HL8 := hid hl8
              have HT8 := hid (show w8.os = wr.os ∧ w8.tape = wr.tape ∧ w8.output = wr.output from ⟨gr8.os, gr8.tape, gr8.output⟩)
              clear o8 gr8 hl8 hlt8 hs8 hblk8 orow hg8
              refine mix_go rfl (by kernel_rfl) fun KK hKK => ?_
              go_simp
              refine hKK _ _ (fun h => by cases h) ?_
              clear hKK KK
              refine mix_end (NoPanic.normal ?_)
              have hst := HROW.out.stored 1 (.slice (some ⟨q, 0, none⟩) (gn + 1) qc)
              have hset : ∀ b, b ≠ p7 → (w8.setCell ⟨p7, 1, none⟩ (.slice (some ⟨q, 0, none⟩) (gn + 1) qc)).heap[b]? = w8.heap[b]? := fun b hb => heap_setCell_other w8 ⟨p7, 1, none⟩ b _ (fun e => hb e)
              have hss : (w8.setCell ⟨p7, 1, none⟩ (.slice (some ⟨q, 0, none⟩) (gn + 1) qc)).heap.size = w8.heap.size := by simp
              have hs8 := HS8.out
              have hv : ∀ b, (Value.slice (some ⟨q, 0, none⟩) (gn + 1) qc).ownBlock = some b → (Value.slice ho gn hc).ownBlock = some b ∨ wr.heap.size ≤ b := fun b hb => by
                have e : q = b := Option.some.inj hb
                rcases HL8.out with h | h
                · exact .inl (e ▸ h)
                · exact .inr (by omega)
              have hk' : ∀ k, k < wr.heap.size → (Value.slice (some ⟨p7, 0, none⟩) 1 1).ownBlock ≠ some k → (Value.slice ho gn hc).ownBlock ≠ some k → (w8.setCell ⟨p7, 1, none⟩ (.slice (some ⟨q, 0, none⟩) (gn + 1) qc)).heap[k]? = wr.heap[k]? := fun k hk h1 h2 => (hset k (fun e => h1 (by rw [e]; rfl))).trans (HB8.out k hk h2)
              have hs10 : wr.heap.size ≤ (w8.setCell ⟨p7, 1, none⟩ (.slice (some ⟨q, 0, none⟩) (gn + 1) qc)).heap.size := by rw [hss]; omega
              have hqg : q ≠ p7 := fun e => by
                rcases HL8.out with h | h
                · exact (HFO.out q h).1 e
                · omega
              have HG2 := hid (show Gro (w8.setCell ⟨p7, 1, none⟩ (.slice (some ⟨q, 0, none⟩) (gn + 1) qc)) p7 (.slice (some ⟨p7, 0, none⟩) 1 1) 1 [(mvE by_ E, mvF by_ (F.take (j + 1)))] (R2.set 1 (.slice (some ⟨q, 0, none⟩) (gn + 1) qc)) from by
                rw [mvF_take HCT.out]
                refine HG.out.addF (t := 0) rfl HR1.out hs10 hk' hst.1 hv ?_
                rw [← HGN.out]
                exact own_same HO8.out fun b hb _ => hset b (by have e : q = b := Option.some.inj hb; omega))
              have HST2 := hid (HST.out.trans (Gst.put (w' := w8.setCell ⟨p7, 1, none⟩ (.slice (some ⟨q, 0, none⟩) (gn + 1) qc)) HR1.out HT8.out.1 HT8.out.2.1 HT8.out.2.2 hs10 hk' hv))
              clear hst hset hss hs8 hv hk' hs10 hqg HG HST x1 f1 u0
              go_wp2
              go_roundw
              case rel => exact ⟨j + 1, by go_num, by omega, ⟨_, HG2.out, HST2.out⟩⟩
              case measure => simp [intOf]; omega
            · have j3 : ¬ (j : Int) < (fn : Int) := by omega
              have HT := hid (show F.take j = F from List.take_of_length_le (by have := HFN.out; omega))
              obtain ⟨ev, hev⟩ : ∃ v, v = Value.slice go (mvE by_ E).length gc := ⟨_, rfl⟩
              obtain ⟨fv, hfv⟩ : ∃ v, v = Value.slice ho (mvF by_ (F.take j)).length hc := ⟨_, rfl⟩
              have HR2 := hid (show R2 = [ev, fv] from by
                have hl : R2.length = 1 * 2 := hGr.row.1
                match R2, hl, r0, r1 with
                | [x, y], _, r0, r1 =>
                  simp at r0 r1
                  rw [hev, hfv, r0, r1])
              obtain ⟨en2, hen2⟩ : ∃ n, n = (mvE by_ E).length := ⟨_, rfl⟩
              obtain ⟨fn2, hfn2⟩ : ∃ n, n = (mvF by_ (F.take j)).length := ⟨_, rfl⟩
              rw [← hen2] at x0 hev
              rw [← hfn2] at x1 hfv
              have HEV := hid hev
              have HFV := hid hfv
              have HOW := hid (show wr.ownsRow w.heap.size 86 2 (.slice lo i lc) i R from own_same HG0.out.row fun k hk hl => bp7.block k (by have := HPP.out; omega))
              have HBP := hid bp7
              have HBW2 := hid bw
              have hswr : w.heap.size ≤ wr.heap.size := bw.size
              have hin6 : i ≤ 100000 := by omega
              clear HT hGr hSt bp7 bw r0 r1 oE gE oF hev hfv hen2 hfn2
              go_wp2_with (at_builtin; go_loud (refine wpList_append_lies _ rfl _ _ 26 rfl w.heap.size 86 i86 (.agg #[.slice none 0 0, .slice none 0 0]) 2 48 Tryd.underlying26 hi86 hs0 hs1 hs2 rfl (by decide) (.slice lo i lc) i R rfl (HOW.out.alloc _) ⟨wr.heap.size, 0, none⟩ 1 1 [.slice go en2 gc, .slice ho fn2 hc] rfl rfl (news22 wr _ _ 86) (fun u hu => by simp at hu; rcases hu with h | h <;> rw [h] <;> rfl) (by decide) (by unfold maxLen; omega) (by omega) (by simp; omega) (wr.heap.size + 1) (by simp) ?_); intro g9 c9 w10 o9 gr9 hl9 hlt9)
              have hs10 : wr.heap.size + 1 ≤ w10.heap.size := by have := gr9.size; simpa using this
              have hblk : ∀ b, b < wr.heap.size → (Value.slice lo i lc).ownBlock ≠ some b → w10.heap[b]? = wr.heap[b]? := fun b hb hne => (gr9.block b (by simp; omega) (fun e => hne e.symm)).trans (al_old _ _ hb)
              have HG10 := hid (show Gro w10 w.heap.size (.slice (some ⟨g9, 0, none⟩) (i + 1) c9) (i + 1) (mv by_ (L.take (i + 1))) (R ++ R2) from by
                rw [mv_take HEF.out]
                have hT : F.take j = F := List.take_of_length_le (by have := HFN.out; omega)
                have hg2 := HG.out
                rw [hT] at hg2
                refine HG0.out.join hg2 hp7w (by rw [HPP.out]; exact Nat.le_refl _) (fun k _ hk => HBP.out.block k (by rw [HPP.out]; exact hk)) HBP.out.size (by omega) (fun k _ hk hne => hblk k hk hne) ?_ (fun b hb => ?_)
                · rw [HR2.out, HEV.out, HFV.out]
                  exact o9
                · have e : g9 = b := Option.some.inj hb
                  rcases hl9 with h | h
                  · exact .inl (e ▸ h)
                  · exact .inr (by omega))
              have HB10 := hid ((HBW2.out.alloc hswr (.cells #[.slice go en2 gc, .slice ho fn2 hc] 86)).grown gr9 (by simp; omega) (fun b hb => (HOW.out.lt b hb).1))
              clear o9 gr9 hl9 hlt9 hblk hs10 x0 x1 f1
              go_roundw
              case rel => exact ⟨i + 1, some ⟨g9, 0, none⟩, c9, rfl, by go_num, by omega, ⟨_, HG10.out⟩, HB10⟩
              case measure => simp [intOf]; omega
    · have i3 : ¬ (i : Int) < (n : Int) := by omega
      have hin : i = n := by omega
      subst hin
      have HT := hid (show L.take i = L from List.take_of_length_le (by have := HN.out; omega))
      rw [HT.out] at HG0
      go_wp2
      go_ret
      exact ⟨_, _, R, rfl, HG0.out, HBW.out⟩
end Go.Proofs.YteacehfihogmpaaDoor
/- The contract of Then (the document's). -/
namespace Go.Proofs.YteacehfihogmpaaDoor
open Go.RowKit

theorem Gro.ones {w : World} {B n : Nat} {V : Value} {M : List St} {R : List Value} (h : Gro w B V n M R) : ∀ u ∈ R, u.oneCell' = true := fun u hu => by
  obtain ⟨p, hp⟩ := List.mem_iff_getElem?.1 hu
  have hpl := (List.getElem?_eq_some_iff.1 hp).1
  have hl : R.length = n * 2 := h.row.1
  have hM := h.len
  obtain ⟨s, hs⟩ : ∃ s, M[p / 2]? = some s := ⟨_, List.getElem?_eq_getElem (by omega)⟩
  have hsl : ∀ {e sz m : Nat} {x : Value} {xs : List Value}, w.ownsRow B e sz x m xs → x.oneCell' = true := fun hx => by
    rcases hx.2 with ⟨rfl, rfl⟩ | ⟨g, cap, cur, rfl, _⟩ <;> rfl
  rcases Nat.mod_two_eq_zero_or_one p with e | e
  · obtain ⟨x, hx, RE, ho, _⟩ := h.slE _ s hs
    rw [show p / 2 * 2 = p by omega, hp] at hx
    cases hx
    exact hsl ho
  · obtain ⟨x, hx, ho⟩ := h.slF _ s hs
    rw [show p / 2 * 2 + 1 = p by omega, hp] at hx
    cases hx
    exact hsl ho
theorem Gro.form {w : World} {B n : Nat} {V : Value} {M : List St} {R : List Value} (h : Gro w B V n M R) (hn : 0 < n) : ∃ g cap, V = .slice (some ⟨g, 0, none⟩) n cap := by
  rcases h.row.2 with ⟨_, h2⟩ | ⟨g, cap, _, h1, _⟩
  · omega
  · exact ⟨_, _, h1⟩
/-- append of one automaton's states onto another's. -/
theorem wp_append_states {w0 w : World} {o : Oper} {a : Act} {K : Act → World → Prop} {Q : Exit → Act → World → Prop} (s x : Operand) (ho : o.op = .call { callee := .builtin .append, args := #[s, x], argTypes := #[26, 26] }) (B B2 n n2 : Nat) (vo uo : Option Addr) (vc uc : Nat) (M M2 : List St) (R R2 : List Value) (hs : a.eval s = .slice vo n vc) (hx : a.eval x = .slice uo n2 uc) (h : Gro w0 B (.slice vo n vc) n M R) (h2 : Gro w B2 (.slice uo n2 uc) n2 M2 R2) (hB0 : B ≤ B2) (hw0 : w0.heap.size ≤ B2) (hkeep : Below w0.heap.size w0 w) (hn2 : 0 < n2) (hnn : n + n2 ≤ 100000)
    (hK : ∀ g c w', Gro w' B (.slice (some ⟨g, 0, none⟩) (n + n2) c) (n + n2) (M ++ M2) (R ++ R2) → w.grownBy w' (Value.slice vo n vc).ownBlock → ((Value.slice vo n vc).ownBlock = some g ∨ g = w.heap.size) → K (a.put o.dst (.slice (some ⟨g, 0, none⟩) (n + n2) c)) w') : o.wp Tryd.prog a w K Q := by
  obtain ⟨i86, hi86, hs0, hs1, hs2⟩ := info_parts Tryd.info86
  obtain ⟨g2, c2, e2⟩ := h2.form hn2
  cases e2
  have hrow : w.ownsRow B 86 2 (.slice vo n vc) n R := own_same h.row fun k hk hl => hkeep.block k hl
  have hl2 : R2.length = n2 * 2 := h2.row.1
  have hB : B ≤ w.heap.size := by
    have := (h2.row.lt g2 rfl)
    omega
  refine wp_append_lies _ s x 26 ho B 86 i86 (.agg #[.slice none 0 0, .slice none 0 0]) 2 48 Tryd.underlying26 hi86 hs0 hs1 hs2 rfl (by decide) (.slice vo n vc) n R hs hrow ⟨g2, 0, none⟩ n2 uc R2 hx hl2 (fun j u hj => by
    have := h2.row.cells rfl j u hj
    exact this) h2.ones hn2 (by unfold maxLen; omega) (by omega) hB w.heap.size rfl ?_
  intro g c w' o' gr hl hlt
  refine hK g c w' (h.join h2 hB0 hw0 (fun k _ hk => hkeep.block k hk) hkeep.size gr.size (fun k _ hk hne => gr.block k hk (fun e => hne e.symm)) o' (fun b hb => ?_)) gr hl
  have e : g = b := Option.some.inj hb
  rcases hl with h | h
  · exact .inl (e ▸ h)
  · exact .inr (by omega)
set_option maxHeartbeats 16000000 in
set_option maxRecDepth 100000 in
theorem rthen_any (so to : Option Addr) (sc tc na nb : Nat) (A B : List St) (sa fa sb fb : Int) (w : World) (hna : na = A.length) (hnb : nb = B.length) (hsA : RdS w so A) (hsB : RdS w to B) (hla : na ≤ 1000) (hlb : nb ≤ 1000) (hea : eS A ≤ 100000) (hfa : fS A ≤ 100000) (heb : eS B ≤ 100000) (hfb : fS B ≤ 100000) :
    Calls Tryd.prog 49 #[.agg #[.slice so na sc, .int .i64 sa, .int .i64 fa], .agg #[.slice to nb tc, .int .i64 sb, .int .i64 fb]] w fun e w' => JnQ w (gdB A sa fa && gdB B sb fb) (thn A fa B sb) sa (fb + A.length) e w' := by
  obtain ⟨i3x, hi3, hz0, hz1', hz2⟩ := info_parts Tryd.info3
  have HNA := hid hna
  have HNB := hid hnb
  have HSA := hid hsA
  have HSB := hid hsB
  have HEA := hid hea
  have HFA := hid hfa
  have HEB := hid heb
  have HFB := hid hfb
  obtain ⟨w1, hw1⟩ : ∃ w1, w1 = ((w.alloc (.cells #[.slice so na sc, .int .i64 sa, .int .i64 fa] 28)).alloc (.cells #[.slice to nb tc, .int .i64 sb, .int .i64 fb] 28)).alloc (.cells #[.slice none 0 0, .int .i64 0, .int .i64 0] 28) := ⟨_, rfl⟩
  have q1 : w1.heap[w.heap.size]? = some (.cells #[.slice so na sc, .int .i64 sa, .int .i64 fa] 28) := by rw [hw1, al_old _ _ (by simp; omega), al_old _ _ (by simp), al_new _ _ rfl]
  have q2 : w1.heap[w.heap.size + 1]? = some (.cells #[.slice to nb tc, .int .i64 sb, .int .i64 fb] 28) := by rw [hw1, al_old _ _ (by simp), al_new _ _ (by simp)]
  have q3 : w1.heap[w.heap.size + 2]? = some (.cells #[.slice none 0 0, .int .i64 0, .int .i64 0] 28) := by rw [hw1, al_new _ _ (by simp)]
  have hsz1 : w1.heap.size = w.heap.size + 3 := by rw [hw1]; simp
  have b1 : Below w.heap.size w w1 := by rw [hw1]; exact (((Below.refl _ _).alloc (Nat.le_refl _) _).alloc (by simp) _).alloc (by simp; omega) _
  have HB1 := hid b1
  have HQ3 := hid q3
  have HSZ1 := hid hsz1
  have a0 : w1.cell? ⟨w.heap.size, 0, none⟩ = some (.slice so na sc) := by rw [cell_of_row w1 w.heap.size 0 _ 28 (0, 0) q1]; rfl
  have a1 : w1.cell? ⟨w.heap.size, 1, none⟩ = some (.int .i64 sa) := by rw [cell_of_row w1 w.heap.size 1 _ 28 (0, 0) q1]; rfl
  have a2 : w1.cell? ⟨w.heap.size, 2, none⟩ = some (.int .i64 fa) := by rw [cell_of_row w1 w.heap.size 2 _ 28 (0, 0) q1]; rfl
  have b0 : w1.cell? ⟨w.heap.size + 1, 0, none⟩ = some (.slice to nb tc) := by rw [cell_of_row w1 (w.heap.size + 1) 0 _ 28 (0, 0) q2]; rfl
  have b1' : w1.cell? ⟨w.heap.size + 1, 1, none⟩ = some (.int .i64 sb) := by rw [cell_of_row w1 (w.heap.size + 1) 1 _ 28 (0, 0) q2]; rfl
  have b2 : w1.cell? ⟨w.heap.size + 1, 2, none⟩ = some (.int .i64 fb) := by rw [cell_of_row w1 (w.heap.size + 1) 2 _ 28 (0, 0) q2]; rfl
  have HC := hid (show (w1.cell? ⟨w.heap.size, 0, none⟩ = some (.slice so na sc) ∧ w1.cell? ⟨w.heap.size, 1, none⟩ = some (.int .i64 sa) ∧ w1.cell? ⟨w.heap.size, 2, none⟩ = some (.int .i64 fa)) ∧ w1.cell? ⟨w.heap.size + 1, 0, none⟩ = some (.slice to nb tc) ∧ w1.cell? ⟨w.heap.size + 1, 1, none⟩ = some (.int .i64 sb) ∧ w1.cell? ⟨w.heap.size + 1, 2, none⟩ = some (.int .i64 fb) from ⟨⟨a0, a1, a2⟩, b0, b1', b2⟩)
  clear hna hnb hsA hsB q1 q2 q3 hsz1 b1 hea hfa heb hfb a0 a1 a2 b0 b1' b2
  go_enter Tryd.func49, Tryd.ntmps49
  obtain ⟨⟨a0, a1, a2⟩, b0, b1, b2⟩ := HC.out
  rw [hw1] at a0 a1 a2 b0 b1 b2
  go_wp2_with fail
  rw [← hw1]
  clear a0 a1 a2 b0 b1 b2 hw1
  refine (rgood_any so sc na A sa fa w1 HNA.out (HSA.out.below HB1.out) (by unfold most; omega)).mono ?_
  rintro e w2 ⟨rfl, be_w2⟩
  have HB2 := hid be_w2
  clear be_w2
  have HBAD := hid (show ∀ W, Below w1.heap.size w1 W → W.heap[w.heap.size + 2]? = some (.cells #[.slice none 0 0, .int .i64 0, .int .i64 0] 28) ∧ Below w.heap.size w W from fun W h => ⟨by rw [h.block _ (by have := HSZ1.out; omega)]; exact HQ3.out, HB1.out.trans (h.mono HB1.out.size)⟩)
  rcases bool_cases (gdB A sa fa) with hGA | hGA
  · rw [hGA]
    obtain ⟨⟨a0, a1, a2⟩, b0, b1, b2⟩ := HC.out
    have a0 := cell_bl HB2.out a0
    have b0 := cell_bl HB2.out b0
    have b1 := cell_bl HB2.out b1
    have b2 := cell_bl HB2.out b2
    clear a1 a2
    go_wp2_with fail
    refine (rgood_any to tc nb B sb fb w2 HNB.out ((HSB.out.below HB1.out).below HB2.out) (by unfold most; omega)).mono ?_
    rintro e w3 ⟨rfl, be_w3⟩
    have HB3 := hid (HB2.out.trans (be_w3.mono HB2.out.size))
    clear be_w3 a0 b0 b1 b2
    rcases bool_cases (gdB B sb fb) with hGB | hGB
    · rw [hGB]
      have HOK := hid (show (gdB A sa fa && gdB B sb fb) = true by rw [hGA, hGB]; rfl)
      have HGA := hid (gdd_of hGA)
      have HGB := hid (gdd_of hGB)
      have sta := HGA.out.st
      have fia := HGA.out.fi
      have stb := HGB.out.st
      have fib := HGB.out.fi
      obtain ⟨sx, rfl⟩ : ∃ x : Nat, sa = (x : Int) := ⟨sa.toNat, by omega⟩
      obtain ⟨fx, rfl⟩ : ∃ x : Nat, fa = (x : Int) := ⟨fa.toNat, by omega⟩
      obtain ⟨sy, rfl⟩ : ∃ x : Nat, sb = (x : Int) := ⟨sb.toNat, by omega⟩
      obtain ⟨fy, rfl⟩ : ∃ x : Nat, fb = (x : Int) := ⟨fb.toNat, by omega⟩
      have HLT := hid (show sx < na ∧ fx < na ∧ sy < nb ∧ fy < nb by have h1 := HNA.out; have h2 := HNB.out; omega)
      clear hGA hGB sta fia stb fib HB2
      have hnn : ¬ (4096 : Int) < (na : Int) + (nb : Int) := by omega
      have hw0 : IntKind.i64.wrap ((na : Int) + (nb : Int)) = (na : Int) + (nb : Int) := by rw [IntKind.wrap_i64]; omega
      have hw2 : IntKind.i64.wrap ((na : Int) + (nb : Int) + 2) = (na : Int) + (nb : Int) + 2 := by rw [IntKind.wrap_i64]; omega
      obtain ⟨⟨a0, _, _⟩, b0, _, _⟩ := HC.out
      have a0 := cell_bl HB3.out a0
      have b0 := cell_bl HB3.out b0
      have HCW := hid (show ∀ W, Below w1.heap.size w1 W → (W.cell? ⟨w.heap.size, 0, none⟩ = some (.slice so na sc) ∧ W.cell? ⟨w.heap.size, 1, none⟩ = some (.int .i64 (sx : Int)) ∧ W.cell? ⟨w.heap.size, 2, none⟩ = some (.int .i64 (fx : Int))) ∧ W.cell? ⟨w.heap.size + 1, 0, none⟩ = some (.slice to nb tc) ∧ W.cell? ⟨w.heap.size + 1, 1, none⟩ = some (.int .i64 (sy : Int)) ∧ W.cell? ⟨w.heap.size + 1, 2, none⟩ = some (.int .i64 (fy : Int)) from fun W h => by
        obtain ⟨⟨h1, h2, h3⟩, h4, h5, h6⟩ := HC.out
        exact ⟨⟨cell_bl h h1, cell_bl h h2, cell_bl h h3⟩, cell_bl h h4, cell_bl h h5, cell_bl h h6⟩)
      have HSAW := hid (show ∀ W, Below w1.heap.size w1 W → RdS W so A from fun W h => (HSA.out.below HB1.out).below h)
      have HSBW := hid (show ∀ W, Below w1.heap.size w1 W → RdS W to B from fun W h => (HSB.out.below HB1.out).below h)
      have hBw : w.heap.size + 3 ≤ w3.heap.size := by have h1 := HSZ1.out; have h2 := HB3.out.size; omega
      have HBG := hid hBw
      clear HC hBw
      go_wp2_with fail
      clear a0 b0 hnn hw0 hw2
      have HBd := hid HB3.out.drew
      refine wp_region_mix [(0, true), (1, true), (3, true), (4, true), (5, true), (2, false), (6, false), (7, false), (8, false)] (fun w' => (w'.cell? ⟨w.heap.size, 0, none⟩ = some (.slice so na sc) ∧ w'.cell? ⟨w.heap.size, 1, none⟩ = some (.int .i64 (sx : Int)) ∧ w'.cell? ⟨w.heap.size, 2, none⟩ = some (.int .i64 (fx : Int))) ∧ w'.cell? ⟨w.heap.size + 1, 0, none⟩ = some (.slice to nb tc) ∧ w'.cell? ⟨w.heap.size + 1, 1, none⟩ = some (.int .i64 (sy : Int)) ∧ w'.cell? ⟨w.heap.size + 1, 2, none⟩ = some (.int .i64 (fy : Int))) (fun j => j == 8) (by kernel_rfl) (by kernel_rfl) (fun j hj => by have := beq_iff_eq.1 hj; subst this; decide) rfl (by kernel_rfl) (HCW.out _ HBd.out) ?_
      iterate 5 (refine mix_free ?_ rfl (by kernel_rfl) (fun w' hS => ?_) ?_; (rotate_left; (obtain ⟨⟨s1, s2, s3⟩, s4, s5, s6⟩ := hS; go_simp; with_reducible rfl); rotate_left))
      refine mix_go rfl (by kernel_rfl) fun KK hKK => ?_
      go_simp
      refine (moved_any so sc na A sx fx 0 w3.drew HNA.out (HSAW.out _ HBd.out) (by omega) HGA.out (by have := HEA.out; omega) (by have := HFA.out; omega) (by omega)).mono ?_
      rintro e w5 ⟨vo, vc, R5, rfl, hG5, be_w5⟩
      have HG5 := hid (show Gro w5 w3.heap.size (.slice vo na vc) na (mv (0 : Nat) A) R5 from hG5)
      have HB5 := hid (show Below w1.heap.size w1 w5 from HBd.out.trans (be_w5.mono HBd.out.size))
      have HS35 := hid (show w3.heap.size ≤ w5.heap.size from be_w5.size)
      refine hKK _ _ (fun _ => HCW.out _ HB5.out) ?_
      clear hKK KK hG5 be_w5
      refine mix_go rfl (by kernel_rfl) fun KK hKK => ?_
      go_simp
      refine (moved_any to tc nb B sy fy na w5 HNB.out (HSBW.out _ HB5.out) (by omega) HGB.out (by have := HEB.out; omega) (by have := HFB.out; omega) (by omega)).mono ?_
      rintro e w6 ⟨uo, uc, R6, rfl, hG6, be_w6⟩
      have HG6 := hid hG6
      have HB56 := hid be_w6
      have HB6 := hid (show Below w1.heap.size w1 w6 from HB5.out.trans (be_w6.mono HB5.out.size))
      refine hKK _ _ (fun _ => HCW.out _ HB6.out) ?_
      clear hKK KK hG6 be_w6
      refine mix_go rfl (by kernel_rfl) fun KK hKK => ?_
      refine wp_append_states (w0 := w5) _ _ rfl w3.heap.size w5.heap.size na nb vo uo vc uc (mv (0 : Nat) A) (mv (na : Nat) B) R5 R6 rfl rfl HG5.out HG6.out HS35.out (Nat.le_refl _) HB56.out (by have := HLT.out; omega) (by omega) ?_
      intro g gc w7 hG7 gr7 hl7
      obtain ⟨k3, hk3⟩ : ∃ k, k = na + nb := ⟨_, rfl⟩
      rw [← hk3] at hG7 ⊢
      have HB7 := hid (show Below w1.heap.size w1 w7 from HB6.out.trans ⟨gr7.os, gr7.tape, gr7.output, gr7.size, fun k hk => gr7.block k (by have h1 := HB6.out.size; omega) (fun e => by
        have h1 := (HG5.out.row.lt k e.symm).1
        have h2 := HB3.out.size
        omega)⟩)
      have HG7 := hid hG7
      have HK3 := hid hk3
      refine hKK _ _ (fun _ => HCW.out _ HB7.out) ?_
      clear hKK KK hG7 gr7 hl7 HG5 HG6 HB56 HB5 HB6 hk3
      refine mix_go rfl (by kernel_rfl) fun KK hKK => ?_
      go_simp
      refine hKK _ _ (fun h => by cases h) ?_
      clear hKK KK
      refine mix_end (NoPanic.normal ?_)
      obtain ⟨x2, hx2⟩ : ∃ x : Nat, x = na + sy := ⟨_, rfl⟩
      obtain ⟨x3, hx3⟩ : ∃ x : Nat, x = na + fy := ⟨_, rfl⟩
      have e2 : IntKind.i64.wrap ((sy : Int) + (na : Int)) = (x2 : Int) := by rw [IntKind.wrap_i64]; have h1 := HLT.out; omega
      have e4 : IntKind.i64.wrap ((fy : Int) + (na : Int)) = (x3 : Int) := by rw [IntKind.wrap_i64]; have h1 := HLT.out; omega
      have HX := hid (show x2 = na + sy ∧ x3 = na + fy from ⟨hx2, hx3⟩)
      clear hx2 hx3
      have hfk : fx < k3 := by have h1 := HLT.out; have h2 := HK3.out; omega
      have f0' : (0 : Int) ≤ (fx : Int) := by omega
      have f1' : (fx : Int) < (k3 : Int) := by omega
      obtain ⟨⟨a0, a1, a2⟩, b0, b1, b2⟩ := HCW.out _ HB7.out
      obtain ⟨E6, F6, hM, hF⟩ := frees_in (M := mv (0 : Nat) A ++ mv (na : Nat) B) (t := fx) (k := 200000) (by have h1 := HG7.out.len; omega) (by have h1 := HFA.out; have h2 := HFB.out; rw [fS_app, fS_mv, fS_mv]; omega) (by omega)
      obtain ⟨_, _, ho, hc, _, _, r1, _, _, oF, _, y1⟩ := HG7.out.at hM
      obtain ⟨gn, hgn⟩ : ∃ gn, gn = F6.length := ⟨_, rfl⟩
      rw [← hgn] at y1 oF hF r1
      have HM := hid hM
      have HR1 := hid r1
      have HOF := hid oF
      have HGN := hid hgn
      have hgs : g < w7.heap.size := (HG7.out.lts.1 g rfl).2
      have hBs : w3.heap.size ≤ w7.heap.size := by have := (HG7.out.lts.1 g rfl).1; omega
      have HFO := hid (show ∀ k, (Value.slice ho gn hc).ownBlock = some k → k ≠ g ∧ k < w7.heap.size ∧ w3.heap.size ≤ k from fun k hk => ⟨fun e => HG7.out.off _ (List.mem_of_getElem? r1) k hk (by rw [e]; rfl), (oF.lt k hk).2, (oF.lt k hk).1⟩)
      have hp31 : w.heap.size + 3 ≤ w3.heap.size := HBG.out
      clear hM r1 oF hgn a0 a1 b0 b2
      go_wp2_with fail
      refine wp_region_mix [(0, true), (1, true), (2, true), (3, true), (4, true), (5, true), (6, true), (7, true), (8, true), (9, true), (10, true), (11, true), (12, true), (13, false), (14, false), (15, false), (16, true), (17, false)] (fun w' => w'.cell? ⟨w.heap.size, 2, none⟩ = some (.int .i64 (fx : Int)) ∧ w'.cell? ⟨w.heap.size + 1, 1, none⟩ = some (.int .i64 (sy : Int)) ∧ w'.cell? ⟨g, fx * 2 + 1, none⟩ = some (.slice ho gn hc)) (fun j => j == 17) (by kernel_rfl) (by kernel_rfl) (fun j hj => by have := beq_iff_eq.1 hj; subst this; decide) rfl (by kernel_rfl) ⟨a2, b1, y1⟩ ?_
      iterate 13 (refine mix_free ?_ rfl (by kernel_rfl) (fun w' hS => ?_) ?_; (rotate_left; (obtain ⟨s1, s2, s3⟩ := hS; go_simp; with_reducible rfl); rotate_left))
      refine mix_go rfl (by kernel_rfl) fun KK hKK => ?_
      go_simp
      refine hKK _ _ (fun _ => ⟨cell_al a2, cell_al b1, cell_al y1⟩) ?_
      clear hKK KK
      refine mix_go rfl (by kernel_rfl) fun KK hKK => ?_
      refine wp_append_lies _ _ _ 22 rfl w3.heap.size 3 i3x (.int .i64 0) 1 8 Tryd.underlying22 hi3 hz0 hz1' hz2 rfl (by decide) (.slice ho gn hc) gn (i64s F6) rfl (HOF.out.alloc _).drew ⟨w7.heap.size, 0, none⟩ 1 1 [.int .i64 (x2 : Int)] rfl rfl (news1 w7 _ 3) (fun u hu => by simp at hu; rw [hu]; rfl) (by decide) (by unfold maxLen; omega) (by omega) (by show w3.heap.size ≤ (w7.alloc _).heap.size; simp; omega) (w7.heap.size + 1) (by show (w7.alloc _).heap.size = _; simp) ?_
      intro q qc w8 o8 gr8 hl8 hlt8
      have hs8 : w7.heap.size + 1 ≤ w8.heap.size := by
        have h : (w7.alloc (.cells #[.int .i64 (x2 : Int)] 3)).heap.size ≤ w8.heap.size := gr8.size
        simpa using h
      have hblk8 : ∀ b, b < w7.heap.size → (Value.slice ho gn hc).ownBlock ≠ some b → w8.heap[b]? = w7.heap[b]? := fun b hb hne => (gr8.block b (by show b < (w7.alloc _).heap.size; simp; omega) (fun e => hne e.symm)).trans (al_old w7 _ hb)
      have hg8 : w8.heap[g]? = w7.heap[g]? := hblk8 g hgs fun e => (HFO.out g e).1 rfl
      have v8 : w8.cell? ⟨g, fx * 2 + 1, none⟩ = some (.slice ho gn hc) := (World.cell?_of_block hg8).trans y1
      have x8 : w8.cell? ⟨w.heap.size, 2, none⟩ = some (.int .i64 (fx : Int)) := (World.cell?_of_block (hblk8 w.heap.size (World.block_lt_of_cell? w7 _ a2) (fun e => by have := (HFO.out _ e).2.2; omega))).trans a2
      have z8 : w8.cell? ⟨w.heap.size + 1, 1, none⟩ = some (.int .i64 (sy : Int)) := (World.cell?_of_block (hblk8 (w.heap.size + 1) (World.block_lt_of_cell? w7 _ b1) (fun e => by have := (HFO.out _ e).2.2; omega))).trans b1
      have orow : w8.ownsRow w3.heap.size 86 2 (.slice (some ⟨g, 0, none⟩) k3 gc) k3 _ := own_same HG7.out.row fun k hk _ => by
        have e : g = k := Option.some.inj hk
        rw [← e]; exact hg8
      have fz := orow.frozenAt (fx * 2 + 1)
      refine hKK _ _ (fun _ => ⟨x8, z8, v8⟩) ?_
      clear hKK KK
      refine mix_go rfl (by kernel_rfl) fun KK hKK => ?_
      go_simp
      refine hKK _ _ (fun _ => ⟨x8, z8, v8⟩) ?_
      clear hKK KK
      refine mix_free ?_ rfl (by kernel_rfl) (fun w' hS => ?_) ?_; (rotate_left; (obtain ⟨s1, s2, s3⟩ := hS; go_simp; with_reducible rfl); rotate_left)
      have HO8 := hid o8
      have HROW := hid orow
      have HB8 := hid hblk8
      have HS8 := hid hs8
      have HL8 := hid hl8
      have HT8 := hid (show w8.os = w7.os ∧ w8.tape = w7.tape ∧ w8.output = w7.output from ⟨gr8.os, gr8.tape, gr8.output⟩)
      clear o8 gr8 hl8 hlt8 hs8 hblk8 orow hg8
      refine mix_go rfl (by kernel_rfl) fun KK hKK => ?_
      go_simp
      refine hKK _ _ (fun h => by cases h) ?_
      clear hKK KK
      refine mix_end (NoPanic.normal ?_)
      obtain ⟨w9, hw9⟩ : ∃ W, W = w8.setCell ⟨g, fx * 2 + 1, none⟩ (.slice (some ⟨q, 0, none⟩) (gn + 1) qc) := ⟨_, rfl⟩
      have hst := HROW.out.stored (fx * 2 + 1) (.slice (some ⟨q, 0, none⟩) (gn + 1) qc)
      have hset : ∀ b, b ≠ g → (w8.setCell ⟨g, fx * 2 + 1, none⟩ (.slice (some ⟨q, 0, none⟩) (gn + 1) qc)).heap[b]? = w8.heap[b]? := fun b hb => heap_setCell_other w8 ⟨g, fx * 2 + 1, none⟩ b _ (fun e => hb e)
      have hss : (w8.setCell ⟨g, fx * 2 + 1, none⟩ (.slice (some ⟨q, 0, none⟩) (gn + 1) qc)).heap.size = w8.heap.size := by simp
      rw [← hw9] at hst hset hss
      have HT9 := hid (show w9.os = w7.os ∧ w9.tape = w7.tape ∧ w9.output = w7.output from by rw [hw9]; exact HT8.out)
      have hs8 := HS8.out
      have hv : ∀ b, (Value.slice (some ⟨q, 0, none⟩) (gn + 1) qc).ownBlock = some b → (Value.slice ho gn hc).ownBlock = some b ∨ w7.heap.size ≤ b := fun b hb => by
        have e : q = b := Option.some.inj hb
        rcases HL8.out with h | h
        · exact .inl (e ▸ h)
        · exact .inr (by omega)
      have hk' : ∀ k, k < w7.heap.size → (Value.slice (some ⟨g, 0, none⟩) k3 gc).ownBlock ≠ some k → (Value.slice ho gn hc).ownBlock ≠ some k → w9.heap[k]? = w7.heap[k]? := fun k hk h1 h2 => (hset k (fun e => h1 (by rw [e]; rfl))).trans (HB8.out k hk h2)
      have hs9 : w7.heap.size ≤ w9.heap.size := by rw [hss]; omega
      have hqg : q ≠ g := fun e => by
        rcases HL8.out with h | h
        · exact (HFO.out q h).1 e
        · omega
      obtain ⟨R9, hR9⟩ : ∃ R9, R9 = (R5 ++ R6).set (fx * 2 + 1) (.slice (some ⟨q, 0, none⟩) (gn + 1) qc) := ⟨_, rfl⟩
      have HG9 := hid (show Gro w9 w3.heap.size (.slice (some ⟨g, 0, none⟩) k3 gc) k3 (adF (mv (0 : Nat) A ++ mv (na : Nat) B) fx (x2 : Int)) R9 from by
        rw [hR9]
        refine HG7.out.addF HM.out HR1.out hs9 hk' hst.1 hv ?_
        rw [← HGN.out]
        exact own_same HO8.out fun b hb _ => hset b (by have e : q = b := Option.some.inj hb; omega))
      have HB9 := hid (show Below w1.heap.size w1 w9 from HB7.out.trans ((Gst.put (R := R5 ++ R6) (w' := w9) HR1.out HT9.out.1 HT9.out.2.1 HT9.out.2.2 hs9 hk' hv).low HG7.out hBs |>.mono HB3.out.size))
      rw [← hw9]
      have HGS := hid hgs
      clear hst hset hss hs8 hv hk' hs9 hqg hw9 HG7 HB7 a2 b1 y1 x8 z8 v8 fz hgs hBs hR9
      obtain ⟨⟨a0, a1, a2⟩, b0, b1, b2⟩ := HCW.out _ HB9.out
      obtain ⟨hz1, hbw⟩ := HBAD.out _ HB9.out
      have z0 := frozen_of_row w9 (w.heap.size + 2) 0 _ 28 hz1
      have z1 := frozen_of_row w9 (w.heap.size + 2) 1 _ 28 hz1
      have z2 := frozen_of_row w9 (w.heap.size + 2) 2 _ 28 hz1
      have y0 : w9.cell? ⟨w.heap.size + 2, 0, none⟩ = some (.slice none 0 0) := by rw [cell_of_row w9 (w.heap.size + 2) 0 _ 28 (0, 0) hz1]; rfl
      have y1 : w9.cell? ⟨w.heap.size + 2, 1, none⟩ = some (.int .i64 0) := by rw [cell_of_row w9 (w.heap.size + 2) 1 _ 28 (0, 0) hz1]; rfl
      have y2 : w9.cell? ⟨w.heap.size + 2, 2, none⟩ = some (.int .i64 0) := by rw [cell_of_row w9 (w.heap.size + 2) 2 _ 28 (0, 0) hz1]; rfl
      have HR := hid hz1
      have HBW := hid hbw
      clear hz1 hbw a0 a2 b0 b1 e2
      go_wp2
      (try simp only [Exit.inBlock, Exit.then])
      have e1 := heap_setCell_same w9 (w.heap.size + 2) 0 _ 28 (.slice (some ⟨g, 0, none⟩) k3 gc) HR.out
      have e2 := heap_setCell_same _ (w.heap.size + 2) 1 _ 28 (.int .i64 (sx : Int)) e1
      have e3 := heap_setCell_same _ (w.heap.size + 2) 2 _ 28 (.int .i64 (x3 : Int)) e2
      refine bodyPost_ret (results_cell_row rfl _ _ (w.heap.size + 2) 28 #[(.slice (some ⟨g, 0, none⟩) k3 gc), .int .i64 (sx : Int), .int .i64 (x3 : Int)] (0, 0) _ rfl e3 Tryd.underlying28 rfl (by kernel_rfl)) rfl ?_
      have hoth : ∀ b, b ≠ w.heap.size + 2 → (((w9.setCell ⟨w.heap.size + 2, 0, none⟩ (.slice (some ⟨g, 0, none⟩) k3 gc)).setCell ⟨w.heap.size + 2, 1, none⟩ (.int .i64 (sx : Int))).setCell ⟨w.heap.size + 2, 2, none⟩ (.int .i64 (x3 : Int))).heap[b]? = w9.heap[b]? := fun b hb => by
        rw [heap_setCell_other _ ⟨w.heap.size + 2, 2, none⟩ b _ (fun e => hb e), heap_setCell_other _ ⟨w.heap.size + 2, 1, none⟩ b _ (fun e => hb e), heap_setCell_other _ ⟨w.heap.size + 2, 0, none⟩ b _ (fun e => hb e)]
      have hfin : Below w.heap.size w (((w9.setCell ⟨w.heap.size + 2, 0, none⟩ (.slice (some ⟨g, 0, none⟩) k3 gc)).setCell ⟨w.heap.size + 2, 1, none⟩ (.int .i64 (sx : Int))).setCell ⟨w.heap.size + 2, 2, none⟩ (.int .i64 (x3 : Int))) := HBW.out.trans ⟨rfl, rfl, rfl, by simp, fun b hb => hoth b (by omega)⟩
      have hJ : adF (mv (0 : Nat) A ++ mv (na : Nat) B) fx (x2 : Int) = thn A fx B sy := by
        rw [HNA.out]
        exact thn_eq rfl (by rw [HX.out.1, HNA.out])
      refine ⟨w3.heap.size, _, _, _, _, R9, (sx : Int), (x3 : Int), rfl, ⟨fun _ => ⟨hJ, rfl, by have h1 := HX.out.2; have h3 := HNA.out; omega⟩, fun h => (by rw [HOK.out] at h; cases h)⟩, by omega, (by have h : w3.heap.size ≤ w9.heap.size := (by have h1 := (HG9.out.lts.1 g rfl); omega); simpa using h), ?_, hfin⟩
      exact HG9.out.keep2 (by simp) fun k hk _ => hoth k (by omega)
    · rw [hGB]
      obtain ⟨hz1, hbw⟩ := HBAD.out _ HB3.out
      have z0 := frozen_of_row w3 (w.heap.size + 2) 0 _ 28 hz1
      have z1 := frozen_of_row w3 (w.heap.size + 2) 1 _ 28 hz1
      have z2 := frozen_of_row w3 (w.heap.size + 2) 2 _ 28 hz1
      have y0 : w3.cell? ⟨w.heap.size + 2, 0, none⟩ = some (.slice none 0 0) := by rw [cell_of_row w3 (w.heap.size + 2) 0 _ 28 (0, 0) hz1]; rfl
      have y1 : w3.cell? ⟨w.heap.size + 2, 1, none⟩ = some (.int .i64 0) := by rw [cell_of_row w3 (w.heap.size + 2) 1 _ 28 (0, 0) hz1]; rfl
      have y2 : w3.cell? ⟨w.heap.size + 2, 2, none⟩ = some (.int .i64 0) := by rw [cell_of_row w3 (w.heap.size + 2) 2 _ 28 (0, 0) hz1]; rfl
      have HR := hid hz1
      have HBW := hid hbw
      have HGB := hid (show (gdB A sa fa && gdB B sb fb) = false by rw [hGA, hGB]; rfl)
      clear hz1 hbw
      go_wp2
      (try simp only [Exit.inBlock, Exit.then])
      have e1 := heap_setCell_same w3 (w.heap.size + 2) 0 _ 28 (.slice none 0 0) HR.out
      have e2 := heap_setCell_same _ (w.heap.size + 2) 1 _ 28 (.int .i64 0) e1
      have e3 := heap_setCell_same _ (w.heap.size + 2) 2 _ 28 (.int .i64 0) e2
      refine bodyPost_ret (results_cell_row rfl _ _ (w.heap.size + 2) 28 #[.slice none 0 0, .int .i64 0, .int .i64 0] (0, 0) _ rfl e3 Tryd.underlying28 rfl (by kernel_rfl)) rfl ?_
      have hfin : Below w.heap.size w (((w3.setCell ⟨w.heap.size + 2, 0, none⟩ (.slice none 0 0)).setCell ⟨w.heap.size + 2, 1, none⟩ (.int .i64 0)).setCell ⟨w.heap.size + 2, 2, none⟩ (.int .i64 0)) := HBW.out.trans ⟨rfl, rfl, rfl, by simp, fun b hb => by
        rw [heap_setCell_other _ ⟨w.heap.size + 2, 2, none⟩ b _ (fun e => by have e' : b = w.heap.size + 2 := e; omega), heap_setCell_other _ ⟨w.heap.size + 2, 1, none⟩ b _ (fun e => by have e' : b = w.heap.size + 2 := e; omega), heap_setCell_other _ ⟨w.heap.size + 2, 0, none⟩ b _ (fun e => by have e' : b = w.heap.size + 2 := e; omega)]⟩
      exact ⟨w.heap.size, none, 0, 0, [], [], 0, 0, rfl, ⟨fun h => (by rw [HGB.out] at h; cases h), fun _ => ⟨rfl, rfl, rfl⟩⟩, Nat.le_refl _, hfin.size, Gro.nil _ _, hfin⟩
  · rw [hGA]
    obtain ⟨hz1, hbw⟩ := HBAD.out _ HB2.out
    have z0 := frozen_of_row w2 (w.heap.size + 2) 0 _ 28 hz1
    have z1 := frozen_of_row w2 (w.heap.size + 2) 1 _ 28 hz1
    have z2 := frozen_of_row w2 (w.heap.size + 2) 2 _ 28 hz1
    have y0 : w2.cell? ⟨w.heap.size + 2, 0, none⟩ = some (.slice none 0 0) := by rw [cell_of_row w2 (w.heap.size + 2) 0 _ 28 (0, 0) hz1]; rfl
    have y1 : w2.cell? ⟨w.heap.size + 2, 1, none⟩ = some (.int .i64 0) := by rw [cell_of_row w2 (w.heap.size + 2) 1 _ 28 (0, 0) hz1]; rfl
    have y2 : w2.cell? ⟨w.heap.size + 2, 2, none⟩ = some (.int .i64 0) := by rw [cell_of_row w2 (w.heap.size + 2) 2 _ 28 (0, 0) hz1]; rfl
    have HR := hid hz1
    have HBW := hid hbw
    have HGB := hid (show (gdB A sa fa && gdB B sb fb) = false by rw [hGA]; rfl)
    clear hz1 hbw
    go_wp2
    (try simp only [Exit.inBlock, Exit.then])
    have e1 := heap_setCell_same w2 (w.heap.size + 2) 0 _ 28 (.slice none 0 0) HR.out
    have e2 := heap_setCell_same _ (w.heap.size + 2) 1 _ 28 (.int .i64 0) e1
    have e3 := heap_setCell_same _ (w.heap.size + 2) 2 _ 28 (.int .i64 0) e2
    refine bodyPost_ret (results_cell_row rfl _ _ (w.heap.size + 2) 28 #[.slice none 0 0, .int .i64 0, .int .i64 0] (0, 0) _ rfl e3 Tryd.underlying28 rfl (by kernel_rfl)) rfl ?_
    have hfin : Below w.heap.size w (((w2.setCell ⟨w.heap.size + 2, 0, none⟩ (.slice none 0 0)).setCell ⟨w.heap.size + 2, 1, none⟩ (.int .i64 0)).setCell ⟨w.heap.size + 2, 2, none⟩ (.int .i64 0)) := HBW.out.trans ⟨rfl, rfl, rfl, by simp, fun b hb => by
      rw [heap_setCell_other _ ⟨w.heap.size + 2, 2, none⟩ b _ (fun e => by have e' : b = w.heap.size + 2 := e; omega), heap_setCell_other _ ⟨w.heap.size + 2, 1, none⟩ b _ (fun e => by have e' : b = w.heap.size + 2 := e; omega), heap_setCell_other _ ⟨w.heap.size + 2, 0, none⟩ b _ (fun e => by have e' : b = w.heap.size + 2 := e; omega)]⟩
    exact ⟨w.heap.size, none, 0, 0, [], [], 0, 0, rfl, ⟨fun h => (by rw [HGB.out] at h; cases h), fun _ => ⟨rfl, rfl, rfl⟩⟩, Nat.le_refl _, hfin.size, Gro.nil _ _, hfin⟩
end Go.Proofs.YteacehfihogmpaaDoor
/- The contract of Or (the document's). -/
namespace Go.Proofs.YteacehfihogmpaaDoor
open Go.RowKit

theorem Gro.lit {w : World} {B p q : Nat} {x y : Int} (hp : w.heap[p]? = some (.cells #[.slice none 0 0, .slice (some ⟨q, 0, none⟩) 2 2] 86)) (hq : w.heap[q]? = some (.cells #[.int .i64 x, .int .i64 y] 3)) (hB : B ≤ p) (hBq : B ≤ q) (hne : q ≠ p) : Gro w B (.slice (some ⟨p, 0, none⟩) 1 1) 1 [([], [x, y])] [.slice none 0 0, .slice (some ⟨q, 0, none⟩) 2 2] := by
  have hown : ∀ {i : Nat} {v : Value} {b : Nat}, [Value.slice none 0 0, .slice (some ⟨q, 0, none⟩) 2 2][i]? = some v → v.ownBlock = some b → i = 1 ∧ b = q := fun {i v b} hi hb => by
    match i, hi with
    | 0, hi => cases hi; cases hb
    | 1, hi => cases hi; exact ⟨rfl, (Option.some.inj hb).symm⟩
    | n + 2, hi => simp at hi
  refine ⟨rfl, ⟨rfl, .inr ⟨p, 1, _, rfl, hB, hp, Nat.le_refl _, by decide, rfl, rfl⟩⟩, fun v hv b hb e => ?_, fun i j u v b hu hv hbu hbv => ?_, fun t s hs => ?_, fun t s hs => ?_⟩
  · obtain ⟨i, hi⟩ := List.mem_iff_getElem?.1 hv
    have h1 := (hown hi hb).2
    have h2 : p = b := Option.some.inj e
    omega
  · rw [(hown hu hbu).1, (hown hv hbv).1]
  · match t, hs with
    | 0, hs =>
      cases hs
      exact ⟨_, rfl, [], World.ownsRow_nil _ _ _ _, fun j g hg => by simp at hg⟩
    | n + 1, hs => simp at hs
  · match t, hs with
    | 0, hs =>
      cases hs
      exact ⟨_, rfl, rfl, .inr ⟨q, 2, _, rfl, hBq, hq, Nat.le_refl _, by decide, rfl, rfl⟩⟩
    | n + 1, hs => simp at hs
theorem orr_eq {A B : List St} {sa fa sb fb x1 x2 q1 q2 l k2 : Nat} (h2 : k2 = 1 + A.length) (e1 : x1 = 1 + sa) (e2 : x2 = k2 + sb) (e3 : q1 = 1 + fa) (e4 : q2 = k2 + fb) (e5 : l = k2 + B.length) :
    adF (adF ([([], [(x1 : Int), (x2 : Int)])] ++ mv (1 : Nat) A ++ mv (k2 : Nat) B ++ [([], [])]) q1 (l : Int)) q2 (l : Int) = orl A sa fa B sb fb := (or_eq (sa := sa) (fa := fa) (sb := sb) (fb := fb) h2 e1 e2 e3 e4 e5).symm ▸ rfl
set_option maxHeartbeats 64000000 in
set_option maxRecDepth 100000 in
theorem ror_any (so to : Option Addr) (sc tc na nb : Nat) (A B : List St) (sa fa sb fb : Int) (w : World) (hna : na = A.length) (hnb : nb = B.length) (hsA : RdS w so A) (hsB : RdS w to B) (hla : na ≤ 1000) (hlb : nb ≤ 1000) (hea : eS A ≤ 100000) (hfa : fS A ≤ 100000) (heb : eS B ≤ 100000) (hfb : fS B ≤ 100000) :
    Calls Tryd.prog 48 #[.agg #[.slice so na sc, .int .i64 sa, .int .i64 fa], .agg #[.slice to nb tc, .int .i64 sb, .int .i64 fb]] w fun e w' => JnQ w (gdB A sa fa && gdB B sb fb) (orl A sa fa B sb fb) 0 (1 + A.length + B.length) e w' := by
  obtain ⟨i3x, hi3, hz0, hz1', hz2⟩ := info_parts Tryd.info3
  obtain ⟨i86, hi86, hs0, hs1, hs2⟩ := info_parts Tryd.info86
  have HNA := hid hna
  have HNB := hid hnb
  have HSA := hid hsA
  have HSB := hid hsB
  have HEA := hid hea
  have HFA := hid hfa
  have HEB := hid heb
  have HFB := hid hfb
  obtain ⟨w1, hw1⟩ : ∃ w1, w1 = ((w.alloc (.cells #[.slice so na sc, .int .i64 sa, .int .i64 fa] 28)).alloc (.cells #[.slice to nb tc, .int .i64 sb, .int .i64 fb] 28)).alloc (.cells #[.slice none 0 0, .int .i64 0, .int .i64 0] 28) := ⟨_, rfl⟩
  have q1 : w1.heap[w.heap.size]? = some (.cells #[.slice so na sc, .int .i64 sa, .int .i64 fa] 28) := by rw [hw1, al_old _ _ (by simp; omega), al_old _ _ (by simp), al_new _ _ rfl]
  have q2 : w1.heap[w.heap.size + 1]? = some (.cells #[.slice to nb tc, .int .i64 sb, .int .i64 fb] 28) := by rw [hw1, al_old _ _ (by simp), al_new _ _ (by simp)]
  have q3 : w1.heap[w.heap.size + 2]? = some (.cells #[.slice none 0 0, .int .i64 0, .int .i64 0] 28) := by rw [hw1, al_new _ _ (by simp)]
  have hsz1 : w1.heap.size = w.heap.size + 3 := by rw [hw1]; simp
  have b1 : Below w.heap.size w w1 := by rw [hw1]; exact (((Below.refl _ _).alloc (Nat.le_refl _) _).alloc (by simp) _).alloc (by simp; omega) _
  have HB1 := hid b1
  have HQ3 := hid q3
  have HSZ1 := hid hsz1
  have a0 : w1.cell? ⟨w.heap.size, 0, none⟩ = some (.slice so na sc) := by rw [cell_of_row w1 w.heap.size 0 _ 28 (0, 0) q1]; rfl
  have a1 : w1.cell? ⟨w.heap.size, 1, none⟩ = some (.int .i64 sa) := by rw [cell_of_row w1 w.heap.size 1 _ 28 (0, 0) q1]; rfl
  have a2 : w1.cell? ⟨w.heap.size, 2, none⟩ = some (.int .i64 fa) := by rw [cell_of_row w1 w.heap.size 2 _ 28 (0, 0) q1]; rfl
  have b0 : w1.cell? ⟨w.heap.size + 1, 0, none⟩ = some (.slice to nb tc) := by rw [cell_of_row w1 (w.heap.size + 1) 0 _ 28 (0, 0) q2]; rfl
  have b1' : w1.cell? ⟨w.heap.size + 1, 1, none⟩ = some (.int .i64 sb) := by rw [cell_of_row w1 (w.heap.size + 1) 1 _ 28 (0, 0) q2]; rfl
  have b2 : w1.cell? ⟨w.heap.size + 1, 2, none⟩ = some (.int .i64 fb) := by rw [cell_of_row w1 (w.heap.size + 1) 2 _ 28 (0, 0) q2]; rfl
  have HC := hid (show (w1.cell? ⟨w.heap.size, 0, none⟩ = some (.slice so na sc) ∧ w1.cell? ⟨w.heap.size, 1, none⟩ = some (.int .i64 sa) ∧ w1.cell? ⟨w.heap.size, 2, none⟩ = some (.int .i64 fa)) ∧ w1.cell? ⟨w.heap.size + 1, 0, none⟩ = some (.slice to nb tc) ∧ w1.cell? ⟨w.heap.size + 1, 1, none⟩ = some (.int .i64 sb) ∧ w1.cell? ⟨w.heap.size + 1, 2, none⟩ = some (.int .i64 fb) from ⟨⟨a0, a1, a2⟩, b0, b1', b2⟩)
  clear hna hnb hsA hsB q1 q2 q3 hsz1 b1 hea hfa heb hfb a0 a1 a2 b0 b1' b2
  go_enter Tryd.func48, Tryd.ntmps48
  obtain ⟨⟨a0, a1, a2⟩, b0, b1, b2⟩ := HC.out
  rw [hw1] at a0 a1 a2 b0 b1 b2
  go_wp2_with fail
  rw [← hw1]
  clear a0 a1 a2 b0 b1 b2 hw1
  refine (rgood_any so sc na A sa fa w1 HNA.out (HSA.out.below HB1.out) (by unfold most; omega)).mono ?_
  rintro e w2 ⟨rfl, be_w2⟩
  have HB2 := hid be_w2
  clear be_w2
  have HBAD := hid (show ∀ W, Below w1.heap.size w1 W → W.heap[w.heap.size + 2]? = some (.cells #[.slice none 0 0, .int .i64 0, .int .i64 0] 28) ∧ Below w.heap.size w W from fun W h => ⟨by rw [h.block _ (by have := HSZ1.out; omega)]; exact HQ3.out, HB1.out.trans (h.mono HB1.out.size)⟩)
  rcases bool_cases (gdB A sa fa) with hGA | hGA
  · rw [hGA]
    obtain ⟨⟨a0, a1, a2⟩, b0, b1, b2⟩ := HC.out
    have a0 := cell_bl HB2.out a0
    have b0 := cell_bl HB2.out b0
    have b1 := cell_bl HB2.out b1
    have b2 := cell_bl HB2.out b2
    clear a1 a2
    go_wp2_with fail
    refine (rgood_any to tc nb B sb fb w2 HNB.out ((HSB.out.below HB1.out).below HB2.out) (by unfold most; omega)).mono ?_
    rintro e w3 ⟨rfl, be_w3⟩
    have HB3 := hid (HB2.out.trans (be_w3.mono HB2.out.size))
    clear be_w3 a0 b0 b1 b2
    rcases bool_cases (gdB B sb fb) with hGB | hGB
    · rw [hGB]
      have HOK := hid (show (gdB A sa fa && gdB B sb fb) = true by rw [hGA, hGB]; rfl)
      have HGA := hid (gdd_of hGA)
      have HGB := hid (gdd_of hGB)
      have sta := HGA.out.st
      have fia := HGA.out.fi
      have stb := HGB.out.st
      have fib := HGB.out.fi
      obtain ⟨sx, rfl⟩ : ∃ x : Nat, sa = (x : Int) := ⟨sa.toNat, by omega⟩
      obtain ⟨fx, rfl⟩ : ∃ x : Nat, fa = (x : Int) := ⟨fa.toNat, by omega⟩
      obtain ⟨sy, rfl⟩ : ∃ x : Nat, sb = (x : Int) := ⟨sb.toNat, by omega⟩
      obtain ⟨fy, rfl⟩ : ∃ x : Nat, fb = (x : Int) := ⟨fb.toNat, by omega⟩
      have HLT := hid (show sx < na ∧ fx < na ∧ sy < nb ∧ fy < nb by have h1 := HNA.out; have h2 := HNB.out; omega)
      clear hGA hGB sta fia stb fib HB2
      have hnn : ¬ (4096 : Int) < (na : Int) + (nb : Int) + 2 := by omega
      have hw0 : IntKind.i64.wrap ((na : Int) + (nb : Int)) = (na : Int) + (nb : Int) := by rw [IntKind.wrap_i64]; omega
      have hw2 : IntKind.i64.wrap ((na : Int) + (nb : Int) + 2) = (na : Int) + (nb : Int) + 2 := by rw [IntKind.wrap_i64]; omega
      obtain ⟨⟨a0, _, _⟩, b0, _, _⟩ := HC.out
      have a0 := cell_bl HB3.out a0
      have b0 := cell_bl HB3.out b0
      have HCW := hid (show ∀ W, Below w1.heap.size w1 W → (W.cell? ⟨w.heap.size, 0, none⟩ = some (.slice so na sc) ∧ W.cell? ⟨w.heap.size, 1, none⟩ = some (.int .i64 (sx : Int)) ∧ W.cell? ⟨w.heap.size, 2, none⟩ = some (.int .i64 (fx : Int))) ∧ W.cell? ⟨w.heap.size + 1, 0, none⟩ = some (.slice to nb tc) ∧ W.cell? ⟨w.heap.size + 1, 1, none⟩ = some (.int .i64 (sy : Int)) ∧ W.cell? ⟨w.heap.size + 1, 2, none⟩ = some (.int .i64 (fy : Int)) from fun W h => by
        obtain ⟨⟨h1, h2, h3⟩, h4, h5, h6⟩ := HC.out
        exact ⟨⟨cell_bl h h1, cell_bl h h2, cell_bl h h3⟩, cell_bl h h4, cell_bl h h5, cell_bl h h6⟩)
      have HSAW := hid (show ∀ W, Below w1.heap.size w1 W → RdS W so A from fun W h => (HSA.out.below HB1.out).below h)
      have HSBW := hid (show ∀ W, Below w1.heap.size w1 W → RdS W to B from fun W h => (HSB.out.below HB1.out).below h)
      have hBw : w.heap.size + 3 ≤ w3.heap.size := by have h1 := HSZ1.out; have h2 := HB3.out.size; omega
      have HBG := hid hBw
      clear hBw
      obtain ⟨k2, hk2⟩ : ∃ x : Nat, x = 1 + na := ⟨_, rfl⟩
      obtain ⟨k3, hk3⟩ : ∃ x : Nat, x = k2 + nb := ⟨_, rfl⟩
      obtain ⟨x1, hx1⟩ : ∃ x : Nat, x = 1 + sx := ⟨_, rfl⟩
      obtain ⟨x2, hx2⟩ : ∃ x : Nat, x = k2 + sy := ⟨_, rfl⟩
      obtain ⟨q1, hq1⟩ : ∃ x : Nat, x = 1 + fx := ⟨_, rfl⟩
      obtain ⟨q2, hq2⟩ : ∃ x : Nat, x = k2 + fy := ⟨_, rfl⟩
      have ea : IntKind.i64.wrap (1 + (na : Int)) = (k2 : Int) := by rw [IntKind.wrap_i64]; omega
      have eb : IntKind.i64.wrap ((k2 : Int) + (nb : Int)) = (k3 : Int) := by rw [IntKind.wrap_i64]; omega
      have e1 : IntKind.i64.wrap ((sx : Int) + 1) = (x1 : Int) := by rw [IntKind.wrap_i64]; have := HLT.out; omega
      have e2 : IntKind.i64.wrap ((sy : Int) + (k2 : Int)) = (x2 : Int) := by rw [IntKind.wrap_i64]; have h1 := HLT.out; omega
      have e3 : IntKind.i64.wrap ((fx : Int) + 1) = (q1 : Int) := by rw [IntKind.wrap_i64]; have := HLT.out; omega
      have e4 : IntKind.i64.wrap ((fy : Int) + (k2 : Int)) = (q2 : Int) := by rw [IntKind.wrap_i64]; have h1 := HLT.out; omega
      have HX := hid (show x1 = 1 + sx ∧ x2 = k2 + sy ∧ q1 = 1 + fx ∧ q2 = k2 + fy from ⟨hx1, hx2, hq1, hq2⟩)
      have HBD := hid (show q1 < k3 + 1 ∧ q2 < k3 + 1 from by have h1 := HLT.out; omega)
      have HK2 := hid hk2
      have HK3 := hid hk3
      clear hk2 hk3 hx1 hx2 hq1 hq2
      obtain ⟨⟨_, a1, a2⟩, _, b1, b2⟩ := HC.out
      have a1 := cell_bl HB3.out a1
      have b1 := cell_bl HB3.out b1
      clear a2 b2 HC
      obtain ⟨wv, hwv⟩ : ∃ W, W = (w3.alloc (.cells #[.int .i64 (x1 : Int), .int .i64 (x2 : Int)] 3)).alloc (.cells #[.slice none 0 0, .slice (some ⟨w3.heap.size, 0, none⟩) 2 2] 86) := ⟨_, rfl⟩
      obtain ⟨q5, hq5⟩ : ∃ z, z = w3.heap.size := ⟨_, rfl⟩
      obtain ⟨g5, hg5⟩ : ∃ z, z = w3.heap.size + 1 := ⟨_, rfl⟩
      have hwq : wv.heap[q5]? = some (.cells #[.int .i64 (x1 : Int), .int .i64 (x2 : Int)] 3) := by rw [hwv, al_old _ _ (by simp; omega), al_new _ _ hq5]
      have hwg : wv.heap[g5]? = some (.cells #[.slice none 0 0, .slice (some ⟨q5, 0, none⟩) 2 2] 86) := by rw [hwv, hq5, al_new _ _ (by simp; omega)]
      have bwv : Below w3.heap.size w3 wv := by rw [hwv]; exact ((Below.refl _ _).alloc (Nat.le_refl _) _).alloc (by simp) _
      have HGLv := hid (Gro.lit (B := w3.heap.size) hwg hwq (by omega) (by omega) (by omega))
      have HBv := hid (show Below w1.heap.size w1 wv from HB3.out.trans (bwv.mono HB3.out.size))
      have HBL := hid bwv.size
      have HWV := hid hwv
      have HQ5 := hid hq5
      have HG5 := hid hg5
      clear hwv hq5 hg5 hwq hwg bwv
      go_wp2_with fail
      clear a0 b0 a1 b1 hnn hw0 hw2 ea eb e1 e2
      try rw [← HWV.out]
      try rw [← HG5.out]
      try rw [← HQ5.out]
      clear HWV HQ5 HG5
      refine wp_mid (fun a' W => ∃ (u3o : Option Addr) (u3c g4 g4c : Nat) (u8o : Option Addr) (u8c g9 g9c gz g gc : Nat), (Below w1.heap.size w1 W ∧ ∃ R, Gro W w3.heap.size (.slice (some ⟨g, 0, none⟩) (k3 + 1) gc) (k3 + 1) ([([], [(x1 : Int), (x2 : Int)])] ++ mv (1 : Nat) A ++ mv (k2 : Nat) B ++ [([], [])]) R) ∧ a' = (?F : Option Addr → Nat → Nat → Nat → Option Addr → Nat → Nat → Nat → Nat → Nat → Nat → Act) u3o u3c g4 g4c u8o u8c g9 g9c gz g gc) ?m1 ?m2
      case m1 =>
        obtain ⟨wv0, hwv0⟩ : ∃ W, W = wv.drew := ⟨_, rfl⟩
        have HBq0 := hid (show Below w1.heap.size w1 wv0 by rw [hwv0]; exact HBv.out.drew)
        have HGL0 := hid (show Gro wv0 w3.heap.size (Value.slice (some ⟨g5, 0, none⟩) 1 1) 1 [([], [(x1 : Int), (x2 : Int)])] [.slice none 0 0, .slice (some ⟨q5, 0, none⟩) 2 2] by rw [hwv0]; exact HGLv.out.keep (Below.refl _ _).drew)
        have HKL0 := hid (Below.refl wv0.heap.size wv0)
        have HLO0 := hid (show w3.heap.size ≤ wv0.heap.size by rw [hwv0]; exact HBL.out)
        refine wp_region_mixT (.one 0 1 (.one 1 1 (.one 2 1 (.one 5 1 (.one 6 1 (.one 7 1 (.one 10 1 (.two 3 11 (.two 4 11 (.two 8 11 (.two 9 11 (.one 11 2 (.one 12 2 (.one 13 2 .nil))) (.one 9 2 (.one 12 2 (.one 13 2 .nil)))) (.one 8 2 (.one 9 2 (.one 12 2 (.one 13 2 .nil))))) (.one 4 2 (.one 8 2 (.one 9 2 (.one 12 2 (.one 13 2 .nil)))))) (.one 3 2 (.one 4 2 (.one 8 2 (.one 9 2 (.one 12 2 (.one 13 2 .nil)))))))))))))) (fun _ => True) (fun w' => (w'.cell? ⟨w.heap.size, 0, none⟩ = some (.slice so na sc) ∧ w'.cell? ⟨w.heap.size, 1, none⟩ = some (.int .i64 (sx : Int)) ∧ w'.cell? ⟨w.heap.size, 2, none⟩ = some (.int .i64 (fx : Int))) ∧ w'.cell? ⟨w.heap.size + 1, 0, none⟩ = some (.slice to nb tc) ∧ w'.cell? ⟨w.heap.size + 1, 1, none⟩ = some (.int .i64 (sy : Int)) ∧ w'.cell? ⟨w.heap.size + 1, 2, none⟩ = some (.int .i64 (fy : Int))) (fun _ => false) (by kernel_rfl) (by kernel_rfl) (fun j hj => by cases hj) rfl (by kernel_rfl) trivial (by rw [← hwv0]; exact HCW.out _ HBq0.out) ?_
        rw [← hwv0]
        clear hwv0
        iterate 7 (refine mixT_t ?_ rfl (by kernel_rfl) (fun w' hS => ?_) ?_; (rotate_left; (obtain ⟨⟨s1, s2, s3⟩, s4, s5, s6⟩ := hS; go_simp; with_reducible rfl); rotate_left))
        refine mixT_two ?xa0 ?xb0
        case xa0 =>
          refine hand_go rfl (by kernel_rfl) fun KK hKK => ?_
          go_simp
          refine (moved_any so sc na A sx fx 1 wv0 HNA.out (HSAW.out _ HBq0.out) (by omega) HGA.out (by have := HEA.out; omega) (by have := HFA.out; omega) (by have := HK2.out; omega)).mono ?_
          rintro e wv1 ⟨u3o, u3c, u3R, rfl, hGm, ba⟩
          have HGM3 := hid hGm
          have HBq1 := hid (show Below w1.heap.size w1 wv1 from HBq0.out.trans (ba.mono HBq0.out.size))
          have HKL1 := hid (show Below wv0.heap.size wv0 wv1 from HKL0.out.trans (ba.mono HKL0.out.size))
          have HSL := hid (show wv0.heap.size ≤ wv0.heap.size from HKL0.out.size)
          refine hKK _ _ (fun _ => trivial) (HCW.out _ HBq1.out) ?_
          clear hKK KK hGm ba
          refine mixT_two ?xa1 ?xb1
          case xa1 =>
            refine hand_go rfl (by kernel_rfl) fun KK hKK => ?_
            refine wp_append_states (w0 := wv0) _ _ rfl w3.heap.size wv0.heap.size 1 na (some ⟨g5, 0, none⟩) u3o 1 u3c ([([], [(x1 : Int), (x2 : Int)])]) (mv (1 : Nat) A) ([.slice none 0 0, .slice (some ⟨q5, 0, none⟩) 2 2]) u3R rfl rfl HGL0.out HGM3.out (by have h1 := HSL.out; have h2 := HBL.out; have h3 := HLO0.out; omega) HSL.out HKL1.out (by have := HLT.out; omega) (by have := HK2.out; omega) ?_
            intro g4 g4c wv2 hGm gr hl
            rw [← HK2.out] at hGm ⊢
            have HBq2 := hid (show Below w1.heap.size w1 wv2 from HBq1.out.trans ⟨gr.os, gr.tape, gr.output, gr.size, fun k hk => gr.block k (by have h1 := HBq1.out.size; omega) (fun e => by
              have h1 := (HGL0.out.row.lt k e.symm).1
              have h2 := HB3.out.size
              omega)⟩)
            have HGL4 := hid hGm
            have HKL2 := hid (Below.refl wv2.heap.size wv2)
            have HLO4 := hid (show w3.heap.size ≤ wv2.heap.size from by have h1 := (hGm.row.lt g4 rfl); omega)
            refine hKK _ _ (fun _ => trivial) (HCW.out _ HBq2.out) ?_
            clear hKK KK hGm gr hl
            refine mixT_two ?xa2 ?xb2
            case xa2 =>
              refine hand_go rfl (by kernel_rfl) fun KK hKK => ?_
              go_simp
              refine (moved_any to tc nb B sy fy k2 wv2 HNB.out (HSBW.out _ HBq2.out) (by omega) HGB.out (by have := HEB.out; omega) (by have := HFB.out; omega) (by have := HK2.out; omega)).mono ?_
              rintro e wv3 ⟨u8o, u8c, u8R, rfl, hGm, ba⟩
              have HGM8 := hid hGm
              have HBq3 := hid (show Below w1.heap.size w1 wv3 from HBq2.out.trans (ba.mono HBq2.out.size))
              have HKL3 := hid (show Below wv2.heap.size wv2 wv3 from HKL2.out.trans (ba.mono HKL2.out.size))
              have HSL := hid (show wv2.heap.size ≤ wv2.heap.size from HKL2.out.size)
              refine hKK _ _ (fun _ => trivial) (HCW.out _ HBq3.out) ?_
              clear hKK KK hGm ba
              refine mixT_two ?xa3 ?xb3
              case xa3 =>
                refine hand_go rfl (by kernel_rfl) fun KK hKK => ?_
                refine wp_append_states (w0 := wv2) _ _ rfl w3.heap.size wv2.heap.size k2 nb (some ⟨g4, 0, none⟩) u8o g4c u8c ([([], [(x1 : Int), (x2 : Int)])] ++ mv (1 : Nat) A) (mv (k2 : Nat) B) ([.slice none 0 0, .slice (some ⟨q5, 0, none⟩) 2 2] ++ u3R) u8R rfl rfl HGL4.out HGM8.out (by have h1 := HSL.out; have h2 := HBL.out; have h3 := HLO4.out; omega) HSL.out HKL3.out (by have := HLT.out; omega) (by have := HK2.out; omega) ?_
                intro g9 g9c wv4 hGm gr hl
                rw [← HK3.out] at hGm ⊢
                have HBq4 := hid (show Below w1.heap.size w1 wv4 from HBq3.out.trans ⟨gr.os, gr.tape, gr.output, gr.size, fun k hk => gr.block k (by have h1 := HBq3.out.size; omega) (fun e => by
                  have h1 := (HGL4.out.row.lt k e.symm).1
                  have h2 := HB3.out.size
                  omega)⟩)
                have HGL9 := hid hGm
                have HKL4 := hid (Below.refl wv4.heap.size wv4)
                have HLO9 := hid (show w3.heap.size ≤ wv4.heap.size from by have h1 := (hGm.row.lt g9 rfl); omega)
                refine hKK _ _ (fun _ => trivial) (HCW.out _ HBq4.out) ?_
                clear hKK KK hGm gr hl
                refine mixT_go rfl (by kernel_rfl) fun KK hKK => ?_
                go_simp
                obtain ⟨wv5, hWn⟩ : ∃ W, W = wv4.alloc (.cells #[.slice none 0 0, .slice none 0 0] 86) := ⟨_, rfl⟩
                obtain ⟨gz, hgz⟩ : ∃ z, z = wv4.heap.size := ⟨_, rfl⟩
                rw [← hWn, ← hgz]
                have ba : Below wv4.heap.size wv4 wv5 := by rw [hWn]; exact (Below.refl _ _).alloc (Nat.le_refl _) _
                have HZ5 := hid (show wv5.heap[gz]? = some (.cells #[.slice none 0 0, .slice none 0 0] 86) by rw [hWn]; exact al_new _ _ hgz)
                have HBq5 := hid (show Below w1.heap.size w1 wv5 from HBq4.out.trans (ba.mono HBq4.out.size))
                have HKL5 := hid (show Below wv4.heap.size wv4 wv5 from HKL4.out.trans (ba.mono HKL4.out.size))
                have HGZ := hid (show gz = wv4.heap.size from hgz)
                have HZL := hid (show (Value.slice (some ⟨g9, 0, none⟩) k3 g9c).ownBlock ≠ some gz from fun e => by
                  have h1 := (HGL9.out.row.lt gz e).2
                  have h2 := HKL4.out.size
                  omega)
                refine hKK _ _ (fun _ => trivial) (HCW.out _ HBq5.out) ?_
                clear hKK KK hWn hgz ba
                refine mixT_go rfl (by kernel_rfl) fun KK hKK => ?_
                have HGC := hid (HGL9.out.keep HKL5.out)
                have hcz : ∀ j u, [Value.slice none 0 0, Value.slice none 0 0][j]? = some u → wv5.cell? ((⟨gz, 0, none⟩ : Addr).add j) = some u := fun j u hj => by
                  rw [Addr.add_lit, Nat.zero_add, cell_of_row wv5 gz j _ 86 (0, 0) HZ5.out]
                  simpa using hj
                refine wp_append_lies _ _ _ 26 rfl w3.heap.size 86 i86 (.agg #[.slice none 0 0, .slice none 0 0]) 2 48 Tryd.underlying26 hi86 hs0 hs1 hs2 rfl (by decide) (Value.slice (some ⟨g9, 0, none⟩) k3 g9c) k3 ([.slice none 0 0, .slice (some ⟨q5, 0, none⟩) 2 2] ++ u3R ++ u8R) rfl HGC.out.row ⟨gz, 0, none⟩ 1 1 [.slice none 0 0, .slice none 0 0] rfl rfl hcz (fun u hu => by simp at hu; rw [hu]; rfl) (by decide) (by have h1 := HK2.out; have h2 := HK3.out; unfold maxLen; omega) (by have h1 := HK2.out; have h2 := HK3.out; omega) (by have h1 := HLO9.out; have h2 := HKL5.out.size; omega) wv5.heap.size rfl ?_
                intro g gc wz o9 gr hl hlt
                have HB10 := hid (show Below w1.heap.size w1 wz from HBq5.out.trans ⟨gr.os, gr.tape, gr.output, gr.size, fun k hk => gr.block k (by have h1 := HBq5.out.size; omega) (fun e => by
                  have h1 := (HGC.out.row.lt k e.symm).1
                  have h2 := HB3.out.size
                  omega)⟩)
                have HG10 := hid (show Gro wz w3.heap.size (.slice (some ⟨g, 0, none⟩) (k3 + 1) gc) (k3 + 1) ([([], [(x1 : Int), (x2 : Int)])] ++ mv (1 : Nat) A ++ mv (k2 : Nat) B ++ [([], [])]) ([.slice none 0 0, .slice (some ⟨q5, 0, none⟩) 2 2] ++ u3R ++ u8R ++ [.slice none 0 0, .slice none 0 0]) from HGC.out.grow gr.size (fun k _ hk hne => gr.block k hk (fun e => hne e.symm)) o9 (fun b hb => by
                  have e : g = b := Option.some.inj hb
                  rcases hl with h | h
                  · exact .inl (e ▸ h)
                  · exact .inr (by omega)))
                refine hKK _ _ (fun _ => trivial) (HCW.out _ HB10.out) ?_
                clear hKK KK o9 gr hl hlt hcz
                refine mixT_go rfl (by kernel_rfl) fun KK hKK => ?_
                go_simp
                refine hKK _ _ (fun _ => trivial) (HCW.out _ HB10.out) ?_
                clear hKK KK
                refine mixT_end (NoPanic.normal ⟨rfl, u3o, u3c, g4, g4c, u8o, u8c, g9, g9c, gz, g, gc, ⟨HB10.out, _, HG10.out⟩, ?_⟩)
                with_reducible rfl
              case xb3 =>
                refine hand_go rfl (by kernel_rfl) fun KK hKK => ?_
                go_simp
                obtain ⟨wv4, hWn⟩ : ∃ W, W = wv3.alloc (.cells #[.slice none 0 0, .slice none 0 0] 86) := ⟨_, rfl⟩
                obtain ⟨gz, hgz⟩ : ∃ z, z = wv3.heap.size := ⟨_, rfl⟩
                rw [← hWn, ← hgz]
                have ba : Below wv3.heap.size wv3 wv4 := by rw [hWn]; exact (Below.refl _ _).alloc (Nat.le_refl _) _
                have HZ4 := hid (show wv4.heap[gz]? = some (.cells #[.slice none 0 0, .slice none 0 0] 86) by rw [hWn]; exact al_new _ _ hgz)
                have HBq4 := hid (show Below w1.heap.size w1 wv4 from HBq3.out.trans (ba.mono HBq3.out.size))
                have HKL4 := hid (show Below wv2.heap.size wv2 wv4 from HKL3.out.trans (ba.mono HKL3.out.size))
                have HGZ := hid (show gz = wv3.heap.size from hgz)
                have HZL := hid (show (Value.slice (some ⟨g4, 0, none⟩) k2 g4c).ownBlock ≠ some gz from fun e => by
                  have h1 := (HGL4.out.row.lt gz e).2
                  have h2 := HKL3.out.size
                  omega)
                have HGM8x := hid (HGM8.out.keep ba)
                refine hKK _ _ (fun _ => trivial) (HCW.out _ HBq4.out) ?_
                clear hKK KK hWn hgz ba
                refine mixT_go rfl (by kernel_rfl) fun KK hKK => ?_
                refine wp_append_states (w0 := wv2) _ _ rfl w3.heap.size wv2.heap.size k2 nb (some ⟨g4, 0, none⟩) u8o g4c u8c ([([], [(x1 : Int), (x2 : Int)])] ++ mv (1 : Nat) A) (mv (k2 : Nat) B) ([.slice none 0 0, .slice (some ⟨q5, 0, none⟩) 2 2] ++ u3R) u8R rfl rfl HGL4.out HGM8x.out (by have h1 := HSL.out; have h2 := HBL.out; have h3 := HLO4.out; omega) HSL.out HKL4.out (by have := HLT.out; omega) (by have := HK2.out; omega) ?_
                intro g9 g9c wv5 hGm gr hl
                rw [← HK3.out] at hGm ⊢
                have HBq5 := hid (show Below w1.heap.size w1 wv5 from HBq4.out.trans ⟨gr.os, gr.tape, gr.output, gr.size, fun k hk => gr.block k (by have h1 := HBq4.out.size; omega) (fun e => by
                  have h1 := (HGL4.out.row.lt k e.symm).1
                  have h2 := HB3.out.size
                  omega)⟩)
                have HGL9 := hid hGm
                have HKL5 := hid (Below.refl wv5.heap.size wv5)
                have HLO9 := hid (show w3.heap.size ≤ wv5.heap.size from by have h1 := (hGm.row.lt g9 rfl); omega)
                have HZ5 := hid (show wv5.heap[gz]? = some (.cells #[.slice none 0 0, .slice none 0 0] 86) by rw [gr.block gz (lt_of HZ4.out) (fun e => HZL.out e.symm)]; exact HZ4.out)
                have HZL := hid (show (Value.slice (some ⟨g9, 0, none⟩) k3 g9c).ownBlock ≠ some gz from fun e => by
                  have e' : g9 = gz := Option.some.inj e
                  rcases hl with h | h
                  · exact HZL.out (e' ▸ h)
                  · have := lt_of HZ4.out; omega)
                refine hKK _ _ (fun _ => trivial) (HCW.out _ HBq5.out) ?_
                clear hKK KK hGm gr hl
                refine mixT_go rfl (by kernel_rfl) fun KK hKK => ?_
                have HGC := hid (HGL9.out.keep HKL5.out)
                have hcz : ∀ j u, [Value.slice none 0 0, Value.slice none 0 0][j]? = some u → wv5.cell? ((⟨gz, 0, none⟩ : Addr).add j) = some u := fun j u hj => by
                  rw [Addr.add_lit, Nat.zero_add, cell_of_row wv5 gz j _ 86 (0, 0) HZ5.out]
                  simpa using hj
                refine wp_append_lies _ _ _ 26 rfl w3.heap.size 86 i86 (.agg #[.slice none 0 0, .slice none 0 0]) 2 48 Tryd.underlying26 hi86 hs0 hs1 hs2 rfl (by decide) (Value.slice (some ⟨g9, 0, none⟩) k3 g9c) k3 ([.slice none 0 0, .slice (some ⟨q5, 0, none⟩) 2 2] ++ u3R ++ u8R) rfl HGC.out.row ⟨gz, 0, none⟩ 1 1 [.slice none 0 0, .slice none 0 0] rfl rfl hcz (fun u hu => by simp at hu; rw [hu]; rfl) (by decide) (by have h1 := HK2.out; have h2 := HK3.out; unfold maxLen; omega) (by have h1 := HK2.out; have h2 := HK3.out; omega) (by have h1 := HLO9.out; have h2 := HKL5.out.size; omega) wv5.heap.size rfl ?_
                intro g gc wz o9 gr hl hlt
                have HB10 := hid (show Below w1.heap.size w1 wz from HBq5.out.trans ⟨gr.os, gr.tape, gr.output, gr.size, fun k hk => gr.block k (by have h1 := HBq5.out.size; omega) (fun e => by
                  have h1 := (HGC.out.row.lt k e.symm).1
                  have h2 := HB3.out.size
                  omega)⟩)
                have HG10 := hid (show Gro wz w3.heap.size (.slice (some ⟨g, 0, none⟩) (k3 + 1) gc) (k3 + 1) ([([], [(x1 : Int), (x2 : Int)])] ++ mv (1 : Nat) A ++ mv (k2 : Nat) B ++ [([], [])]) ([.slice none 0 0, .slice (some ⟨q5, 0, none⟩) 2 2] ++ u3R ++ u8R ++ [.slice none 0 0, .slice none 0 0]) from HGC.out.grow gr.size (fun k _ hk hne => gr.block k hk (fun e => hne e.symm)) o9 (fun b hb => by
                  have e : g = b := Option.some.inj hb
                  rcases hl with h | h
                  · exact .inl (e ▸ h)
                  · exact .inr (by omega)))
                refine hKK _ _ (fun _ => trivial) (HCW.out _ HB10.out) ?_
                clear hKK KK o9 gr hl hlt hcz
                refine mixT_go rfl (by kernel_rfl) fun KK hKK => ?_
                go_simp
                refine hKK _ _ (fun _ => trivial) (HCW.out _ HB10.out) ?_
                clear hKK KK
                refine mixT_end (NoPanic.normal ⟨rfl, u3o, u3c, g4, g4c, u8o, u8c, g9, g9c, gz, g, gc, ⟨HB10.out, _, HG10.out⟩, ?_⟩)
                with_reducible rfl
            case xb2 =>
              refine hand_go rfl (by kernel_rfl) fun KK hKK => ?_
              go_simp
              obtain ⟨wv3, hWn⟩ : ∃ W, W = wv2.alloc (.cells #[.slice none 0 0, .slice none 0 0] 86) := ⟨_, rfl⟩
              obtain ⟨gz, hgz⟩ : ∃ z, z = wv2.heap.size := ⟨_, rfl⟩
              rw [← hWn, ← hgz]
              have ba : Below wv2.heap.size wv2 wv3 := by rw [hWn]; exact (Below.refl _ _).alloc (Nat.le_refl _) _
              have HZ3 := hid (show wv3.heap[gz]? = some (.cells #[.slice none 0 0, .slice none 0 0] 86) by rw [hWn]; exact al_new _ _ hgz)
              have HBq3 := hid (show Below w1.heap.size w1 wv3 from HBq2.out.trans (ba.mono HBq2.out.size))
              have HKL3 := hid (show Below wv2.heap.size wv2 wv3 from HKL2.out.trans (ba.mono HKL2.out.size))
              have HGZ := hid (show gz = wv2.heap.size from hgz)
              have HZL := hid (show (Value.slice (some ⟨g4, 0, none⟩) k2 g4c).ownBlock ≠ some gz from fun e => by
                have h1 := (HGL4.out.row.lt gz e).2
                have h2 := HKL2.out.size
                omega)
              refine hKK _ _ (fun _ => trivial) (HCW.out _ HBq3.out) ?_
              clear hKK KK hWn hgz ba
              refine mixT_go rfl (by kernel_rfl) fun KK hKK => ?_
              go_simp
              refine (moved_any to tc nb B sy fy k2 wv3 HNB.out (HSBW.out _ HBq3.out) (by omega) HGB.out (by have := HEB.out; omega) (by have := HFB.out; omega) (by have := HK2.out; omega)).mono ?_
              rintro e wv4 ⟨u8o, u8c, u8R, rfl, hGm, ba⟩
              have HGM8 := hid hGm
              have HBq4 := hid (show Below w1.heap.size w1 wv4 from HBq3.out.trans (ba.mono HBq3.out.size))
              have HKL4 := hid (show Below wv2.heap.size wv2 wv4 from HKL3.out.trans (ba.mono HKL3.out.size))
              have HSL := hid (show wv2.heap.size ≤ wv3.heap.size from HKL3.out.size)
              have HZ4 := hid (show wv4.heap[gz]? = some (.cells #[.slice none 0 0, .slice none 0 0] 86) by rw [ba.block gz (lt_of HZ3.out)]; exact HZ3.out)
              refine hKK _ _ (fun _ => trivial) (HCW.out _ HBq4.out) ?_
              clear hKK KK hGm ba
              refine mixT_go rfl (by kernel_rfl) fun KK hKK => ?_
              refine wp_append_states (w0 := wv2) _ _ rfl w3.heap.size wv3.heap.size k2 nb (some ⟨g4, 0, none⟩) u8o g4c u8c ([([], [(x1 : Int), (x2 : Int)])] ++ mv (1 : Nat) A) (mv (k2 : Nat) B) ([.slice none 0 0, .slice (some ⟨q5, 0, none⟩) 2 2] ++ u3R) u8R rfl rfl HGL4.out HGM8.out (by have h1 := HSL.out; have h2 := HBL.out; have h3 := HLO4.out; omega) HSL.out HKL4.out (by have := HLT.out; omega) (by have := HK2.out; omega) ?_
              intro g9 g9c wv5 hGm gr hl
              rw [← HK3.out] at hGm ⊢
              have HBq5 := hid (show Below w1.heap.size w1 wv5 from HBq4.out.trans ⟨gr.os, gr.tape, gr.output, gr.size, fun k hk => gr.block k (by have h1 := HBq4.out.size; omega) (fun e => by
                have h1 := (HGL4.out.row.lt k e.symm).1
                have h2 := HB3.out.size
                omega)⟩)
              have HGL9 := hid hGm
              have HKL5 := hid (Below.refl wv5.heap.size wv5)
              have HLO9 := hid (show w3.heap.size ≤ wv5.heap.size from by have h1 := (hGm.row.lt g9 rfl); omega)
              have HZ5 := hid (show wv5.heap[gz]? = some (.cells #[.slice none 0 0, .slice none 0 0] 86) by rw [gr.block gz (lt_of HZ4.out) (fun e => HZL.out e.symm)]; exact HZ4.out)
              have HZL := hid (show (Value.slice (some ⟨g9, 0, none⟩) k3 g9c).ownBlock ≠ some gz from fun e => by
                have e' : g9 = gz := Option.some.inj e
                rcases hl with h | h
                · exact HZL.out (e' ▸ h)
                · have := lt_of HZ4.out; omega)
              refine hKK _ _ (fun _ => trivial) (HCW.out _ HBq5.out) ?_
              clear hKK KK hGm gr hl
              refine mixT_go rfl (by kernel_rfl) fun KK hKK => ?_
              have HGC := hid (HGL9.out.keep HKL5.out)
              have hcz : ∀ j u, [Value.slice none 0 0, Value.slice none 0 0][j]? = some u → wv5.cell? ((⟨gz, 0, none⟩ : Addr).add j) = some u := fun j u hj => by
                rw [Addr.add_lit, Nat.zero_add, cell_of_row wv5 gz j _ 86 (0, 0) HZ5.out]
                simpa using hj
              refine wp_append_lies _ _ _ 26 rfl w3.heap.size 86 i86 (.agg #[.slice none 0 0, .slice none 0 0]) 2 48 Tryd.underlying26 hi86 hs0 hs1 hs2 rfl (by decide) (Value.slice (some ⟨g9, 0, none⟩) k3 g9c) k3 ([.slice none 0 0, .slice (some ⟨q5, 0, none⟩) 2 2] ++ u3R ++ u8R) rfl HGC.out.row ⟨gz, 0, none⟩ 1 1 [.slice none 0 0, .slice none 0 0] rfl rfl hcz (fun u hu => by simp at hu; rw [hu]; rfl) (by decide) (by have h1 := HK2.out; have h2 := HK3.out; unfold maxLen; omega) (by have h1 := HK2.out; have h2 := HK3.out; omega) (by have h1 := HLO9.out; have h2 := HKL5.out.size; omega) wv5.heap.size rfl ?_
              intro g gc wz o9 gr hl hlt
              have HB10 := hid (show Below w1.heap.size w1 wz from HBq5.out.trans ⟨gr.os, gr.tape, gr.output, gr.size, fun k hk => gr.block k (by have h1 := HBq5.out.size; omega) (fun e => by
                have h1 := (HGC.out.row.lt k e.symm).1
                have h2 := HB3.out.size
                omega)⟩)
              have HG10 := hid (show Gro wz w3.heap.size (.slice (some ⟨g, 0, none⟩) (k3 + 1) gc) (k3 + 1) ([([], [(x1 : Int), (x2 : Int)])] ++ mv (1 : Nat) A ++ mv (k2 : Nat) B ++ [([], [])]) ([.slice none 0 0, .slice (some ⟨q5, 0, none⟩) 2 2] ++ u3R ++ u8R ++ [.slice none 0 0, .slice none 0 0]) from HGC.out.grow gr.size (fun k _ hk hne => gr.block k hk (fun e => hne e.symm)) o9 (fun b hb => by
                have e : g = b := Option.some.inj hb
                rcases hl with h | h
                · exact .inl (e ▸ h)
                · exact .inr (by omega)))
              refine hKK _ _ (fun _ => trivial) (HCW.out _ HB10.out) ?_
              clear hKK KK o9 gr hl hlt hcz
              refine mixT_go rfl (by kernel_rfl) fun KK hKK => ?_
              go_simp
              refine hKK _ _ (fun _ => trivial) (HCW.out _ HB10.out) ?_
              clear hKK KK
              refine mixT_end (NoPanic.normal ⟨rfl, u3o, u3c, g4, g4c, u8o, u8c, g9, g9c, gz, g, gc, ⟨HB10.out, _, HG10.out⟩, ?_⟩)
              with_reducible rfl
          case xb1 =>
            refine hand_go rfl (by kernel_rfl) fun KK hKK => ?_
            go_simp
            obtain ⟨wv2, hWn⟩ : ∃ W, W = wv1.alloc (.cells #[.slice none 0 0, .slice none 0 0] 86) := ⟨_, rfl⟩
            obtain ⟨gz, hgz⟩ : ∃ z, z = wv1.heap.size := ⟨_, rfl⟩
            rw [← hWn, ← hgz]
            have ba : Below wv1.heap.size wv1 wv2 := by rw [hWn]; exact (Below.refl _ _).alloc (Nat.le_refl _) _
            have HZ2 := hid (show wv2.heap[gz]? = some (.cells #[.slice none 0 0, .slice none 0 0] 86) by rw [hWn]; exact al_new _ _ hgz)
            have HBq2 := hid (show Below w1.heap.size w1 wv2 from HBq1.out.trans (ba.mono HBq1.out.size))
            have HKL2 := hid (show Below wv0.heap.size wv0 wv2 from HKL1.out.trans (ba.mono HKL1.out.size))
            have HGZ := hid (show gz = wv1.heap.size from hgz)
            have HZL := hid (show (Value.slice (some ⟨g5, 0, none⟩) 1 1).ownBlock ≠ some gz from fun e => by
              have h1 := (HGL0.out.row.lt gz e).2
              have h2 := HKL1.out.size
              omega)
            have HGM3x := hid (HGM3.out.keep ba)
            refine hKK _ _ (fun _ => trivial) (HCW.out _ HBq2.out) ?_
            clear hKK KK hWn hgz ba
            refine mixT_go rfl (by kernel_rfl) fun KK hKK => ?_
            refine wp_append_states (w0 := wv0) _ _ rfl w3.heap.size wv0.heap.size 1 na (some ⟨g5, 0, none⟩) u3o 1 u3c ([([], [(x1 : Int), (x2 : Int)])]) (mv (1 : Nat) A) ([.slice none 0 0, .slice (some ⟨q5, 0, none⟩) 2 2]) u3R rfl rfl HGL0.out HGM3x.out (by have h1 := HSL.out; have h2 := HBL.out; have h3 := HLO0.out; omega) HSL.out HKL2.out (by have := HLT.out; omega) (by have := HK2.out; omega) ?_
            intro g4 g4c wv3 hGm gr hl
            rw [← HK2.out] at hGm ⊢
            have HBq3 := hid (show Below w1.heap.size w1 wv3 from HBq2.out.trans ⟨gr.os, gr.tape, gr.output, gr.size, fun k hk => gr.block k (by have h1 := HBq2.out.size; omega) (fun e => by
              have h1 := (HGL0.out.row.lt k e.symm).1
              have h2 := HB3.out.size
              omega)⟩)
            have HGL4 := hid hGm
            have HKL3 := hid (Below.refl wv3.heap.size wv3)
            have HLO4 := hid (show w3.heap.size ≤ wv3.heap.size from by have h1 := (hGm.row.lt g4 rfl); omega)
            have HZ3 := hid (show wv3.heap[gz]? = some (.cells #[.slice none 0 0, .slice none 0 0] 86) by rw [gr.block gz (lt_of HZ2.out) (fun e => HZL.out e.symm)]; exact HZ2.out)
            have HZL := hid (show (Value.slice (some ⟨g4, 0, none⟩) k2 g4c).ownBlock ≠ some gz from fun e => by
              have e' : g4 = gz := Option.some.inj e
              rcases hl with h | h
              · exact HZL.out (e' ▸ h)
              · have := lt_of HZ2.out; omega)
            refine hKK _ _ (fun _ => trivial) (HCW.out _ HBq3.out) ?_
            clear hKK KK hGm gr hl
            refine mixT_go rfl (by kernel_rfl) fun KK hKK => ?_
            go_simp
            refine (moved_any to tc nb B sy fy k2 wv3 HNB.out (HSBW.out _ HBq3.out) (by omega) HGB.out (by have := HEB.out; omega) (by have := HFB.out; omega) (by have := HK2.out; omega)).mono ?_
            rintro e wv4 ⟨u8o, u8c, u8R, rfl, hGm, ba⟩
            have HGM8 := hid hGm
            have HBq4 := hid (show Below w1.heap.size w1 wv4 from HBq3.out.trans (ba.mono HBq3.out.size))
            have HKL4 := hid (show Below wv3.heap.size wv3 wv4 from HKL3.out.trans (ba.mono HKL3.out.size))
            have HSL := hid (show wv3.heap.size ≤ wv3.heap.size from HKL3.out.size)
            have HZ4 := hid (show wv4.heap[gz]? = some (.cells #[.slice none 0 0, .slice none 0 0] 86) by rw [ba.block gz (lt_of HZ3.out)]; exact HZ3.out)
            refine hKK _ _ (fun _ => trivial) (HCW.out _ HBq4.out) ?_
            clear hKK KK hGm ba
            refine mixT_go rfl (by kernel_rfl) fun KK hKK => ?_
            refine wp_append_states (w0 := wv3) _ _ rfl w3.heap.size wv3.heap.size k2 nb (some ⟨g4, 0, none⟩) u8o g4c u8c ([([], [(x1 : Int), (x2 : Int)])] ++ mv (1 : Nat) A) (mv (k2 : Nat) B) ([.slice none 0 0, .slice (some ⟨q5, 0, none⟩) 2 2] ++ u3R) u8R rfl rfl HGL4.out HGM8.out (by have h1 := HSL.out; have h2 := HBL.out; have h3 := HLO4.out; omega) HSL.out HKL4.out (by have := HLT.out; omega) (by have := HK2.out; omega) ?_
            intro g9 g9c wv5 hGm gr hl
            rw [← HK3.out] at hGm ⊢
            have HBq5 := hid (show Below w1.heap.size w1 wv5 from HBq4.out.trans ⟨gr.os, gr.tape, gr.output, gr.size, fun k hk => gr.block k (by have h1 := HBq4.out.size; omega) (fun e => by
              have h1 := (HGL4.out.row.lt k e.symm).1
              have h2 := HB3.out.size
              omega)⟩)
            have HGL9 := hid hGm
            have HKL5 := hid (Below.refl wv5.heap.size wv5)
            have HLO9 := hid (show w3.heap.size ≤ wv5.heap.size from by have h1 := (hGm.row.lt g9 rfl); omega)
            have HZ5 := hid (show wv5.heap[gz]? = some (.cells #[.slice none 0 0, .slice none 0 0] 86) by rw [gr.block gz (lt_of HZ4.out) (fun e => HZL.out e.symm)]; exact HZ4.out)
            have HZL := hid (show (Value.slice (some ⟨g9, 0, none⟩) k3 g9c).ownBlock ≠ some gz from fun e => by
              have e' : g9 = gz := Option.some.inj e
              rcases hl with h | h
              · exact HZL.out (e' ▸ h)
              · have := lt_of HZ4.out; omega)
            refine hKK _ _ (fun _ => trivial) (HCW.out _ HBq5.out) ?_
            clear hKK KK hGm gr hl
            refine mixT_go rfl (by kernel_rfl) fun KK hKK => ?_
            have HGC := hid (HGL9.out.keep HKL5.out)
            have hcz : ∀ j u, [Value.slice none 0 0, Value.slice none 0 0][j]? = some u → wv5.cell? ((⟨gz, 0, none⟩ : Addr).add j) = some u := fun j u hj => by
              rw [Addr.add_lit, Nat.zero_add, cell_of_row wv5 gz j _ 86 (0, 0) HZ5.out]
              simpa using hj
            refine wp_append_lies _ _ _ 26 rfl w3.heap.size 86 i86 (.agg #[.slice none 0 0, .slice none 0 0]) 2 48 Tryd.underlying26 hi86 hs0 hs1 hs2 rfl (by decide) (Value.slice (some ⟨g9, 0, none⟩) k3 g9c) k3 ([.slice none 0 0, .slice (some ⟨q5, 0, none⟩) 2 2] ++ u3R ++ u8R) rfl HGC.out.row ⟨gz, 0, none⟩ 1 1 [.slice none 0 0, .slice none 0 0] rfl rfl hcz (fun u hu => by simp at hu; rw [hu]; rfl) (by decide) (by have h1 := HK2.out; have h2 := HK3.out; unfold maxLen; omega) (by have h1 := HK2.out; have h2 := HK3.out; omega) (by have h1 := HLO9.out; have h2 := HKL5.out.size; omega) wv5.heap.size rfl ?_
            intro g gc wz o9 gr hl hlt
            have HB10 := hid (show Below w1.heap.size w1 wz from HBq5.out.trans ⟨gr.os, gr.tape, gr.output, gr.size, fun k hk => gr.block k (by have h1 := HBq5.out.size; omega) (fun e => by
              have h1 := (HGC.out.row.lt k e.symm).1
              have h2 := HB3.out.size
              omega)⟩)
            have HG10 := hid (show Gro wz w3.heap.size (.slice (some ⟨g, 0, none⟩) (k3 + 1) gc) (k3 + 1) ([([], [(x1 : Int), (x2 : Int)])] ++ mv (1 : Nat) A ++ mv (k2 : Nat) B ++ [([], [])]) ([.slice none 0 0, .slice (some ⟨q5, 0, none⟩) 2 2] ++ u3R ++ u8R ++ [.slice none 0 0, .slice none 0 0]) from HGC.out.grow gr.size (fun k _ hk hne => gr.block k hk (fun e => hne e.symm)) o9 (fun b hb => by
              have e : g = b := Option.some.inj hb
              rcases hl with h | h
              · exact .inl (e ▸ h)
              · exact .inr (by omega)))
            refine hKK _ _ (fun _ => trivial) (HCW.out _ HB10.out) ?_
            clear hKK KK o9 gr hl hlt hcz
            refine mixT_go rfl (by kernel_rfl) fun KK hKK => ?_
            go_simp
            refine hKK _ _ (fun _ => trivial) (HCW.out _ HB10.out) ?_
            clear hKK KK
            refine mixT_end (NoPanic.normal ⟨rfl, u3o, u3c, g4, g4c, u8o, u8c, g9, g9c, gz, g, gc, ⟨HB10.out, _, HG10.out⟩, ?_⟩)
            with_reducible rfl
        case xb0 =>
          refine hand_go rfl (by kernel_rfl) fun KK hKK => ?_
          go_simp
          obtain ⟨wv1, hWn⟩ : ∃ W, W = wv0.alloc (.cells #[.slice none 0 0, .slice none 0 0] 86) := ⟨_, rfl⟩
          obtain ⟨gz, hgz⟩ : ∃ z, z = wv0.heap.size := ⟨_, rfl⟩
          rw [← hWn, ← hgz]
          have ba : Below wv0.heap.size wv0 wv1 := by rw [hWn]; exact (Below.refl _ _).alloc (Nat.le_refl _) _
          have HZ1 := hid (show wv1.heap[gz]? = some (.cells #[.slice none 0 0, .slice none 0 0] 86) by rw [hWn]; exact al_new _ _ hgz)
          have HBq1 := hid (show Below w1.heap.size w1 wv1 from HBq0.out.trans (ba.mono HBq0.out.size))
          have HKL1 := hid (show Below wv0.heap.size wv0 wv1 from HKL0.out.trans (ba.mono HKL0.out.size))
          have HGZ := hid (show gz = wv0.heap.size from hgz)
          have HZL := hid (show (Value.slice (some ⟨g5, 0, none⟩) 1 1).ownBlock ≠ some gz from fun e => by
            have h1 := (HGL0.out.row.lt gz e).2
            have h2 := HKL0.out.size
            omega)
          refine hKK _ _ (fun _ => trivial) (HCW.out _ HBq1.out) ?_
          clear hKK KK hWn hgz ba
          refine mixT_go rfl (by kernel_rfl) fun KK hKK => ?_
          go_simp
          refine (moved_any so sc na A sx fx 1 wv1 HNA.out (HSAW.out _ HBq1.out) (by omega) HGA.out (by have := HEA.out; omega) (by have := HFA.out; omega) (by have := HK2.out; omega)).mono ?_
          rintro e wv2 ⟨u3o, u3c, u3R, rfl, hGm, ba⟩
          have HGM3 := hid hGm
          have HBq2 := hid (show Below w1.heap.size w1 wv2 from HBq1.out.trans (ba.mono HBq1.out.size))
          have HKL2 := hid (show Below wv0.heap.size wv0 wv2 from HKL1.out.trans (ba.mono HKL1.out.size))
          have HSL := hid (show wv0.heap.size ≤ wv1.heap.size from HKL1.out.size)
          have HZ2 := hid (show wv2.heap[gz]? = some (.cells #[.slice none 0 0, .slice none 0 0] 86) by rw [ba.block gz (lt_of HZ1.out)]; exact HZ1.out)
          refine hKK _ _ (fun _ => trivial) (HCW.out _ HBq2.out) ?_
          clear hKK KK hGm ba
          refine mixT_go rfl (by kernel_rfl) fun KK hKK => ?_
          refine wp_append_states (w0 := wv0) _ _ rfl w3.heap.size wv1.heap.size 1 na (some ⟨g5, 0, none⟩) u3o 1 u3c ([([], [(x1 : Int), (x2 : Int)])]) (mv (1 : Nat) A) ([.slice none 0 0, .slice (some ⟨q5, 0, none⟩) 2 2]) u3R rfl rfl HGL0.out HGM3.out (by have h1 := HSL.out; have h2 := HBL.out; have h3 := HLO0.out; omega) HSL.out HKL2.out (by have := HLT.out; omega) (by have := HK2.out; omega) ?_
          intro g4 g4c wv3 hGm gr hl
          rw [← HK2.out] at hGm ⊢
          have HBq3 := hid (show Below w1.heap.size w1 wv3 from HBq2.out.trans ⟨gr.os, gr.tape, gr.output, gr.size, fun k hk => gr.block k (by have h1 := HBq2.out.size; omega) (fun e => by
            have h1 := (HGL0.out.row.lt k e.symm).1
            have h2 := HB3.out.size
            omega)⟩)
          have HGL4 := hid hGm
          have HKL3 := hid (Below.refl wv3.heap.size wv3)
          have HLO4 := hid (show w3.heap.size ≤ wv3.heap.size from by have h1 := (hGm.row.lt g4 rfl); omega)
          have HZ3 := hid (show wv3.heap[gz]? = some (.cells #[.slice none 0 0, .slice none 0 0] 86) by rw [gr.block gz (lt_of HZ2.out) (fun e => HZL.out e.symm)]; exact HZ2.out)
          have HZL := hid (show (Value.slice (some ⟨g4, 0, none⟩) k2 g4c).ownBlock ≠ some gz from fun e => by
            have e' : g4 = gz := Option.some.inj e
            rcases hl with h | h
            · exact HZL.out (e' ▸ h)
            · have := lt_of HZ2.out; omega)
          refine hKK _ _ (fun _ => trivial) (HCW.out _ HBq3.out) ?_
          clear hKK KK hGm gr hl
          refine mixT_go rfl (by kernel_rfl) fun KK hKK => ?_
          go_simp
          refine (moved_any to tc nb B sy fy k2 wv3 HNB.out (HSBW.out _ HBq3.out) (by omega) HGB.out (by have := HEB.out; omega) (by have := HFB.out; omega) (by have := HK2.out; omega)).mono ?_
          rintro e wv4 ⟨u8o, u8c, u8R, rfl, hGm, ba⟩
          have HGM8 := hid hGm
          have HBq4 := hid (show Below w1.heap.size w1 wv4 from HBq3.out.trans (ba.mono HBq3.out.size))
          have HKL4 := hid (show Below wv3.heap.size wv3 wv4 from HKL3.out.trans (ba.mono HKL3.out.size))
          have HSL := hid (show wv3.heap.size ≤ wv3.heap.size from HKL3.out.size)
          have HZ4 := hid (show wv4.heap[gz]? = some (.cells #[.slice none 0 0, .slice none 0 0] 86) by rw [ba.block gz (lt_of HZ3.out)]; exact HZ3.out)
          refine hKK _ _ (fun _ => trivial) (HCW.out _ HBq4.out) ?_
          clear hKK KK hGm ba
          refine mixT_go rfl (by kernel_rfl) fun KK hKK => ?_
          refine wp_append_states (w0 := wv3) _ _ rfl w3.heap.size wv3.heap.size k2 nb (some ⟨g4, 0, none⟩) u8o g4c u8c ([([], [(x1 : Int), (x2 : Int)])] ++ mv (1 : Nat) A) (mv (k2 : Nat) B) ([.slice none 0 0, .slice (some ⟨q5, 0, none⟩) 2 2] ++ u3R) u8R rfl rfl HGL4.out HGM8.out (by have h1 := HSL.out; have h2 := HBL.out; have h3 := HLO4.out; omega) HSL.out HKL4.out (by have := HLT.out; omega) (by have := HK2.out; omega) ?_
          intro g9 g9c wv5 hGm gr hl
          rw [← HK3.out] at hGm ⊢
          have HBq5 := hid (show Below w1.heap.size w1 wv5 from HBq4.out.trans ⟨gr.os, gr.tape, gr.output, gr.size, fun k hk => gr.block k (by have h1 := HBq4.out.size; omega) (fun e => by
            have h1 := (HGL4.out.row.lt k e.symm).1
            have h2 := HB3.out.size
            omega)⟩)
          have HGL9 := hid hGm
          have HKL5 := hid (Below.refl wv5.heap.size wv5)
          have HLO9 := hid (show w3.heap.size ≤ wv5.heap.size from by have h1 := (hGm.row.lt g9 rfl); omega)
          have HZ5 := hid (show wv5.heap[gz]? = some (.cells #[.slice none 0 0, .slice none 0 0] 86) by rw [gr.block gz (lt_of HZ4.out) (fun e => HZL.out e.symm)]; exact HZ4.out)
          have HZL := hid (show (Value.slice (some ⟨g9, 0, none⟩) k3 g9c).ownBlock ≠ some gz from fun e => by
            have e' : g9 = gz := Option.some.inj e
            rcases hl with h | h
            · exact HZL.out (e' ▸ h)
            · have := lt_of HZ4.out; omega)
          refine hKK _ _ (fun _ => trivial) (HCW.out _ HBq5.out) ?_
          clear hKK KK hGm gr hl
          refine mixT_go rfl (by kernel_rfl) fun KK hKK => ?_
          have HGC := hid (HGL9.out.keep HKL5.out)
          have hcz : ∀ j u, [Value.slice none 0 0, Value.slice none 0 0][j]? = some u → wv5.cell? ((⟨gz, 0, none⟩ : Addr).add j) = some u := fun j u hj => by
            rw [Addr.add_lit, Nat.zero_add, cell_of_row wv5 gz j _ 86 (0, 0) HZ5.out]
            simpa using hj
          refine wp_append_lies _ _ _ 26 rfl w3.heap.size 86 i86 (.agg #[.slice none 0 0, .slice none 0 0]) 2 48 Tryd.underlying26 hi86 hs0 hs1 hs2 rfl (by decide) (Value.slice (some ⟨g9, 0, none⟩) k3 g9c) k3 ([.slice none 0 0, .slice (some ⟨q5, 0, none⟩) 2 2] ++ u3R ++ u8R) rfl HGC.out.row ⟨gz, 0, none⟩ 1 1 [.slice none 0 0, .slice none 0 0] rfl rfl hcz (fun u hu => by simp at hu; rw [hu]; rfl) (by decide) (by have h1 := HK2.out; have h2 := HK3.out; unfold maxLen; omega) (by have h1 := HK2.out; have h2 := HK3.out; omega) (by have h1 := HLO9.out; have h2 := HKL5.out.size; omega) wv5.heap.size rfl ?_
          intro g gc wz o9 gr hl hlt
          have HB10 := hid (show Below w1.heap.size w1 wz from HBq5.out.trans ⟨gr.os, gr.tape, gr.output, gr.size, fun k hk => gr.block k (by have h1 := HBq5.out.size; omega) (fun e => by
            have h1 := (HGC.out.row.lt k e.symm).1
            have h2 := HB3.out.size
            omega)⟩)
          have HG10 := hid (show Gro wz w3.heap.size (.slice (some ⟨g, 0, none⟩) (k3 + 1) gc) (k3 + 1) ([([], [(x1 : Int), (x2 : Int)])] ++ mv (1 : Nat) A ++ mv (k2 : Nat) B ++ [([], [])]) ([.slice none 0 0, .slice (some ⟨q5, 0, none⟩) 2 2] ++ u3R ++ u8R ++ [.slice none 0 0, .slice none 0 0]) from HGC.out.grow gr.size (fun k _ hk hne => gr.block k hk (fun e => hne e.symm)) o9 (fun b hb => by
            have e : g = b := Option.some.inj hb
            rcases hl with h | h
            · exact .inl (e ▸ h)
            · exact .inr (by omega)))
          refine hKK _ _ (fun _ => trivial) (HCW.out _ HB10.out) ?_
          clear hKK KK o9 gr hl hlt hcz
          refine mixT_go rfl (by kernel_rfl) fun KK hKK => ?_
          go_simp
          refine hKK _ _ (fun _ => trivial) (HCW.out _ HB10.out) ?_
          clear hKK KK
          refine mixT_end (NoPanic.normal ⟨rfl, u3o, u3c, g4, g4c, u8o, u8c, g9, g9c, gz, g, gc, ⟨HB10.out, _, HG10.out⟩, ?_⟩)
          with_reducible rfl
      case m2 =>
        rintro a' wz ⟨u3o, u3c, g4, g4c, u8o, u8c, g9, g9c, gz, g, gc, ⟨hb, R10, hg⟩, rfl⟩
        have HB10 := hid hb
        obtain ⟨M10, hM10⟩ : ∃ M : List St, M = ([([], [(x1 : Int), (x2 : Int)])] ++ mv (1 : Nat) A ++ mv (k2 : Nat) B ++ [([], [])]) := ⟨_, rfl⟩
        rw [← hM10] at hg
        have HG10 := hid hg
        have HM10 := hid hM10
        clear hb hg hM10
        have HFM := hid (show fS M10 ≤ 300000 by
          have h1 := HFA.out
          have h2 := HFB.out
          rw [HM10.out, fS_app, fS_app, fS_app, fS_mv, fS_mv]
          have h0 : fS [(([], [(x1 : Int), (x2 : Int)]) : St)] = 2 := rfl
          have h3 : fS [(([], []) : St)] = 0 := rfl
          rw [h0, h3]
          omega)
        have t0 : (0 : Int) ≤ (q1 : Int) := by omega
        have t1 : (q1 : Int) < (k3 : Int) + 1 := by have := HBD.out; omega
        have t2 : (0 : Int) ≤ (q2 : Int) := by omega
        have t3 : (q2 : Int) < (k3 : Int) + 1 := by have := HBD.out; omega
        obtain ⟨⟨_, _, a2⟩, _, _, _⟩ := HCW.out _ HB10.out
        obtain ⟨E6, F6, hM, hF⟩ := frees_in (M := M10) (t := q1) (k := 300000) (by have h1 := HG10.out.len; have h2 := HBD.out; omega) HFM.out (by omega)
        obtain ⟨_, _, ho, hc, _, _, r1, _, _, oF, _, y1⟩ := HG10.out.at hM
        obtain ⟨gn, hgn⟩ : ∃ gn, gn = F6.length := ⟨_, rfl⟩
        rw [← hgn] at y1 oF hF r1
        have HM := hid hM
        have HR1 := hid r1
        have HOF := hid oF
        have HGN := hid hgn
        have hgs : g < wz.heap.size := (HG10.out.lts.1 g rfl).2
        have hBs : w3.heap.size ≤ wz.heap.size := by have := (HG10.out.lts.1 g rfl).1; omega
        have HFO := hid (show ∀ k, (Value.slice ho gn hc).ownBlock = some k → k ≠ g ∧ k < wz.heap.size ∧ w3.heap.size ≤ k from fun k hk => ⟨fun e => HG10.out.off _ (List.mem_of_getElem? r1) k hk (by rw [e]; rfl), (oF.lt k hk).2, (oF.lt k hk).1⟩)
        have hp31 : w.heap.size + 3 ≤ w3.heap.size := HBG.out
        clear hM r1 oF hgn
        go_wp2_with fail
        refine wp_region_mix [(0, true), (1, true), (2, true), (3, true), (4, true), (5, true), (6, true), (7, true), (8, true), (9, true), (10, true), (11, true), (12, false), (13, false), (14, false), (15, true), (16, false)] (fun w' => w'.cell? ⟨w.heap.size, 2, none⟩ = some (.int .i64 (fx : Int)) ∧ w'.cell? ⟨g, q1 * 2 + 1, none⟩ = some (.slice ho gn hc)) (fun j => j == 16) (by kernel_rfl) (by kernel_rfl) (fun j hj => by have := beq_iff_eq.1 hj; subst this; decide) rfl (by kernel_rfl) ⟨a2, y1⟩ ?_
        iterate 12 (refine mix_free ?_ rfl (by kernel_rfl) (fun w' hS => ?_) ?_; (rotate_left; (obtain ⟨s1, s2⟩ := hS; go_simp; with_reducible rfl); rotate_left))
        refine mix_go rfl (by kernel_rfl) fun KK hKK => ?_
        go_simp
        refine hKK _ _ (fun _ => ⟨cell_al a2, cell_al y1⟩) ?_
        clear hKK KK
        refine mix_go rfl (by kernel_rfl) fun KK hKK => ?_
        refine wp_append_lies _ _ _ 22 rfl w3.heap.size 3 i3x (.int .i64 0) 1 8 Tryd.underlying22 hi3 hz0 hz1' hz2 rfl (by decide) (.slice ho gn hc) gn (i64s F6) rfl (HOF.out.alloc _).drew ⟨wz.heap.size, 0, none⟩ 1 1 [.int .i64 (k3 : Int)] rfl rfl (news1 wz _ 3) (fun u hu => by simp at hu; rw [hu]; rfl) (by decide) (by unfold maxLen; omega) (by omega) (by show w3.heap.size ≤ (wz.alloc _).heap.size; simp; omega) (wz.heap.size + 1) (by show (wz.alloc _).heap.size = _; simp) ?_
        intro q qc w8 o8 gr8 hl8 hlt8
        have hs8 : wz.heap.size + 1 ≤ w8.heap.size := by
          have h : (wz.alloc (.cells #[.int .i64 (k3 : Int)] 3)).heap.size ≤ w8.heap.size := gr8.size
          simpa using h
        have hblk8 : ∀ b, b < wz.heap.size → (Value.slice ho gn hc).ownBlock ≠ some b → w8.heap[b]? = wz.heap[b]? := fun b hb hne => (gr8.block b (by show b < (wz.alloc _).heap.size; simp; omega) (fun e => hne e.symm)).trans (al_old wz _ hb)
        have hg8 : w8.heap[g]? = wz.heap[g]? := hblk8 g hgs fun e => (HFO.out g e).1 rfl
        have v8 : w8.cell? ⟨g, q1 * 2 + 1, none⟩ = some (.slice ho gn hc) := (World.cell?_of_block hg8).trans y1
        have x8 : w8.cell? ⟨w.heap.size, 2, none⟩ = some (.int .i64 (fx : Int)) := (World.cell?_of_block (hblk8 (w.heap.size) (World.block_lt_of_cell? wz _ a2) (fun e => by have := (HFO.out _ e).2.2; omega))).trans a2
        have orow : w8.ownsRow w3.heap.size 86 2 (.slice (some ⟨g, 0, none⟩) (k3 + 1) gc) (k3 + 1) _ := own_same HG10.out.row fun k hk _ => by
          have e : g = k := Option.some.inj hk
          rw [← e]; exact hg8
        have fz := orow.frozenAt (q1 * 2 + 1)
        refine hKK _ _ (fun _ => ⟨x8, v8⟩) ?_
        clear hKK KK
        refine mix_go rfl (by kernel_rfl) fun KK hKK => ?_
        go_simp
        refine hKK _ _ (fun _ => ⟨x8, v8⟩) ?_
        clear hKK KK
        refine mix_free ?_ rfl (by kernel_rfl) (fun w' hS => ?_) ?_; (rotate_left; (obtain ⟨s1, s2⟩ := hS; go_simp; with_reducible rfl); rotate_left)
        have HO8 := hid o8
        have HROW := hid orow
        have HB8 := hid hblk8
        have HS8 := hid hs8
        have HL8 := hid hl8
        have HT8 := hid (show w8.os = wz.os ∧ w8.tape = wz.tape ∧ w8.output = wz.output from ⟨gr8.os, gr8.tape, gr8.output⟩)
        clear o8 gr8 hl8 hlt8 hs8 hblk8 orow hg8
        refine mix_go rfl (by kernel_rfl) fun KK hKK => ?_
        go_simp
        refine hKK _ _ (fun h => by cases h) ?_
        clear hKK KK
        refine mix_end (NoPanic.normal ?_)
        obtain ⟨w11, hw9⟩ : ∃ W, W = w8.setCell ⟨g, q1 * 2 + 1, none⟩ (.slice (some ⟨q, 0, none⟩) (gn + 1) qc) := ⟨_, rfl⟩
        have hst := HROW.out.stored (q1 * 2 + 1) (.slice (some ⟨q, 0, none⟩) (gn + 1) qc)
        have hset : ∀ b, b ≠ g → (w8.setCell ⟨g, q1 * 2 + 1, none⟩ (.slice (some ⟨q, 0, none⟩) (gn + 1) qc)).heap[b]? = w8.heap[b]? := fun b hb => heap_setCell_other w8 ⟨g, q1 * 2 + 1, none⟩ b _ (fun e => hb e)
        have hss : (w8.setCell ⟨g, q1 * 2 + 1, none⟩ (.slice (some ⟨q, 0, none⟩) (gn + 1) qc)).heap.size = w8.heap.size := by simp
        rw [← hw9] at hst hset hss
        have HT9 := hid (show w11.os = wz.os ∧ w11.tape = wz.tape ∧ w11.output = wz.output from by rw [hw9]; exact HT8.out)
        have hs8 := HS8.out
        have hv : ∀ b, (Value.slice (some ⟨q, 0, none⟩) (gn + 1) qc).ownBlock = some b → (Value.slice ho gn hc).ownBlock = some b ∨ wz.heap.size ≤ b := fun b hb => by
          have e : q = b := Option.some.inj hb
          rcases HL8.out with h | h
          · exact .inl (e ▸ h)
          · exact .inr (by omega)
        have hk' : ∀ k, k < wz.heap.size → (Value.slice (some ⟨g, 0, none⟩) (k3 + 1) gc).ownBlock ≠ some k → (Value.slice ho gn hc).ownBlock ≠ some k → w11.heap[k]? = wz.heap[k]? := fun k hk h1 h2 => (hset k (fun e => h1 (by rw [e]; rfl))).trans (HB8.out k hk h2)
        have hs9 : wz.heap.size ≤ w11.heap.size := by rw [hss]; omega
        have hqg : q ≠ g := fun e => by
          rcases HL8.out with h | h
          · exact (HFO.out q h).1 e
          · omega
        obtain ⟨R11, hR9⟩ : ∃ R9, R9 = (R10).set (q1 * 2 + 1) (.slice (some ⟨q, 0, none⟩) (gn + 1) qc) := ⟨_, rfl⟩
        have HG11 := hid (show Gro w11 w3.heap.size (.slice (some ⟨g, 0, none⟩) (k3 + 1) gc) (k3 + 1) (adF (M10) q1 (k3 : Int)) R11 from by
          rw [hR9]
          refine HG10.out.addF HM.out HR1.out hs9 hk' hst.1 hv ?_
          rw [← HGN.out]
          exact own_same HO8.out fun b hb _ => hset b (by have e : q = b := Option.some.inj hb; omega))
        have HB11 := hid (show Below w1.heap.size w1 w11 from HB10.out.trans ((Gst.put (R := R10) (w' := w11) HR1.out HT9.out.1 HT9.out.2.1 HT9.out.2.2 hs9 hk' hv).low HG10.out hBs |>.mono HB3.out.size))
        rw [← hw9]
        clear hst hset hss hs8 hv hk' hs9 hqg hw9 HG10 HB10 a2 y1 x8 v8 fz hgs hBs hR9 HM HR1 HOF HFO HGN HO8 HROW HB8 HS8 HL8 HT8 HT9 hp31 hF
        obtain ⟨M11, hM11⟩ : ∃ M, M = adF M10 q1 (k3 : Int) := ⟨_, rfl⟩
        rw [← hM11] at HG11
        have HM11 := hid hM11
        have HFM := hid (show fS M11 ≤ 300001 by
          rw [hM11, fS_adF _ _ _ (by
            have h1 := HG11.out.len
            rw [hM11, adF_len] at h1
            have h2 := HBD.out
            omega)]
          have := HFM.out
          omega)
        clear hM11
        obtain ⟨⟨_, _, _⟩, _, _, b2⟩ := HCW.out _ HB11.out
        obtain ⟨E6, F6, hM, hF⟩ := frees_in (M := M11) (t := q2) (k := 300001) (by have h1 := HG11.out.len; have h2 := HBD.out; omega) HFM.out (by omega)
        obtain ⟨_, _, ho, hc, _, _, r1, _, _, oF, _, y1⟩ := HG11.out.at hM
        obtain ⟨gn, hgn⟩ : ∃ gn, gn = F6.length := ⟨_, rfl⟩
        rw [← hgn] at y1 oF hF r1
        have HM := hid hM
        have HR1 := hid r1
        have HOF := hid oF
        have HGN := hid hgn
        have hgs : g < w11.heap.size := (HG11.out.lts.1 g rfl).2
        have hBs : w3.heap.size ≤ w11.heap.size := by have := (HG11.out.lts.1 g rfl).1; omega
        have HFO := hid (show ∀ k, (Value.slice ho gn hc).ownBlock = some k → k ≠ g ∧ k < w11.heap.size ∧ w3.heap.size ≤ k from fun k hk => ⟨fun e => HG11.out.off _ (List.mem_of_getElem? r1) k hk (by rw [e]; rfl), (oF.lt k hk).2, (oF.lt k hk).1⟩)
        have hp31 : w.heap.size + 3 ≤ w3.heap.size := HBG.out
        clear hM r1 oF hgn
        go_wp2_with fail
        refine wp_region_mix [(0, true), (1, true), (2, true), (3, true), (4, true), (5, true), (6, true), (7, true), (8, true), (9, true), (10, true), (11, true), (12, true), (13, true), (14, false), (15, false), (16, false), (17, true), (18, false)] (fun w' => w'.cell? ⟨w.heap.size + 1, 2, none⟩ = some (.int .i64 (fy : Int)) ∧ w'.cell? ⟨g, q2 * 2 + 1, none⟩ = some (.slice ho gn hc)) (fun j => j == 18) (by kernel_rfl) (by kernel_rfl) (fun j hj => by have := beq_iff_eq.1 hj; subst this; decide) rfl (by kernel_rfl) ⟨b2, y1⟩ ?_
        iterate 14 (refine mix_free ?_ rfl (by kernel_rfl) (fun w' hS => ?_) ?_; (rotate_left; (obtain ⟨s1, s2⟩ := hS; go_simp; with_reducible rfl); rotate_left))
        refine mix_go rfl (by kernel_rfl) fun KK hKK => ?_
        go_simp
        refine hKK _ _ (fun _ => ⟨cell_al b2, cell_al y1⟩) ?_
        clear hKK KK
        refine mix_go rfl (by kernel_rfl) fun KK hKK => ?_
        refine wp_append_lies _ _ _ 22 rfl w3.heap.size 3 i3x (.int .i64 0) 1 8 Tryd.underlying22 hi3 hz0 hz1' hz2 rfl (by decide) (.slice ho gn hc) gn (i64s F6) rfl (HOF.out.alloc _).drew ⟨w11.heap.size, 0, none⟩ 1 1 [.int .i64 (k3 : Int)] rfl rfl (news1 w11 _ 3) (fun u hu => by simp at hu; rw [hu]; rfl) (by decide) (by unfold maxLen; omega) (by omega) (by show w3.heap.size ≤ (w11.alloc _).heap.size; simp; omega) (w11.heap.size + 1) (by show (w11.alloc _).heap.size = _; simp) ?_
        intro q qc w8 o8 gr8 hl8 hlt8
        have hs8 : w11.heap.size + 1 ≤ w8.heap.size := by
          have h : (w11.alloc (.cells #[.int .i64 (k3 : Int)] 3)).heap.size ≤ w8.heap.size := gr8.size
          simpa using h
        have hblk8 : ∀ b, b < w11.heap.size → (Value.slice ho gn hc).ownBlock ≠ some b → w8.heap[b]? = w11.heap[b]? := fun b hb hne => (gr8.block b (by show b < (w11.alloc _).heap.size; simp; omega) (fun e => hne e.symm)).trans (al_old w11 _ hb)
        have hg8 : w8.heap[g]? = w11.heap[g]? := hblk8 g hgs fun e => (HFO.out g e).1 rfl
        have v8 : w8.cell? ⟨g, q2 * 2 + 1, none⟩ = some (.slice ho gn hc) := (World.cell?_of_block hg8).trans y1
        have x8 : w8.cell? ⟨w.heap.size + 1, 2, none⟩ = some (.int .i64 (fy : Int)) := (World.cell?_of_block (hblk8 (w.heap.size + 1) (World.block_lt_of_cell? w11 _ b2) (fun e => by have := (HFO.out _ e).2.2; omega))).trans b2
        have orow : w8.ownsRow w3.heap.size 86 2 (.slice (some ⟨g, 0, none⟩) (k3 + 1) gc) (k3 + 1) _ := own_same HG11.out.row fun k hk _ => by
          have e : g = k := Option.some.inj hk
          rw [← e]; exact hg8
        have fz := orow.frozenAt (q2 * 2 + 1)
        refine hKK _ _ (fun _ => ⟨x8, v8⟩) ?_
        clear hKK KK
        refine mix_go rfl (by kernel_rfl) fun KK hKK => ?_
        go_simp
        refine hKK _ _ (fun _ => ⟨x8, v8⟩) ?_
        clear hKK KK
        refine mix_free ?_ rfl (by kernel_rfl) (fun w' hS => ?_) ?_; (rotate_left; (obtain ⟨s1, s2⟩ := hS; go_simp; with_reducible rfl); rotate_left)
        have HO8 := hid o8
        have HROW := hid orow
        have HB8 := hid hblk8
        have HS8 := hid hs8
        have HL8 := hid hl8
        have HT8 := hid (show w8.os = w11.os ∧ w8.tape = w11.tape ∧ w8.output = w11.output from ⟨gr8.os, gr8.tape, gr8.output⟩)
        clear o8 gr8 hl8 hlt8 hs8 hblk8 orow hg8
        refine mix_go rfl (by kernel_rfl) fun KK hKK => ?_
        go_simp
        refine hKK _ _ (fun h => by cases h) ?_
        clear hKK KK
        refine mix_end (NoPanic.normal ?_)
        obtain ⟨w12, hw9⟩ : ∃ W, W = w8.setCell ⟨g, q2 * 2 + 1, none⟩ (.slice (some ⟨q, 0, none⟩) (gn + 1) qc) := ⟨_, rfl⟩
        have hst := HROW.out.stored (q2 * 2 + 1) (.slice (some ⟨q, 0, none⟩) (gn + 1) qc)
        have hset : ∀ b, b ≠ g → (w8.setCell ⟨g, q2 * 2 + 1, none⟩ (.slice (some ⟨q, 0, none⟩) (gn + 1) qc)).heap[b]? = w8.heap[b]? := fun b hb => heap_setCell_other w8 ⟨g, q2 * 2 + 1, none⟩ b _ (fun e => hb e)
        have hss : (w8.setCell ⟨g, q2 * 2 + 1, none⟩ (.slice (some ⟨q, 0, none⟩) (gn + 1) qc)).heap.size = w8.heap.size := by simp
        rw [← hw9] at hst hset hss
        have HT9 := hid (show w12.os = w11.os ∧ w12.tape = w11.tape ∧ w12.output = w11.output from by rw [hw9]; exact HT8.out)
        have hs8 := HS8.out
        have hv : ∀ b, (Value.slice (some ⟨q, 0, none⟩) (gn + 1) qc).ownBlock = some b → (Value.slice ho gn hc).ownBlock = some b ∨ w11.heap.size ≤ b := fun b hb => by
          have e : q = b := Option.some.inj hb
          rcases HL8.out with h | h
          · exact .inl (e ▸ h)
          · exact .inr (by omega)
        have hk' : ∀ k, k < w11.heap.size → (Value.slice (some ⟨g, 0, none⟩) (k3 + 1) gc).ownBlock ≠ some k → (Value.slice ho gn hc).ownBlock ≠ some k → w12.heap[k]? = w11.heap[k]? := fun k hk h1 h2 => (hset k (fun e => h1 (by rw [e]; rfl))).trans (HB8.out k hk h2)
        have hs9 : w11.heap.size ≤ w12.heap.size := by rw [hss]; omega
        have hqg : q ≠ g := fun e => by
          rcases HL8.out with h | h
          · exact (HFO.out q h).1 e
          · omega
        obtain ⟨R12, hR9⟩ : ∃ R9, R9 = (R11).set (q2 * 2 + 1) (.slice (some ⟨q, 0, none⟩) (gn + 1) qc) := ⟨_, rfl⟩
        have HG12 := hid (show Gro w12 w3.heap.size (.slice (some ⟨g, 0, none⟩) (k3 + 1) gc) (k3 + 1) (adF (M11) q2 (k3 : Int)) R12 from by
          rw [hR9]
          refine HG11.out.addF HM.out HR1.out hs9 hk' hst.1 hv ?_
          rw [← HGN.out]
          exact own_same HO8.out fun b hb _ => hset b (by have e : q = b := Option.some.inj hb; omega))
        have HB12 := hid (show Below w1.heap.size w1 w12 from HB11.out.trans ((Gst.put (R := R11) (w' := w12) HR1.out HT9.out.1 HT9.out.2.1 HT9.out.2.2 hs9 hk' hv).low HG11.out hBs |>.mono HB3.out.size))
        rw [← hw9]
        clear hst hset hss hs8 hv hk' hs9 hqg hw9 HG11 HB11 b2 y1 x8 v8 fz hgs hBs hR9 HM HR1 HOF HFO HGN HO8 HROW HB8 HS8 HL8 HT8 HT9 hp31 hF
        have hp31 : w.heap.size + 3 ≤ w3.heap.size := HBG.out
        obtain ⟨hz1, hbw⟩ := HBAD.out _ HB12.out
        have z0 := frozen_of_row w12 (w.heap.size + 2) 0 _ 28 hz1
        have z1 := frozen_of_row w12 (w.heap.size + 2) 1 _ 28 hz1
        have z2 := frozen_of_row w12 (w.heap.size + 2) 2 _ 28 hz1
        have y0 : w12.cell? ⟨w.heap.size + 2, 0, none⟩ = some (.slice none 0 0) := by rw [cell_of_row w12 (w.heap.size + 2) 0 _ 28 (0, 0) hz1]; rfl
        have y1 : w12.cell? ⟨w.heap.size + 2, 1, none⟩ = some (.int .i64 0) := by rw [cell_of_row w12 (w.heap.size + 2) 1 _ 28 (0, 0) hz1]; rfl
        have y2 : w12.cell? ⟨w.heap.size + 2, 2, none⟩ = some (.int .i64 0) := by rw [cell_of_row w12 (w.heap.size + 2) 2 _ 28 (0, 0) hz1]; rfl
        have HR := hid hz1
        have HBW := hid hbw
        clear hz1 hbw e3 e4
        go_wp2
        (try simp only [Exit.inBlock, Exit.then])
        have e1 := heap_setCell_same w12 (w.heap.size + 2) 0 _ 28 (.slice (some ⟨g, 0, none⟩) (k3 + 1) gc) HR.out
        have e2 := heap_setCell_same _ (w.heap.size + 2) 1 _ 28 (.int .i64 0) e1
        have e3 := heap_setCell_same _ (w.heap.size + 2) 2 _ 28 (.int .i64 (k3 : Int)) e2
        refine bodyPost_ret (results_cell_row rfl _ _ (w.heap.size + 2) 28 #[.slice (some ⟨g, 0, none⟩) (k3 + 1) gc, .int .i64 0, .int .i64 (k3 : Int)] (0, 0) _ rfl e3 Tryd.underlying28 rfl (by kernel_rfl)) rfl ?_
        have hoth : ∀ b, b ≠ w.heap.size + 2 → (((w12.setCell ⟨w.heap.size + 2, 0, none⟩ (.slice (some ⟨g, 0, none⟩) (k3 + 1) gc)).setCell ⟨w.heap.size + 2, 1, none⟩ (.int .i64 0)).setCell ⟨w.heap.size + 2, 2, none⟩ (.int .i64 (k3 : Int))).heap[b]? = w12.heap[b]? := fun b hb => by
          rw [heap_setCell_other _ ⟨w.heap.size + 2, 2, none⟩ b _ (fun e => hb e), heap_setCell_other _ ⟨w.heap.size + 2, 1, none⟩ b _ (fun e => hb e), heap_setCell_other _ ⟨w.heap.size + 2, 0, none⟩ b _ (fun e => hb e)]
        have hfin : Below w.heap.size w (((w12.setCell ⟨w.heap.size + 2, 0, none⟩ (.slice (some ⟨g, 0, none⟩) (k3 + 1) gc)).setCell ⟨w.heap.size + 2, 1, none⟩ (.int .i64 0)).setCell ⟨w.heap.size + 2, 2, none⟩ (.int .i64 (k3 : Int))) := HBW.out.trans ⟨rfl, rfl, rfl, by simp, fun b hb => hoth b (by omega)⟩
        have hJ : adF M11 q2 (k3 : Int) = orl A sx fx B sy fy := by
          rw [HM11.out, HM10.out]
          obtain ⟨h1, h2, h3, h4⟩ := HX.out
          exact orr_eq (by rw [HK2.out, HNA.out]) h1 h2 h3 h4 (by rw [HK3.out, HNB.out])
        refine ⟨w3.heap.size, _, _, _, _, R12, 0, (k3 : Int), rfl, ⟨fun _ => ⟨hJ, rfl, by have h1 := HK3.out; have h2 := HK2.out; have h3 := HNA.out; have h4 := HNB.out; omega⟩, fun h => (by rw [HOK.out] at h; cases h)⟩, by omega, (by have h : w3.heap.size ≤ w12.heap.size := (by have h1 := (HG12.out.lts.1 g rfl); omega); simpa using h), ?_, hfin⟩
        exact HG12.out.keep2 (by simp) fun k hk _ => hoth k (by omega)
    · rw [hGB]
      obtain ⟨hz1, hbw⟩ := HBAD.out _ HB3.out
      have z0 := frozen_of_row w3 (w.heap.size + 2) 0 _ 28 hz1
      have z1 := frozen_of_row w3 (w.heap.size + 2) 1 _ 28 hz1
      have z2 := frozen_of_row w3 (w.heap.size + 2) 2 _ 28 hz1
      have y0 : w3.cell? ⟨w.heap.size + 2, 0, none⟩ = some (.slice none 0 0) := by rw [cell_of_row w3 (w.heap.size + 2) 0 _ 28 (0, 0) hz1]; rfl
      have y1 : w3.cell? ⟨w.heap.size + 2, 1, none⟩ = some (.int .i64 0) := by rw [cell_of_row w3 (w.heap.size + 2) 1 _ 28 (0, 0) hz1]; rfl
      have y2 : w3.cell? ⟨w.heap.size + 2, 2, none⟩ = some (.int .i64 0) := by rw [cell_of_row w3 (w.heap.size + 2) 2 _ 28 (0, 0) hz1]; rfl
      have HR := hid hz1
      have HBW := hid hbw
      have HGB := hid (show (gdB A sa fa && gdB B sb fb) = false by rw [hGA, hGB]; rfl)
      clear hz1 hbw
      go_wp2
      (try simp only [Exit.inBlock, Exit.then])
      have e1 := heap_setCell_same w3 (w.heap.size + 2) 0 _ 28 (.slice none 0 0) HR.out
      have e2 := heap_setCell_same _ (w.heap.size + 2) 1 _ 28 (.int .i64 0) e1
      have e3 := heap_setCell_same _ (w.heap.size + 2) 2 _ 28 (.int .i64 0) e2
      refine bodyPost_ret (results_cell_row rfl _ _ (w.heap.size + 2) 28 #[.slice none 0 0, .int .i64 0, .int .i64 0] (0, 0) _ rfl e3 Tryd.underlying28 rfl (by kernel_rfl)) rfl ?_
      have hfin : Below w.heap.size w (((w3.setCell ⟨w.heap.size + 2, 0, none⟩ (.slice none 0 0)).setCell ⟨w.heap.size + 2, 1, none⟩ (.int .i64 0)).setCell ⟨w.heap.size + 2, 2, none⟩ (.int .i64 0)) := HBW.out.trans ⟨rfl, rfl, rfl, by simp, fun b hb => by
        rw [heap_setCell_other _ ⟨w.heap.size + 2, 2, none⟩ b _ (fun e => by have e' : b = w.heap.size + 2 := e; omega), heap_setCell_other _ ⟨w.heap.size + 2, 1, none⟩ b _ (fun e => by have e' : b = w.heap.size + 2 := e; omega), heap_setCell_other _ ⟨w.heap.size + 2, 0, none⟩ b _ (fun e => by have e' : b = w.heap.size + 2 := e; omega)]⟩
      exact ⟨w.heap.size, none, 0, 0, [], [], 0, 0, rfl, ⟨fun h => (by rw [HGB.out] at h; cases h), fun _ => ⟨rfl, rfl, rfl⟩⟩, Nat.le_refl _, hfin.size, Gro.nil _ _, hfin⟩
  · rw [hGA]
    obtain ⟨hz1, hbw⟩ := HBAD.out _ HB2.out
    have z0 := frozen_of_row w2 (w.heap.size + 2) 0 _ 28 hz1
    have z1 := frozen_of_row w2 (w.heap.size + 2) 1 _ 28 hz1
    have z2 := frozen_of_row w2 (w.heap.size + 2) 2 _ 28 hz1
    have y0 : w2.cell? ⟨w.heap.size + 2, 0, none⟩ = some (.slice none 0 0) := by rw [cell_of_row w2 (w.heap.size + 2) 0 _ 28 (0, 0) hz1]; rfl
    have y1 : w2.cell? ⟨w.heap.size + 2, 1, none⟩ = some (.int .i64 0) := by rw [cell_of_row w2 (w.heap.size + 2) 1 _ 28 (0, 0) hz1]; rfl
    have y2 : w2.cell? ⟨w.heap.size + 2, 2, none⟩ = some (.int .i64 0) := by rw [cell_of_row w2 (w.heap.size + 2) 2 _ 28 (0, 0) hz1]; rfl
    have HR := hid hz1
    have HBW := hid hbw
    have HGB := hid (show (gdB A sa fa && gdB B sb fb) = false by rw [hGA]; rfl)
    clear hz1 hbw
    go_wp2
    (try simp only [Exit.inBlock, Exit.then])
    have e1 := heap_setCell_same w2 (w.heap.size + 2) 0 _ 28 (.slice none 0 0) HR.out
    have e2 := heap_setCell_same _ (w.heap.size + 2) 1 _ 28 (.int .i64 0) e1
    have e3 := heap_setCell_same _ (w.heap.size + 2) 2 _ 28 (.int .i64 0) e2
    refine bodyPost_ret (results_cell_row rfl _ _ (w.heap.size + 2) 28 #[.slice none 0 0, .int .i64 0, .int .i64 0] (0, 0) _ rfl e3 Tryd.underlying28 rfl (by kernel_rfl)) rfl ?_
    have hfin : Below w.heap.size w (((w2.setCell ⟨w.heap.size + 2, 0, none⟩ (.slice none 0 0)).setCell ⟨w.heap.size + 2, 1, none⟩ (.int .i64 0)).setCell ⟨w.heap.size + 2, 2, none⟩ (.int .i64 0)) := HBW.out.trans ⟨rfl, rfl, rfl, by simp, fun b hb => by
      rw [heap_setCell_other _ ⟨w.heap.size + 2, 2, none⟩ b _ (fun e => by have e' : b = w.heap.size + 2 := e; omega), heap_setCell_other _ ⟨w.heap.size + 2, 1, none⟩ b _ (fun e => by have e' : b = w.heap.size + 2 := e; omega), heap_setCell_other _ ⟨w.heap.size + 2, 0, none⟩ b _ (fun e => by have e' : b = w.heap.size + 2 := e; omega)]⟩
    exact ⟨w.heap.size, none, 0, 0, [], [], 0, 0, rfl, ⟨fun h => (by rw [HGB.out] at h; cases h), fun _ => ⟨rfl, rfl, rfl⟩⟩, Nat.le_refl _, hfin.size, Gro.nil _ _, hfin⟩
end Go.Proofs.YteacehfihogmpaaDoor
