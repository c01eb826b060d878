/- The contract of Alike: two automata that read as the same one. -/
import Derived.Test.YtkmcbhdjecpmjaaDoorSmall7
import Derived.Test.YtkmcbhdjecpmjaaDoorMix
namespace Go.Proofs.YtkmcbhdjecpmjaaDoor
open Go.RowKit

theorem cell_al {w : World} {o : Obj} {p : Addr} {v : Value} (h : w.cell? p = some v) : (w.alloc o).cell? p = some v := (World.cell?_of_block (Below.heap_alloc w o _ (World.block_lt_of_cell? w p h))).trans h
theorem al_old (w : World) (o : Obj) {k : Nat} (hk : k < w.heap.size) : (w.alloc o).heap[k]? = w.heap[k]? := (World.grownBy_alloc w o none).block k hk (by simp)
theorem al_new (w : World) (o : Obj) {k : Nat} (hk : k = w.heap.size) : (w.alloc o).heap[k]? = some o := by rw [hk]; exact heap_alloc_new w o
theorem two_size {w wr : World} {A B : Array Value} (h : Below (w.heap.size + 2) ((w.alloc (.cells A 32)).alloc (.cells B 32)) wr) : w.heap.size + 2 ≤ wr.heap.size := by have := h.size; simpa using this
theorem two_box {w wr : World} {A B : Array Value} (h : Below (w.heap.size + 2) ((w.alloc (.cells A 32)).alloc (.cells B 32)) wr) : (∀ k, wr.cell? ⟨w.heap.size, k, none⟩ = A[k]?) ∧ ∀ k, wr.cell? ⟨w.heap.size + 1, k, none⟩ = B[k]? := by
  refine ⟨fun k => ?_, fun k => ?_⟩
  · have h1 : wr.heap[w.heap.size]? = some (.cells A 32) := by rw [h.block w.heap.size (by omega), al_old _ _ (by simp), al_new _ _ rfl]
    rw [cell_of_row wr w.heap.size k A 32 (0, 0) h1]
  · have h1 : wr.heap[w.heap.size + 1]? = some (.cells B 32) := by rw [h.block (w.heap.size + 1) (by omega), al_new _ _ (by simp)]
    rw [cell_of_row wr (w.heap.size + 1) k B 32 (0, 0) h1]
theorem two_low {w wr : World} {A B : Array Value} (h : Below (w.heap.size + 2) ((w.alloc (.cells A 32)).alloc (.cells B 32)) wr) : Below w.heap.size w wr :=
  (((Below.refl w.heap.size w).alloc (Nat.le_refl _) _).alloc (by simp) _).trans (h.mono (by omega))
theorem two_same {w : World} {A B : Array Value} : Below (w.heap.size + 2) ((w.alloc (.cells A 32)).alloc (.cells B 32)) ((w.alloc (.cells A 32)).alloc (.cells B 32)) := Below.refl _ _
theorem DRd.two {w W : World} {A B : Array Value} {no to : Option Addr} {n m : Nat} {R : Rw} {T : List Int} (h : DRd w no n to m R T) (hb : Below (w.heap.size + 2) ((w.alloc (.cells A 32)).alloc (.cells B 32)) W) : DRd W no n to m R T := h.below (two_low hb)
set_option maxHeartbeats 4000000 in
set_option maxRecDepth 100000 in
theorem alike_any (c : Int) (no to qo uo : Option Addr) (n nc m tc qc uc : Nat) (R : Rw) (T : List Int) (w : World) (hd : DRd w no n to m R T) (hq : DRd w qo n uo m R T) :
    Calls Tryd.prog 15 #[.agg #[.int .i64 c, .slice no n nc, .slice to m tc], .agg #[.int .i64 c, .slice qo n qc, .slice uo m uc]] w fun e w' => e = .returned (.bool true) ∧ Below w.heap.size w w' := by
  have hnl := hd.nl
  have hml := hd.ml
  unfold most at hnl hml
  have HD := hid hd
  have HQ := hid hq
  clear hd hq
  have HB0 := hid (two_same (w := w) (A := #[.int .i64 c, .slice no n nc, .slice to m tc]) (B := #[.int .i64 c, .slice qo n qc, .slice uo m uc]))
  have cc' : (c != c) = false := bne_eq_false_iff_eq.2 rfl
  have nn' : ((n : Int) != (n : Int)) = false := bne_eq_false_iff_eq.2 rfl
  go_enter Tryd.func15, Tryd.ntmps15
  go_wp2_with fail
  refine (places_any to uo m tc uc T _ (HD.out.two HB0.out).take (HQ.out.two HB0.out).take HD.out.hm HD.out.ml).mono ?_
  rintro e w1 ⟨rfl, be1⟩
  have HB1 := hid (HB0.out.trans (be1.mono (by simp)))
  clear be1 cc' nn' HB0
  go_wp2
  go_loopw [5] (fun y wr => ∃ i : Nat, y = .int .i64 i ∧ i ≤ n ∧ Hid (Below (w.heap.size + 2) ((w.alloc (.cells #[.int .i64 c, .slice no n nc, .slice to m tc] 32)).alloc (.cells #[.int .i64 c, .slice qo n qc, .slice uo m uc] 32)) wr)) (fun y _ => n - (intOf y).toNat)
  case atStart => exact ⟨0, rfl, Nat.zero_le _, HB1⟩
  case round =>
    clear HB1
    obtain ⟨k, rfl, hk, HB⟩ := hrel
    have c0 : wr.cell? ⟨w.heap.size, 1, none⟩ = some (.slice no n nc) := (two_box HB.out).1 1
    have d0 : wr.cell? ⟨w.heap.size + 1, 1, none⟩ = some (.slice qo n qc) := (two_box HB.out).2 1
    by_cases hlt : k < n
    · have i3 : (k : Int) < (n : Int) := by omega
      have i0 : (0 : Int) ≤ (k : Int) := by omega
      obtain ⟨row, a, co, cc, hr, rfl, ha, a0, hI, hrl⟩ := (HD.out.two HB.out).row hlt
      obtain ⟨row', b, eo, ec, hr', rfl, hb, b0, hJ, _⟩ := (HQ.out.two HB.out).row hlt
      rw [hr] at hr'
      cases hr'
      obtain ⟨l, hl⟩ : ∃ l, l = row.length := ⟨_, rfl⟩
      rw [← hl] at a0 b0 hrl
      have HI := hid hI
      have HJ := hid hJ
      have HL := hid hl
      clear hr hl ha hb hI hJ
      go_wp2_with fail
      refine wp_region_mix [(0, true), (1, true), (2, true), (3, true), (4, true), (5, true), (6, true), (7, true), (8, true), (9, true), (10, false), (11, true)] (fun w' => w'.cell? ⟨w.heap.size, 1, none⟩ = some (.slice (some a) n nc) ∧ w'.cell? ⟨w.heap.size + 1, 1, none⟩ = some (.slice (some b) n qc) ∧ w'.cell? (a.add k) = some (.slice co l cc) ∧ w'.cell? (b.add k) = some (.slice eo l ec)) (fun _ => false) (by kernel_rfl) (by kernel_rfl) (fun j hj => by cases hj) rfl (by kernel_rfl) ⟨c0, d0, a0, b0⟩ ?_
      iterate 10 (refine mix_free ?_ rfl (by kernel_rfl) (fun w' hS => ?_) ?_; (rotate_left; (obtain ⟨s1, s2, s3, s4⟩ := hS; go_simp; with_reducible rfl); rotate_left))
      refine mix_go rfl (by kernel_rfl) fun KK hKK => ?_
      go_simp
      have HBd := hid HB.out.drew
      refine (places_any co eo l cc ec row wr.drew HI.out HJ.out HL.out hrl).mono ?_
      rintro e w2 ⟨rfl, be2⟩
      have HB2 := hid (HBd.out.trans (be2.mono (two_size HBd.out)))
      refine hKK _ _ (fun _ => ⟨cell_bl be2 c0, cell_bl be2 d0, cell_bl be2 a0, cell_bl be2 b0⟩) ?_
      clear hKK KK be2
      iterate 1 (refine mix_free ?_ rfl (by kernel_rfl) (fun w' hS => ?_) ?_; (rotate_left; (go_simp; with_reducible rfl); rotate_left))
      refine mix_end (NoPanic.normal ?_)
      go_wp2
      go_roundw
      case rel => exact ⟨k + 1, by go_num, by omega, HB2⟩
      case measure => simp [intOf]; omega
    · have i3 : ¬ (k : Int) < (n : Int) := by omega
      go_wp2
      go_ret
      exact ⟨rfl, two_low HB.out⟩
end Go.Proofs.YtkmcbhdjecpmjaaDoor
