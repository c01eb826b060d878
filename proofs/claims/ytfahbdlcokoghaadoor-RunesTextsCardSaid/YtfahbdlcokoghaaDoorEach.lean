/- The contract of the iterator of Each (package runes), and of Each. -/
import Derived.Test.YtfahbdlcokoghaaDoorEachMath
import Derived.Test.YtfahbdlcokoghaaDoorRuns2
namespace Go.Proofs.YtfahbdlcokoghaaDoor
open Go.RowKit Go.Shelf
attribute [local go_sem] Oper.semAt_some

/-- What a body may do: turn one block; whatever else is cells or a walk stays. -/
structure KpB (b : Nat) (W W' : World) : Prop where
  size : W.heap.size ≤ W'.heap.size
  same : ∀ (j : Nat) (o : Obj), W.heap[j]? = some o → j ≠ b → (o.isCells = true ∨ o.isWalk = true) → W'.heap[j]? = some o
theorem KpB.t {b : Nat} {A B C : World} (h : KpB b A B) (k : KpB b B C) : KpB b A C := ⟨Nat.le_trans h.size k.size, fun j o hj hb ho => k.same j o (h.same j o hj hb ho) hb ho⟩
theorem KpB.b {b : Nat} {w : World} (W : World) (l : Nat) (o o' : Obj) (_ : w.heap.size ≤ l) (h : W.heap[l]? = some o) (hc : o.isCells = false) (hk : o.isWalk = false) : KpB b W (W.putObj l o') :=
  ⟨by simp [World.putObj], fun j p hj _ hp => by
    by_cases e : j = l
    · subst e; rw [h] at hj; cases hj; rcases hp with hp | hp
      · rw [hc] at hp; cases hp
      · rw [hk] at hp; cases hp
    · exact (World.putObj_heap_other e).trans hj⟩
theorem KpB.refl (b : Nat) (W : World) : KpB b W W := ⟨Nat.le_refl _, fun _ _ h _ _ => h⟩
theorem KpB.cells {b j : Nat} {W W' : World} {c : Array Value} {t : TypeId} {fz : Nat × Nat} (h : KpB b W W') (hj : W.heap[j]? = some (.cells c t fz)) (hb : j ≠ b) : W'.heap[j]? = some (.cells c t fz) := h.same j _ hj hb (.inl rfl)

/-- What the iterator of Each has caught: a normal form. -/
structure EachAt (Bl : Nat) (so : Option Addr) (sc : Nat) (s : List Rg) (w : World) : Prop where
  bl : Boxed w Bl 22 (.slice so s.length sc)
  row : ∀ a : Addr, so = some a → ∃ c fz, w.heap[a.block]? = some (.cells c 30 fz)
  rd : RdR w so s
theorem rdr_of_block {so : Option Addr} {s : List Rg} {w w' : World} (h : RdR w so s) (hs : w.heap.size ≤ w'.heap.size) (hk : ∀ a : Addr, so = some a → w'.heap[a.block]? = w.heap[a.block]?) : RdR w' so s := fun k g hg => by
  obtain ⟨a, h1, h2, h3, h4⟩ := h k g hg
  have hb := hk a h1
  exact ⟨a, h1, Nat.lt_of_lt_of_le h2 hs, (World.cell?_of_block (w := w) (a := a.add (k * 2)) (by rw [add_blk]; exact hb)).trans h3, (World.cell?_of_block (w := w) (a := ⟨(a.add (k * 2)).block, (a.add (k * 2)).off + 1, none⟩) (by show _[(a.add (k * 2)).block]? = _[(a.add (k * 2)).block]?; rw [add_blk]; exact hb)).trans h4⟩
theorem EachAt.keeps {Bl : Nat} {so : Option Addr} {sc : Nat} {s : List Rg} {w w' : World} (h : EachAt Bl so sc s w) (hs : w.heap.size ≤ w'.heap.size) (hb : w'.heap[Bl]? = w.heap[Bl]?) (hk : ∀ a : Addr, so = some a → w'.heap[a.block]? = w.heap[a.block]?) : EachAt Bl so sc s w' where
  bl := hb.trans h.bl
  row := fun a ha => by obtain ⟨c, fz, hc⟩ := h.row a ha; exact ⟨c, fz, (hk a ha).trans hc⟩
  rd := rdr_of_block h.rd hs hk
theorem EachAt.below {Bl B : Nat} {so : Option Addr} {sc : Nat} {s : List Rg} {w w' : World} (h : EachAt Bl so sc s w) (hb : Below B w w') (hB : w.heap.size ≤ B) : EachAt Bl so sc s w' :=
  h.keeps hb.size (hb.block Bl (Nat.lt_of_lt_of_le h.bl.lt hB)) (fun a ha => by
    obtain ⟨c, fz, hc⟩ := h.row a ha
    exact hb.block a.block (Nat.lt_of_lt_of_le (Array.getElem?_eq_some_iff.1 hc).1 hB))

set_option maxHeartbeats 1000000 in
theorem each_any (ao : Option Addr) (ac : Nat) (g : List Rg) (w : World) (ha : RdR w ao g) (hg : g.length ≤ 100000) :
    Calls Tryd.prog 33 #[.slice ao g.length ac] w fun e w' => ∃ (so : Option Addr) (sc : Nat), e = .returned (.func (.func 49) #[] #[.pointer (some ⟨w.heap.size, 0, none⟩)]) ∧ EachAt w.heap.size so sc (nrm g) w' ∧ (∀ a : Addr, so = some a → w.heap.size < a.block) ∧ Below w.heap.size w w' := by
  have HA := hid ha
  clear ha
  go_enter Tryd.func33, Tryd.ntmps33
  have hb1 : Below w.heap.size w (w.alloc (.cells #[.slice ao g.length ac] 22)) := (Below.refl _ _).alloc (Nat.le_refl _) _
  have HN := hid (norm_any ao ac g _ (HA.out.below hb1) hg)
  have bL := Boxed.new w 22 (.slice ao g.length ac)
  obtain ⟨w1, hw1⟩ : ∃ w1, w1 = w.alloc (.cells #[.slice ao g.length ac] 22) := ⟨_, rfl⟩
  have hs1 : w1.heap.size = w.heap.size + 1 := by rw [hw1]; simp
  rw [← hw1] at hb1 HN bL
  go_wp2_with fail
  rw [← hw1]
  refine HN.out.mono ?_
  rintro e w2 ⟨v, rfl, o1, hB⟩
  have hsz2 := hB.size
  have hrow : ∃ (so : Option Addr) (sc : Nat), v = .slice so (nrm g).length sc ∧ RdR w2 so (nrm g) ∧ ∀ a : Addr, so = some a → w1.heap.size ≤ a.block ∧ ∃ c fz, w2.heap[a.block]? = some (.cells c 30 fz) := by
    obtain ⟨so, sc, hv, hrd⟩ := rdr_row o1
    refine ⟨so, sc, hv, hrd, fun a ea => ?_⟩
    rcases o1.2 with ⟨h1, _⟩ | ⟨gg, cap, cur, h1, h2, h3, _⟩
    · rw [hv, ea] at h1; cases h1
    · rw [hv, ea] at h1
      injection h1 with h1 _ _
      injection h1 with h1
      subst h1
      exact ⟨h2, _, _, h3⟩
  obtain ⟨so, sc, rfl, hrd, hrb⟩ := hrow
  have bL2 : Boxed w2 w.heap.size 22 (.slice ao g.length ac) := (hB.block w.heap.size (by omega)).trans bL
  have bL3 := bL2.set (.slice so (nrm g).length sc)
  have hf := bL2.frozen
  have hc := bL2.cell
  have HB3 := hid (show Below w.heap.size w (w2.setCell ⟨w.heap.size, 0, none⟩ (.slice so (nrm g).length sc)) from (hb1.trans (hB.mono (by omega))).setCell (p := ⟨w.heap.size, 0, none⟩) (Nat.le_refl _) _)
  have hoth : ∀ a : Addr, so = some a → (w2.setCell ⟨w.heap.size, 0, none⟩ (.slice so (nrm g).length sc)).heap[a.block]? = w2.heap[a.block]? := fun a ea => Below.heap_setCell w2 ⟨w.heap.size, 0, none⟩ _ a.block (by have := (hrb a ea).1; show a.block ≠ w.heap.size; omega)
  have HR := hid (show EachAt w.heap.size so sc (nrm g) (w2.setCell ⟨w.heap.size, 0, none⟩ (.slice so (nrm g).length sc)) from
    { bl := bL3
      row := fun a ea => by obtain ⟨_, c, fz, r3⟩ := hrb a ea; exact ⟨c, fz, (hoth a ea).trans r3⟩
      rd := rdr_of_block hrd (by simp) hoth })
  have HW := hid (show ∀ a : Addr, so = some a → w.heap.size < a.block from fun a ea => by have := (hrb a ea).1; omega)
  clear bL3 bL2 bL hrd hrb o1 hB HN hoth
  go_wp2
  go_ret
  exact ⟨so, sc, rfl, HR.out, HW.out, HB3.out⟩

def encE (x : Int) : Array Value := #[.int .i32 x]

set_option maxHeartbeats 2000000 in
theorem each_stops (n b Bl : Nat) (hn : 1 ≤ n) (so : Option Addr) (sc : Nat) (s : List Rg) (w : World) (hR : EachAt Bl so sc s w) (hnf : nf s) (hs : s.length ≤ 100000) (hb1 : b ≠ Bl) (hb2 : ∀ a : Addr, so = some a → a.block ≠ b) (hb3 : b < w.heap.size) :
    SeqStopsK Fence.wide n Tryd.prog 49 #[.pointer (some ⟨Bl, 0, none⟩)] encE (KpB b) (fun xs => xs = els s) (fun pre => pre <+: els s) (els s).length w := fun lp J Jx W hbW hJ hJx hY h0 => by
  have hRW := hR.below hbW (Nat.le_refl _)
  have hcW := hRW.bl.cell
  have HRW := hid hRW
  have HNF := hid hnf
  have HB2 := hid hb2
  have hbWs : b < W.heap.size := Nat.lt_of_lt_of_le hb3 hbW.size
  clear hRW hR hnf hbW hb2 hb3
  refine callsIn_of_wp Tryd.func49 rfl trivial ?_ rfl
  simp only [Tryd.ntmps49, List.size_toArray, List.length_cons, List.length_nil, Nat.reduceAdd, Nat.reduceSub, Array.replicate_succ, Array.replicate_zero, List.push_toArray, List.append_toArray, List.nil_append, List.cons_append]
  gi_wp2
  gi_loopw [8] (fun v wr => ∃ k : Nat, v = .int .i64 k ∧ k ≤ s.length ∧ Hid (J (els (s.take k)) wr) ∧ Hid (EachAt Bl so sc s wr) ∧ W.heap.size ≤ wr.heap.size) (fun v _ => s.length - (intOf v).toNat)
  case atStart => exact ⟨0, rfl, by omega, h0, HRW, Nat.le_refl _⟩
  case round =>
    obtain ⟨k, rfl, hk, HJ, HE, hws⟩ := hrel
    by_cases hlt : k < s.length
    · obtain ⟨gs, rfl, hgs, y0, y1⟩ := HE.out.rd k s[k] (List.getElem?_eq_getElem hlt)
      obtain ⟨n1, n2, n3⟩ := nf_at HNF.out (List.getElem?_eq_getElem hlt)
      unfold top at n3
      have HMID := hid (fun m hm => els_mid (s := s) (k := k) (m := m) hlt hm)
      have HTK := hid (els_take hlt)
      have i3 : (k : Int) < (s.length : Int) := by omega
      generalize s[k].1 = f0 at *
      generalize s[k].2 = f1 at *
      have hgr : gs.block ≠ b := HB2.out gs rfl
      have HJ1 := hid (hJ _ wr _ none HJ.out (World.grownBy_alloc wr (.cells #[.int .i32 f0, .int .i32 f1] 30) none) (fun r e => by cases e))
      have HE1 := hid (HE.out.below ((Below.refl wr.heap.size wr).alloc (Nat.le_refl _) (.cells #[.int .i32 f0, .int .i32 f1] 30)) (Nat.le_refl _))
      have HG1 := hid (World.alloc_heap_new wr (.cells #[.int .i32 f0, .int .i32 f1] 30))
      obtain ⟨gB, hgB⟩ : ∃ gB, gB = wr.heap.size := ⟨_, rfl⟩
      obtain ⟨wg, hwg⟩ : ∃ wg, wg = wr.alloc (.cells #[.int .i32 f0, .int .i32 f1] 30) := ⟨_, rfl⟩
      have hwgs : W.heap.size ≤ wg.heap.size := by rw [hwg]; simp; omega
      have hgBW : W.heap.size ≤ gB := by omega
      rw [← hwg] at HJ1 HE1 HG1
      rw [← hgB] at HG1
      have z0 : wg.cell? ⟨gB, 0, none⟩ = some (.int .i32 f0) := by rw [cell_of_row wg gB 0 _ 30 (0, 0) HG1.out]; rfl
      gi_wp2
      rw [← hwg, ← hgB]
      clear y0 y1 z0 hwg HJ HE hgB
      gi_loopw [5] (fun v wq => ∃ m : Nat, v = .int .i32 (f0 + m) ∧ m ≤ (f1 - f0 + 1).toNat ∧ Hid (J (els (s.take k) ++ frm f0 m) wq) ∧ Hid (EachAt Bl (some gs) sc s wq) ∧ Hid (wq.heap[gB]? = some (.cells #[.int .i32 f0, .int .i32 f1] 30 (0, 0))) ∧ W.heap.size ≤ wq.heap.size) (fun v _ => (f1 + 1 - intOf v).toNat)
      case atStart => exact ⟨0, by go_num, by omega, by show J _ wg; rw [show frm f0 0 = [] from rfl, List.append_nil]; exact HJ1.out, HE1, HG1, hwgs⟩
      case round =>
        obtain ⟨m, rfl, hm, HJq, HEq, HGq, hwq⟩ := hrel
        have x1 : wr.cell? ⟨gB, 1, none⟩ = some (.int .i32 f1) := by rw [cell_of_row wr gB 1 _ 30 (0, 0) HGq.out]; rfl
        by_cases hml : f0 + m ≤ f1
        · have hpre := HMID.out (m + 1) (by omega)
          have hpl : (els (s.take k) ++ frm f0 m).length < (els s).length := by
            have h := hpre.length_le
            rw [show frm f0 (m + 1) = frm f0 m ++ [f0 + m] from rfl, ← List.append_assoc, List.length_append] at h
            simp only [List.length_cons, List.length_nil] at h
            omega
          have HPRE := hid (show (els (s.take k) ++ frm f0 m) ++ [f0 + m] <+: els s by rw [List.append_assoc]; exact hpre)
          obtain ⟨fn, tmps, assign, body, hy, hR⟩ := hY _ (f0 + m) wr HJq.out hpl
          dsimp only [encE] at hy
          have e1 : IntKind.i32.wrap (f0 + m + 1) = f0 + m + 1 := by rw [IntKind.wrap_i32]; omega
          clear hpre hpl
          gi_wp2
          refine hR.mono ?_
          rintro e W3 (⟨rfl, hJ3, hk3⟩ | ⟨rfl, hJx3⟩)
          · have HJ3 := hid (show J (els (s.take k) ++ frm f0 (m + 1)) W3 by rw [show frm f0 (m + 1) = frm f0 m ++ [f0 + m] from rfl, ← List.append_assoc]; exact hJ3)
            have HG3 := hid (hk3.cells HGq.out (by omega))
            have HE3 := hid (show EachAt Bl (some gs) sc s W3 from HEq.out.keeps hk3.size ((hk3.cells HEq.out.bl (fun e => hb1 e.symm)).trans HEq.out.bl.symm) (fun a ea => by
              obtain ⟨c, fz, hc⟩ := HEq.out.row a ea
              injection ea with ea
              subst ea
              exact (hk3.cells hc hgr).trans hc.symm))
            have hw3 : W.heap.size ≤ W3.heap.size := Nat.le_trans hwq hk3.size
            clear hJ3 hk3
            gi_wp2
            go_roundw
            case rel => exact ⟨m + 1, by go_num, by omega, HJ3, HE3, HG3, hw3⟩
            case measure => simp [intOf]; omega
          · have HJX := hid hJx3
            clear hJx3
            gi_wp2
            refine bodyPost_ret (results_none rfl _ _ _) rfl ?_
            exact ⟨⟨_, rfl⟩, .inr ⟨_, HPRE.out, HJX.out⟩⟩
        · have hme : m = (f1 - f0 + 1).toNat := by omega
          have HJ4 := hid (show J (els (s.take (k + 1))) wr by rw [HTK.out, ← hme]; exact HJq.out)
          clear hme
          gi_wp2
          go_roundw
          case rel => exact ⟨k + 1, by go_num, by omega, HJ4, HEq, hwq⟩
          case measure => simp [intOf]; omega
    · have HZ := hid (show s.take k = s from List.take_of_length_le (by omega))
      gi_wp2
      go_end0
      exact ⟨⟨_, rfl⟩, .inl ⟨_, by rw [HZ.out], HJ.out⟩⟩
end Go.Proofs.YtfahbdlcokoghaaDoor
