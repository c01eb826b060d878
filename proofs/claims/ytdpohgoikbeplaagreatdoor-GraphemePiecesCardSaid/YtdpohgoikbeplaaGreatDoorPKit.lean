/- Kit, RfMk2, RfEdg, GrFun: parts of the proof, joined. -/
import Derived.RangeFuncNested
import Derived.RangeFuncBound
import Derived.Shelf.RegionOpen
import Derived.OwnWalkIn
import Derived.LoopNIn
import Derived.LoopIn
import Derived.Test.YtdpohgoikbeplaaGreatDoorPBase
namespace Go.Proofs.YtdpohgoikbeplaaGreatDoor.Wt
open Go.RowKit Go.Shelf
structure TbW (w : World) : Prop where
 tabs : Lib.Utf8Tabs 1 2 w
 two : 3 <= w.heap.size
theorem TbW.below {w w' : World} (h : TbW w) (hb : Below w.heap.size w w') : TbW w' := ⟨tabs_below h.tabs h.two hb, Nat.le_trans h.two hb.size⟩
theorem wtake (l : List UInt8) (t : Nat) : (⟨l.toArray⟩ : ByteArray).extract 0 t = ⟨(l.take t).toArray⟩ := by
 apply ByteArray.ext
 simp [ByteArray.data_extract]
def KrW (K : Nat -> Prop) (W W' : World) : Prop := KeepsWalks W W' /\ ∀ k, K k -> W'.heap[k]? = W.heap[k]?
theorem KrW_t {K : Nat -> Prop} {A B C : World} (h : KrW K A B) (k : KrW K B C) : KrW K A C := ⟨h.1.trans k.1, fun i h1 => (k.2 i h1).trans (h.2 i h1)⟩
theorem KrW_b {K : Nat -> Prop} {w : World} (hw : ∀ k, K k -> k < w.heap.size) (W : World) (l : Nat) (o o' : Obj) (hl : w.heap.size <= l) (h : W.heap[l]? = some o) (_ : o.isCells = false) (hk : o.isWalk = false) : KrW K W (W.putObj l o') :=
 ⟨KeepsWalks.putObj _ h hk, fun k h2 => World.putObj_heap_other (by have := hw k h2; omega)⟩
theorem wgrown {w w' : World} (h : Below w.heap.size w w') : w.grownBy w' none := ⟨h.os, h.tape, h.output, h.size, fun k hk _ => h.block k hk⟩
def KW (Bs k : Nat) : Prop := k = Bs \/ k < 3
structure WaAt (Bs : Nat) (l : List UInt8) (w : World) : Prop where
 bs : Boxed w Bs 9 (.string ⟨l.toArray⟩)
 tb : TbW w
theorem WaAt.lt {Bs : Nat} {l : List UInt8} {w : World} (h : WaAt Bs l w) : ∀ k, KW Bs k -> k < w.heap.size := fun k hk => by
 rcases hk with rfl | hk
 ·exact h.bs.lt
 ·exact Nat.lt_of_lt_of_le hk h.tb.two
theorem WaAt.keeps {Bs : Nat} {l : List UInt8} {w w' : World} (h : WaAt Bs l w) (hs : w.heap.size <= w'.heap.size) (hk : ∀ k, KW Bs k -> w'.heap[k]? = w.heap[k]?) : WaAt Bs l w' where
 bs := (hk Bs (.inl rfl)).trans h.bs
 tb := ⟨⟨fun c hc => (World.cell?_of_block (w := w) (a := ⟨1, c, none⟩) (hk 1 (.inr (by decide)))).trans (h.tb.tabs.1 c hc), fun i hi => ⟨(World.cell?_of_block (w := w) (a := ⟨2, 2 * i, none⟩) (hk 2 (.inr (by decide)))).trans (h.tb.tabs.2 i hi).1, (World.cell?_of_block (w := w) (a := ⟨2, 2 * i + 1, none⟩) (hk 2 (.inr (by decide)))).trans (h.tb.tabs.2 i hi).2⟩⟩, Nat.le_trans h.tb.two hs⟩
theorem WaAt.below {Bs : Nat} {l : List UInt8} {w w' : World} (h : WaAt Bs l w) (hb : Below w.heap.size w w') : WaAt Bs l w' :=
 h.keeps hb.size (fun k h2 => hb.block k (h.lt k h2))
theorem Tryz.info3 : (Tryz.prog.info? 3).map (fun i => (i.zero, i.size, i.bytes)) = some (some (.int .i64 0), 1, 8) := by kernel_rfl
def i64s (l : List Int) : List Value := l.map fun z => .int .i64 z
theorem i64s_snoc (l : List Int) (z : Int) : i64s (l ++ [z]) = i64s l ++ [.int .i64 z] := by simp [i64s]
theorem waAt_from {β : Type} (B Bs : Nat) (l : List UInt8) (hB : 3 <= B) : OwnFrom B (fun (_ : β) W => WaAt Bs l W) := fun _ A C row h hg hr => by
 refine h.keeps hg.size fun k hk => hg.block k (h.lt k hk) fun e => ?_
 obtain ⟨hle, o, ho, hc⟩ := hr k e.symm
 rcases hk with rfl | hk
 ·have := h.bs; unfold Boxed at this; rw [this] at ho; cases ho; cases hc
 ·omega
end Go.Proofs.YtdpohgoikbeplaaGreatDoor.Wt
namespace Go.Proofs.YtdpohgoikbeplaaGreatDoor.Rf
open Go.RowKit
theorem Tryz.info89 : (Tryz.prog.info? 89).map (fun i => (i.zero, i.size, i.bytes)) = some (some (.agg #[.int .i64 0, .int .i64 0, .int .i32 0, .bool false]), 4, 24) := by kernel_rfl
def mkc (m : Mk) : List Value := [.int .i64 m.pl, .int .i64 m.wd, .int .i32 m.ru, .bool m.bad]
def mkcs (ms : List Mk) : List Value := ms.flatMap mkc
theorem mkcs_snoc (ms : List Mk) (m : Mk) : mkcs (ms ++ [m]) = mkcs ms ++ mkc m := by simp [mkcs]
theorem mkc_one (m : Mk) : ∀ u ∈ mkc m, u.oneCell' = true := by
 intro u hu
 simp only [mkc, List.mem_cons, List.mem_nil_iff, or_false] at hu
 rcases hu with rfl | rfl | rfl | rfl <;> rfl
theorem news_one (wr : World) (cs : Array Value) (t : TypeId) : ∀ j u, cs.toList[j]? = some u -> (wr.alloc (.cells cs t)).cell? ((⟨wr.heap.size, 0, none⟩ : Addr).add j) = some u := fun j u h => by
 rw [show (⟨wr.heap.size, 0, none⟩ : Addr).add j = ⟨wr.heap.size, j, none⟩ by simp [Addr.add]; exact fun h => h.symm]
 have e : (wr.alloc (.cells cs t)).heap[wr.heap.size]? = some (.cells cs t (0, 0)) := World.alloc_heap_new wr _
 rw [cell_of_row _ _ j cs t _ e]
 simpa using h
def PartM (l : List UInt8) (ms : List Mk) (t : Nat) : Prop := t <= l.length /\ ms ++ mks t (l.drop t) = mks 0 l /\ ms.length <= t
theorem PartM.start (l : List UInt8) : PartM l [] 0 := by simp [PartM]
theorem PartM.step {l : List UInt8} {ms : List Mk} {t : Nat} (h : PartM l ms t) (ht : t < l.length) : PartM l (ms ++ [mk1 t (l.drop t)]) (t + (dec (l.drop t)).2) := by
 obtain ⟨h1, h2, h3⟩ := h
 have hne : l.drop t ≠ [] := fun e => by have := congrArg List.length e; simp at this; omega
 have g1 := dec_ge _ hne
 have g2 := dec_le _ hne
 simp only [List.length_drop] at g2
 refine ⟨by omega, ?_, by simp; omega⟩
 rw [<- h2, mks_cons t (l.drop t) hne]
 simp [List.drop_drop]
theorem PartM.done {l : List UInt8} {ms : List Mk} {t : Nat} (h : PartM l ms t) (ht : ¬ t < l.length) : ms = mks 0 l := by
 have h2 := h.2.1
 rw [List.drop_of_length_le (by omega), mks_nil] at h2
 simpa using h2
theorem rdec_eq (s : ByteArray) (l : List UInt8) (w : World) (hs : s = ⟨l.toArray⟩) (hl : l.length <= 1000000000000) :
  Calls Tryz.prog 113 #[.string s] w fun e w' => e = .returned (.tuple #[.int .i32 (dec l).1, .int .i64 (dec l).2]) /\ w' = w := by
 subst hs
 exact rdec_any l w hl
set_option maxHeartbeats 1000000 in
theorem marks_any (l : List UInt8) (w : World) (hl : l.length <= 1000000000000) :
  Calls Tryz.prog 88 #[.string ⟨l.toArray⟩] w fun e w' => ∃ v, e = .returned v /\ w'.ownsRow w.heap.size 89 4 v (mks 0 l).length (mkcs (mks 0 l)) /\ Below w.heap.size w w' := by
 obtain ⟨i0, hi, hz0, hz1, hz2⟩ := info_parts Tryz.info89
 go_enter Tryz.func88, Tryz.ntmps88
 go_wp2
 go_loopw [3, 4] (fun v i wr => ∃ (t : Nat) (q : Int) (ms : List Mk), i = .int .i64 q /\ q = t /\ Hid (PartM l ms t) /\ wr.ownsRow w.heap.size 89 4 v ms.length (mkcs ms) /\ Below w.heap.size w wr) (fun _ i _ => l.length - (intOf i).toNat)
 case atStart => exact ⟨0, 0, [], rfl, rfl, PartM.start l, World.ownsRow_nil _ _ _ _, Below.refl _ _⟩
 case round =>
  obtain ⟨t, q, ms, rfl, rfl, HP, hown, hB⟩ := hrel
  have htl : t <= l.length := HP.out.1
  have hml : ms.length <= t := HP.out.2.2
  by_cases hlt : t < l.length
  ·have hne : l.drop t ≠ [] := fun e => by have := congrArg List.length e; simp at this; omega
   have g1 := dec_ge _ hne
   have g2 := dec_le _ hne
   have g3 := dec_rune _ hne
   simp only [List.length_drop] at g2
   have HS := hid (HP.out.step hlt)
   have HK := hid (show mk1 t (l.drop t) = ⟨t, (dec (l.drop t)).2, (dec (l.drop t)).1, decide ((dec (l.drop t)).2 = 1) && decide ((dec (l.drop t)).1 = 65533)⟩ from rfl)
   clear hne
   go_wp2_with fail
   refine (rdec_eq _ (l.drop t) _ (ext_drop l t) (by simp; omega)).mono ?_
   rintro e w1 ⟨rfl, rfl⟩
   generalize (dec (l.drop t)).1 = rr at *
   generalize (dec (l.drop t)).2 = nn at *
   rw [HK.out] at HS
   clear HK HP
   by_cases hn1 : nn = 1
   ·by_cases hr1 : rr = 65533
    ·have e : (decide (nn = 1) && decide (rr = 65533)) = true := by simp [hn1, hr1]
     rw [e] at HS
     have t1 : (((nn : Int)) == 1) = true := beq_iff_eq.2 (by omega)
     have t2 : (((rr : Int)) == 65533) = true := beq_iff_eq.2 (by omega)
     clear hn1 hr1 e; have hB1s := hB.size
     go_wp2_with (at_builtin; refine wpList_append_own _ rfl _ _ 86 rfl w.heap.size 89 i0 (.agg #[.int .i64 0, .int .i64 0, .int .i32 0, .bool false]) 4 24 Tryz.underlying86 hi hz0 hz1 hz2 rfl (by decide) _ _ _ rfl (hown.alloc _) ⟨w1.heap.size, 0, none⟩ 1 1 (mkc ⟨t, nn, rr, true⟩) rfl rfl (news_one w1 #[.int .i64 t, .int .i64 nn, .int .i32 rr, .bool true] 89) (mkc_one _) (by unfold maxLen; omega) (by omega) (by simp; omega) ?_)
     intro v' w2 hown' hgrow _
     have hB2 : Below w.heap.size w w2 := (hB.alloc hB.size _).grown hgrow (by simp; omega) (fun k hk => (hown.lt k hk).1)
     have hown2 : w2.ownsRow w.heap.size 89 4 v' (ms ++ [Mk.mk t nn rr true]).length (mkcs (ms ++ [Mk.mk t nn rr true])) := by rw [mkcs_snoc, List.length_append]; exact hown'
     clear hown' hgrow hown hB
     go_wp2
     go_roundw
     case rel => exact ⟨t + nn, _, _, rfl, by omega, HS, hown2, hB2⟩
     case measure => simp [intOf]; omega
    ·have e : (decide (nn = 1) && decide (rr = 65533)) = false := by simp [hr1]
     rw [e] at HS
     have t1 : (((nn : Int)) == 1) = true := beq_iff_eq.2 (by omega)
     have t2 : (((rr : Int)) == 65533) = false := beq_eq_false_iff_ne.2 (by omega)
     clear hn1 hr1 e; have hB1s := hB.size
     go_wp2_with (at_builtin; refine wpList_append_own _ rfl _ _ 86 rfl w.heap.size 89 i0 (.agg #[.int .i64 0, .int .i64 0, .int .i32 0, .bool false]) 4 24 Tryz.underlying86 hi hz0 hz1 hz2 rfl (by decide) _ _ _ rfl (hown.alloc _) ⟨w1.heap.size, 0, none⟩ 1 1 (mkc ⟨t, nn, rr, false⟩) rfl rfl (news_one w1 #[.int .i64 t, .int .i64 nn, .int .i32 rr, .bool false] 89) (mkc_one _) (by unfold maxLen; omega) (by omega) (by simp; omega) ?_)
     intro v' w2 hown' hgrow _
     have hB2 : Below w.heap.size w w2 := (hB.alloc hB.size _).grown hgrow (by simp; omega) (fun k hk => (hown.lt k hk).1)
     have hown2 : w2.ownsRow w.heap.size 89 4 v' (ms ++ [Mk.mk t nn rr false]).length (mkcs (ms ++ [Mk.mk t nn rr false])) := by rw [mkcs_snoc, List.length_append]; exact hown'
     clear hown' hgrow hown hB
     go_wp2
     go_roundw
     case rel => exact ⟨t + nn, _, _, rfl, by omega, HS, hown2, hB2⟩
     case measure => simp [intOf]; omega
   ·have e : (decide (nn = 1) && decide (rr = 65533)) = false := by simp [hn1]
    rw [e] at HS
    have t1 : (((nn : Int)) == 1) = false := beq_eq_false_iff_ne.2 (by omega)
    clear hn1 e; have hB1s := hB.size
    go_wp2_with (at_builtin; refine wpList_append_own _ rfl _ _ 86 rfl w.heap.size 89 i0 (.agg #[.int .i64 0, .int .i64 0, .int .i32 0, .bool false]) 4 24 Tryz.underlying86 hi hz0 hz1 hz2 rfl (by decide) _ _ _ rfl (hown.alloc _) ⟨w1.heap.size, 0, none⟩ 1 1 (mkc ⟨t, nn, rr, false⟩) rfl rfl (news_one w1 #[.int .i64 t, .int .i64 nn, .int .i32 rr, .bool false] 89) (mkc_one _) (by unfold maxLen; omega) (by omega) (by simp; omega) ?_)
    intro v' w2 hown' hgrow _
    have hB2 : Below w.heap.size w w2 := (hB.alloc hB.size _).grown hgrow (by simp; omega) (fun k hk => (hown.lt k hk).1)
    have hown2 : w2.ownsRow w.heap.size 89 4 v' (ms ++ [Mk.mk t nn rr false]).length (mkcs (ms ++ [Mk.mk t nn rr false])) := by rw [mkcs_snoc, List.length_append]; exact hown'
    clear hown' hgrow hown hB
    go_wp2
    go_roundw
    case rel => exact ⟨t + nn, _, _, rfl, by omega, HS, hown2, hB2⟩
    case measure => simp [intOf]; omega
  ·have HD := hid (HP.out.done hlt)
   go_wp2
   go_ret; exact ⟨_, rfl, by rw [<- HD.out]; exact hown, hB⟩
end Go.Proofs.YtdpohgoikbeplaaGreatDoor.Rf
namespace Go.Proofs.YtdpohgoikbeplaaGreatDoor.Rf
open Go.RowKit Wt
def rpw : Nat -> List (Nat × Nat) -> List (Int × Int × Int)
 | _, [] => []
 | p, x :: L => ((p : Int), (x.2 : Int), (x.1 : Int)) :: rpw (p + x.2) L
theorem mks_rpw : ∀ (n p : Nat) (l : List UInt8), l.length <= n -> (mks p l).map (fun m => (m.pl, m.wd, m.ru)) = rpw p (rl l)
 | n, p, l, hn => by
  by_cases h : l = []
  ·subst h; rfl
  ·have h1 := dec_ge l h
   have hp : 0 < l.length := List.length_pos_iff.2 h
   cases n with
   | zero => omega
   | succ n =>
    rw [mks_cons p l h, rl_cons l h, List.map_cons, rpw, mks_rpw n _ _ (by rw [List.length_drop]; omega)]
    rfl
theorem rpw_get : ∀ (X : List (Nat × Nat)) (p k : Nat) (h : k < X.length), (rpw p X)[k]? = some (((p + psm (X.take k) : Nat) : Int), ((X[k]).2 : Int), ((X[k]).1 : Int))
 | [], _, _, h => by cases h
 | x :: X, p, 0, _ => by simp [rpw, psm]
 | x :: X, p, k + 1, h => by
  rw [rpw, List.getElem?_cons_succ, rpw_get X (p + x.2) k (by simpa using h), List.take_succ_cons, psm_cons, Nat.add_assoc]
  simp
theorem mks_at_k (l : List UInt8) (k : Nat) (h : k < (rl l).length) : ∃ m, (mks 0 l)[k]? = some m /\ m.pl = (pos l k : Nat) /\ m.wd = (((rl l)[k]).2 : Nat) /\ m.ru = (((rl l)[k]).1 : Nat) := by
 have h1 := mks_rpw _ 0 l (Nat.le_refl _)
 have h2 := rpw_get (rl l) 0 k h
 rw [<- h1, List.getElem?_map] at h2
 cases hm : (mks 0 l)[k]? with
 | none => rw [hm] at h2; cases h2
 | some m =>
  rw [hm] at h2
  have h3 := Option.some.inj h2
  simp only [Nat.zero_add, Prod.mk.injEq] at h3
  exact ⟨m, rfl, h3.1, h3.2.1, h3.2.2⟩
theorem mks_len (l : List UInt8) : (mks 0 l).length = (rl l).length := by
 have h1 := congrArg List.length (mks_rpw _ 0 l (Nat.le_refl _))
 rw [List.length_map] at h1
 have : ∀ (X : List (Nat × Nat)) (p : Nat), (rpw p X).length = X.length := by
  intro X
  induction X with
  | nil => intro p; rfl
  | cons x X ih => intro p; rw [rpw, List.length_cons, List.length_cons, ih]
 rw [h1, this]
theorem mkcs_get : ∀ (ms : List Mk) (k j : Nat) (m : Mk), ms[k]? = some m -> j < 4 -> (mkcs ms)[k * 4 + j]? = (mkc m)[j]?
 | [], k, j, m, h, _ => by simp at h
 | x :: ms, 0, j, m, h, hj => by
  simp at h; subst h
  show (mkc x ++ mkcs ms)[0 * 4 + j]? = _
  rw [Nat.zero_mul, Nat.zero_add, List.getElem?_append_left (by simpa [mkc] using hj)]
 | x :: ms, k + 1, j, m, h, hj => by
  show (mkc x ++ mkcs ms)[(k + 1) * 4 + j]? = _
  rw [List.getElem?_append_right (by simp [mkc]; omega)]
  have e : (k + 1) * 4 + j - (mkc x).length = k * 4 + j := by simp [mkc]; omega
  rw [e]; exact mkcs_get ms k j m (by simpa using h) hj
theorem ownsRow_base {w : World} {B B' e sz n : Nat} {v : Value} {xs : List Value} (h : w.ownsRow B e sz v n xs) (hb : B' <= B) : w.ownsRow B' e sz v n xs := by
 refine ⟨h.1, ?_⟩
 rcases h.2 with h0 | ⟨g, cap, cur, h1, h2, h3⟩
 ·exact .inl h0
 ·exact .inr ⟨g, cap, cur, h1, Nat.le_trans hb h2, h3⟩
theorem owns_form {w : World} {base e size n : Nat} {v : Value} {xs : List Value} (h : w.ownsRow base e size v n xs) : ∃ ao cap, v = .slice ao n cap /\ (0 < n -> ∃ g, ao = some ⟨g, 0, none⟩ /\ base <= g /\ g < w.heap.size) := by
 rcases h.2 with ⟨hv, h0⟩ | ⟨g, cap, cur, hv, hb, hg, _⟩
 ·exact ⟨none, 0, by rw [hv, h0], fun hn => by omega⟩
 ·exact ⟨_, cap, hv, fun _ => ⟨g, rfl, hb, (Array.getElem?_eq_some_iff.1 hg).1⟩⟩
theorem rl_len : ∀ (n : Nat) (l : List UInt8), l.length <= n -> (rl l).length <= l.length := fun n l _ => by
 have h := pos_mono l (rl l).length 0 (by omega)
 rw [Nat.zero_add, pos_0, pos_all l _ (Nat.le_refl _)] at h
 omega
def pre64 (ms : List Mk) (k : Nat) : List Value := ((ms.take k).map (·.pl)).map (Value.int .i64)
theorem pre64_succ (ms : List Mk) (k : Nat) (h : k < ms.length) : pre64 ms (k + 1) = pre64 ms k ++ [.int .i64 ms[k].pl] := by
 unfold pre64
 rw [List.take_succ_eq_append_getElem h, List.map_append, List.map_append]; rfl
theorem pre64_all (ms : List Mk) (k : Nat) (h : ¬ k < ms.length) : pre64 ms k = (ms.map (·.pl)).map (Value.int .i64) := by
 unfold pre64
 rw [List.take_of_length_le (by omega)]
set_option maxHeartbeats 1000000 in
theorem edges_any (l : List UInt8) (w : World) (hl : l.length <= 1000000000000) :
  Calls Tryz.prog 55 #[.string ⟨l.toArray⟩] w fun e w' => ∃ v, e = .returned v /\ w'.ownsRow w.heap.size 3 1 v (edg l).length ((edg l).map (Value.int .i64)) /\ Below w.heap.size w w' := by
 obtain ⟨i0, hi, hz0, hz1, hz2⟩ := info_parts Tryz.info3
 go_enter Tryz.func55, Tryz.ntmps55
 go_wp2_with fail
 refine (marks_any l _ hl).mono ?_
 rintro e w1 ⟨v, rfl, hown1, hb1⟩
 obtain ⟨ms, hms⟩ : ∃ ms, ms = mks 0 l := ⟨_, rfl⟩
 rw [<- hms] at hown1
 have hlen : ms.length <= l.length := by
  rw [hms, mks_len]; exact rl_len _ l (Nat.le_refl _)
 have HMS := hid hms
 obtain ⟨ao, cap, rfl, hao⟩ := owns_form hown1
 have hcell : ∀ (k : Nat) (m : Mk), ms[k]? = some m -> ∃ g, ao = some ⟨g, 0, none⟩ /\ g < w1.heap.size /\ w1.cell? ⟨g, k * 4, none⟩ = some (.int .i64 m.pl) := fun k m hk => by
  have hkl : k < ms.length := (List.getElem?_eq_some_iff.1 hk).1
  obtain ⟨g, hg, hg0, hg1⟩ := hao (by omega)
  have hc := hown1.cells (g := g) (by rw [hg]; rfl) (k * 4 + 0) (.int .i64 m.pl) (by rw [mkcs_get ms k 0 m hk (by omega)]; rfl)
  rw [show (⟨g, 0, none⟩ : Addr).add (k * 4 + 0) = ⟨g, k * 4, none⟩ by unfold Addr.add; split <;> simp_all] at hc
  exact ⟨g, hg, hg1, hc⟩
 have HCELL := hid hcell
 clear hcell hown1 hao hms
 go_wp2
 go_loopw [4, 5] (fun o i wr => ∃ k : Nat, k <= ms.length /\ i = .int .i64 k /\ wr.ownsRow w1.heap.size 3 1 o k (pre64 ms k) /\ Below w1.heap.size w1 wr) (fun _ i _ => ms.length - (intOf i).toNat)
 case atStart => exact ⟨0, by omega, rfl, World.ownsRow_nil _ _ _ _, Below.refl _ _⟩
 case round =>
  obtain ⟨k, hk, rfl, hown, hB⟩ := hrel
  have hs := hB.size
  by_cases hlt : k < ms.length
  ·obtain ⟨g, rfl, hg1, hcg⟩ := HCELL.out k ms[k] (List.getElem?_eq_getElem hlt)
   have hcw : wr.cell? ⟨g, k * 4, none⟩ = some (.int .i64 ms[k].pl) := (hB.cell (p := ⟨g, k * 4, none⟩) hg1).trans hcg
   obtain ⟨z, hz⟩ : ∃ z, z = ms[k].pl := ⟨_, rfl⟩
   rw [<- hz] at hcw
   have HZ := hid hz
   clear hz hcg
   go_wp2_with (at_builtin; refine wpList_append_own _ rfl _ _ 23 rfl w1.heap.size 3 i0 (.int .i64 0) 1 8 Tryz.underlying23 hi hz0 hz1 hz2 rfl (by decide) _ _ _ rfl (hown.alloc _) ⟨wr.heap.size, 0, none⟩ 1 1 [.int .i64 z] rfl rfl (news_one wr #[.int .i64 z] 3) (by intro u hu; simp at hu; subst hu; rfl) (by unfold maxLen; omega) (by omega) (by simp; omega) ?_)
   intro v' w2 hown' hgrow _
   have hB2 : Below w1.heap.size w1 w2 := (hB.alloc hB.size _).grown hgrow (by simp; omega) (fun k hk => (hown.lt k hk).1)
   have hown2 : w2.ownsRow w1.heap.size 3 1 v' (k + 1) (pre64 ms (k + 1)) := by rw [pre64_succ ms k hlt, <- HZ.out]; exact hown'
   clear hown' hgrow hown hB hcw
   go_wp2
   go_roundw
   case rel => exact ⟨k + 1, by omega, by go_num, hown2, hB2⟩
   case measure => simp [intOf]; omega
  ·have hke : k = ms.length := by omega
   have HKE := hid hke
   have HP := hid (pre64_all ms k hlt)
   have hk1 : k <= l.length := by omega
   clear hke
   go_wp2_with (at_builtin; refine wpList_append_own _ rfl _ _ 23 rfl w1.heap.size 3 i0 (.int .i64 0) 1 8 Tryz.underlying23 hi hz0 hz1 hz2 rfl (by decide) _ _ _ rfl (hown.alloc _) ⟨wr.heap.size, 0, none⟩ 1 1 [.int .i64 l.length] rfl rfl (news_one wr #[.int .i64 l.length] 3) (by intro u hu; simp at hu; subst hu; rfl) (by unfold maxLen; omega) (by omega) (by simp; omega) ?_)
   intro v' w2 hown' hgrow _
   have hB2 : Below w1.heap.size w1 w2 := (hB.alloc hB.size _).grown hgrow (by simp; omega) (fun k hk => (hown.lt k hk).1)
   have hfin : w2.ownsRow w.heap.size 3 1 v' (edg l).length ((edg l).map (Value.int .i64)) := by
    rw [HP.out] at hown'
    have e1 : (edg l).length = k + 1 := by unfold edg; rw [<- HMS.out]; have := HKE.out; simp; omega
    have e2 : (edg l).map (Value.int .i64) = (ms.map (·.pl)).map (Value.int .i64) ++ [.int .i64 l.length] := by unfold edg; rw [<- HMS.out]; simp
    rw [e1, e2]; exact ownsRow_base hown' hb1.size
   have HF := hid hfin
   have HB := hid (hb1.trans (hB2.mono hb1.size))
   clear hown' hgrow hown hB hB2 hfin
   go_wp2
   go_ret; exact ⟨_, rfl, HF.out, HB.out⟩
theorem edg_pos (l : List UInt8) : edg l = (List.range ((rl l).length + 1)).map fun k => (pos l k : Int) := by
 apply List.ext_getElem?
 intro k
 unfold edg
 by_cases h : k < (rl l).length
 ·obtain ⟨m, hm, hp, _⟩ := mks_at_k l k h
  rw [List.getElem?_append_left (by rw [List.length_map, mks_len]; exact h), List.getElem?_map, hm, List.getElem?_map, List.getElem?_range (by omega)]
  simp [hp]
 ·by_cases e : k = (rl l).length
  ·subst e
   rw [List.getElem?_append_right (by rw [List.length_map, mks_len]; exact Nat.le_refl _), List.length_map, mks_len, Nat.sub_self, List.getElem?_map, List.getElem?_range (by omega)]
   simp [pos_all]
  ·rw [List.getElem?_eq_none (by rw [List.length_append, List.length_map, mks_len]; simp; omega), List.getElem?_eq_none (by simp; omega)]
end Go.Proofs.YtdpohgoikbeplaaGreatDoor.Rf
namespace Go.Proofs.YtdpohgoikbeplaaGreatDoor.Wt
open Go.RowKit
theorem galone_any (c : Int) (w : World) : Calls Tryz.prog 108 #[.int .i64 c] w fun e w' => e = .returned (.bool (galone c)) /\ w' = w := by
 by_cases h1 : c = 1
 ·subst h1
  go_enter Tryz.func108, Tryz.ntmps108
  go_wp2
  go_ret; exact ⟨rfl, rfl⟩
 have b1 : (c == 1) = false := beq_eq_false_iff_ne.2 h1
 by_cases h2 : c = 2
 ·subst h2
  go_enter Tryz.func108, Tryz.ntmps108
  go_wp2
  go_ret; exact ⟨rfl, rfl⟩
 have b2 : (c == 2) = false := beq_eq_false_iff_ne.2 h2
 have HV := hid (show galone c = (c == 3) by unfold galone; rw [b1, b2]; rfl)
 go_enter Tryz.func108, Tryz.ntmps108
 go_wp2
 go_ret
 exact ⟨by rw [HV.out]; rfl, rfl⟩
theorem gsyl_any (a b : Int) (w : World) : Calls Tryz.prog 109 #[.int .i64 a, .int .i64 b] w fun e w' => e = .returned (.bool (gsyl a b)) /\ w' = w := by
 by_cases ha8 : a = 8
 ·subst ha8
  by_cases hb8 : b = 8
  ·subst hb8
   go_enter Tryz.func109, Tryz.ntmps109
   go_wp2
   go_ret; exact ⟨rfl, rfl⟩
  have c8 : (b == 8) = false := beq_eq_false_iff_ne.2 hb8
  by_cases hb9 : b = 9
  ·subst hb9
   go_enter Tryz.func109, Tryz.ntmps109
   go_wp2
   go_ret; exact ⟨rfl, rfl⟩
  have c9 : (b == 9) = false := beq_eq_false_iff_ne.2 hb9
  have HV := hid (show gsyl 8 b = (b == 11) by unfold gsyl; simp [c8, c9])
  go_enter Tryz.func109, Tryz.ntmps109
  go_wp2
  go_ret; exact ⟨by rw [HV.out]; rfl, rfl⟩
 have d8 : (a == 8) = false := beq_eq_false_iff_ne.2 ha8
 by_cases ha9 : a = 9
 ·subst ha9
  by_cases hb9 : b = 9
  ·subst hb9
   go_enter Tryz.func109, Tryz.ntmps109
   go_wp2
   go_ret; exact ⟨rfl, rfl⟩
  have c9 : (b == 9) = false := beq_eq_false_iff_ne.2 hb9
  have HV := hid (show gsyl 9 b = (b == 10) by unfold gsyl; simp [c9])
  go_enter Tryz.func109, Tryz.ntmps109
  go_wp2
  go_ret; exact ⟨by rw [HV.out]; rfl, rfl⟩
 have d9 : (a == 9) = false := beq_eq_false_iff_ne.2 ha9
 by_cases ha11 : a = 11
 ·subst ha11
  by_cases hb9 : b = 9
  ·subst hb9
   go_enter Tryz.func109, Tryz.ntmps109
   go_wp2
   go_ret; exact ⟨rfl, rfl⟩
  have c9 : (b == 9) = false := beq_eq_false_iff_ne.2 hb9
  have HV := hid (show gsyl 11 b = (b == 10) by unfold gsyl; simp [c9])
  go_enter Tryz.func109, Tryz.ntmps109
  go_wp2
  go_ret; exact ⟨by rw [HV.out]; rfl, rfl⟩
 have d11 : (a == 11) = false := beq_eq_false_iff_ne.2 ha11
 by_cases ha10 : a = 10
 ·subst ha10
  have HV := hid (show gsyl 10 b = (b == 10) by unfold gsyl; simp [Int.reduceEq])
  go_enter Tryz.func109, Tryz.ntmps109
  go_wp2
  go_ret; exact ⟨by rw [HV.out]; rfl, rfl⟩
 have d10 : (a == 10) = false := beq_eq_false_iff_ne.2 ha10
 have HV := hid (show gsyl a b = false by unfold gsyl; rw [if_neg ha8, if_neg (fun h => by rcases h with h | h; exact ha9 h; exact ha11 h), if_neg ha10])
 go_enter Tryz.func109, Tryz.ntmps109
 go_wp2
 go_ret
 exact ⟨by rw [HV.out]; rfl, rfl⟩
set_option maxHeartbeats 4000000 in
theorem gbt_any (a b : Int) (w : World) : Calls Tryz.prog 75 #[.int .i64 a, .int .i64 b] w fun e w' => e = .returned (.int .i64 (gbt a b)) /\ w' = w := by
 by_cases h1 : a = 1
 ·subst h1
  by_cases h2 : b = 2
  ·subst h2
   go_enter Tryz.func75, Tryz.ntmps75
   go_wp2
   go_ret; exact ⟨rfl, rfl⟩
  have c2 : (b == 2) = false := beq_eq_false_iff_ne.2 h2
  have ga : galone 1 = true := by decide
  have HV := hid (show gbt 1 b = 0 by unfold gbt; rw [if_neg (fun h => h2 h.2), if_pos (.inl ga)])
  go_enter Tryz.func75, Tryz.ntmps75
  go_wp2_with (first | (go_at_call 108; refine (galone_any _ _).mono ?_; rintro e w1 ⟨rfl, hw1⟩; obtain rfl := hw1.symm; clear hw1; rw [ga]))
  go_ret; exact ⟨by rw [HV.out]; rfl, rfl⟩
 have c1 : (a == 1) = false := beq_eq_false_iff_ne.2 h1
 by_cases ga : galone a = true
 ·have HV := hid (show gbt a b = 0 by unfold gbt; rw [if_neg (fun h => h1 h.1), if_pos (.inl ga)])
  go_enter Tryz.func75, Tryz.ntmps75
  go_wp2_with (first | (go_at_call 108; refine (galone_any _ _).mono ?_; rintro e w1 ⟨rfl, hw1⟩; obtain rfl := hw1.symm; clear hw1; rw [ga]))
  go_ret; exact ⟨by rw [HV.out]; rfl, rfl⟩
 have ga : galone a = false := Bool.eq_false_iff.2 ga
 by_cases gb : galone b = true
 ·have HV := hid (show gbt a b = 0 by unfold gbt; rw [if_neg (fun h => h1 h.1), if_pos (.inr gb)])
  go_enter Tryz.func75, Tryz.ntmps75
  go_wp2_with (first | (go_at_call 108; refine (galone_any _ _).mono ?_; rintro e w1 ⟨rfl, hw1⟩; obtain rfl := hw1.symm; clear hw1; (first | rw [ga] | rw [gb])))
  go_ret; exact ⟨by rw [HV.out]; rfl, rfl⟩
 have gb : galone b = false := Bool.eq_false_iff.2 gb
 have HG := hid (show gbt a b = if b = 4 \/ b = 5 \/ b = 6 \/ a = 7 then 1 else if gsyl a b = true then 1 else if a = 5 /\ b = 12 \/ a = 13 /\ b = 13 then 2 else 0 by
  unfold gbt
  rw [if_neg (fun h => h1 h.1), if_neg (fun h => by rcases h with h | h; rw [ga] at h; cases h; rw [gb] at h; cases h)])
 by_cases k4 : b = 4
 ·subst k4
  have HV := hid (show gbt a 4 = 1 by rw [HG.out, if_pos (by simp)])
  clear HG
  go_enter Tryz.func75, Tryz.ntmps75
  go_wp2_with (first | (go_at_call 108; refine (galone_any _ _).mono ?_; rintro e w1 ⟨rfl, hw1⟩; obtain rfl := hw1.symm; clear hw1; (first | rw [ga] | rw [gb])))
  go_ret; exact ⟨by rw [HV.out]; rfl, rfl⟩
 have e4 : (b == 4) = false := beq_eq_false_iff_ne.2 k4
 by_cases k5 : b = 5
 ·subst k5
  have HV := hid (show gbt a 5 = 1 by rw [HG.out, if_pos (by simp)])
  clear HG
  go_enter Tryz.func75, Tryz.ntmps75
  go_wp2_with (first | (go_at_call 108; refine (galone_any _ _).mono ?_; rintro e w1 ⟨rfl, hw1⟩; obtain rfl := hw1.symm; clear hw1; (first | rw [ga] | rw [gb])))
  go_ret; exact ⟨by rw [HV.out]; rfl, rfl⟩
 have e5 : (b == 5) = false := beq_eq_false_iff_ne.2 k5
 by_cases k6 : b = 6
 ·subst k6
  have HV := hid (show gbt a 6 = 1 by rw [HG.out, if_pos (by simp)])
  clear HG
  go_enter Tryz.func75, Tryz.ntmps75
  go_wp2_with (first | (go_at_call 108; refine (galone_any _ _).mono ?_; rintro e w1 ⟨rfl, hw1⟩; obtain rfl := hw1.symm; clear hw1; (first | rw [ga] | rw [gb])))
  go_ret; exact ⟨by rw [HV.out]; rfl, rfl⟩
 have e6 : (b == 6) = false := beq_eq_false_iff_ne.2 k6
 by_cases k7 : a = 7
 ·subst k7
  have HV := hid (show gbt 7 b = 1 by rw [HG.out, if_pos (.inr (.inr (.inr rfl)))])
  clear HG
  go_enter Tryz.func75, Tryz.ntmps75
  go_wp2_with (first | (go_at_call 108; refine (galone_any _ _).mono ?_; rintro e w1 ⟨rfl, hw1⟩; obtain rfl := hw1.symm; clear hw1; (first | rw [ga] | rw [gb])))
  go_ret; exact ⟨by rw [HV.out]; rfl, rfl⟩
 have e7 : (a == 7) = false := beq_eq_false_iff_ne.2 k7
 have HG2 := hid (show gbt a b = if gsyl a b = true then 1 else if a = 5 /\ b = 12 \/ a = 13 /\ b = 13 then 2 else 0 by
  rw [HG.out, if_neg (fun h => by rcases h with h | h | h | h; exact k4 h; exact k5 h; exact k6 h; exact k7 h)])
 clear HG
 by_cases gs : gsyl a b = true
 ·have HV := hid (show gbt a b = 1 by rw [HG2.out, if_pos gs])
  clear HG2
  go_enter Tryz.func75, Tryz.ntmps75
  go_wp2_with (first | (go_at_call 108; refine (galone_any _ _).mono ?_; rintro e w1 ⟨rfl, hw1⟩; obtain rfl := hw1.symm; clear hw1; (first | rw [ga] | rw [gb])) | (go_at_call 109; refine (gsyl_any _ _ _).mono ?_; rintro e w1 ⟨rfl, hw1⟩; obtain rfl := hw1.symm; clear hw1; rw [gs]))
  go_ret; exact ⟨by rw [HV.out]; rfl, rfl⟩
 have gs : gsyl a b = false := Bool.eq_false_iff.2 gs
 have HG3 := hid (show gbt a b = if a = 5 /\ b = 12 \/ a = 13 /\ b = 13 then 2 else 0 by rw [HG2.out, if_neg (by rw [gs]; simp)])
 clear HG2
 by_cases k8 : a = 5
 ·subst k8
  by_cases k9 : b = 12
  ·subst k9
   have HV := hid (show gbt 5 12 = 2 by rw [HG3.out, if_pos (by simp)])
   clear HG3
   go_enter Tryz.func75, Tryz.ntmps75
   go_wp2_with (first | (go_at_call 108; refine (galone_any _ _).mono ?_; rintro e w1 ⟨rfl, hw1⟩; obtain rfl := hw1.symm; clear hw1; (first | rw [ga] | rw [gb])) | (go_at_call 109; refine (gsyl_any _ _ _).mono ?_; rintro e w1 ⟨rfl, hw1⟩; obtain rfl := hw1.symm; clear hw1; rw [gs]))
   go_ret; exact ⟨by rw [HV.out]; rfl, rfl⟩
  have e9 : (b == 12) = false := beq_eq_false_iff_ne.2 k9
  have HV := hid (show gbt 5 b = 0 by rw [HG3.out, if_neg (fun h => by rcases h with h | h; exact k9 h.2; exact absurd h.1 (by decide))])
  clear HG3
  go_enter Tryz.func75, Tryz.ntmps75
  go_wp2_with (first | (go_at_call 108; refine (galone_any _ _).mono ?_; rintro e w1 ⟨rfl, hw1⟩; obtain rfl := hw1.symm; clear hw1; (first | rw [ga] | rw [gb])) | (go_at_call 109; refine (gsyl_any _ _ _).mono ?_; rintro e w1 ⟨rfl, hw1⟩; obtain rfl := hw1.symm; clear hw1; rw [gs]))
  go_ret; exact ⟨by rw [HV.out]; rfl, rfl⟩
 have e8 : (a == 5) = false := beq_eq_false_iff_ne.2 k8
 by_cases k10 : a = 13
 ·subst k10
  by_cases k11 : b = 13
  ·subst k11
   have HV := hid (show gbt 13 13 = 2 by rw [HG3.out, if_pos (by simp)])
   clear HG3
   go_enter Tryz.func75, Tryz.ntmps75
   go_wp2_with (first | (go_at_call 108; refine (galone_any _ _).mono ?_; rintro e w1 ⟨rfl, hw1⟩; obtain rfl := hw1.symm; clear hw1; (first | rw [ga] | rw [gb])) | (go_at_call 109; refine (gsyl_any _ _ _).mono ?_; rintro e w1 ⟨rfl, hw1⟩; obtain rfl := hw1.symm; clear hw1; rw [gs]))
   go_ret; exact ⟨by rw [HV.out]; rfl, rfl⟩
  have e11 : (b == 13) = false := beq_eq_false_iff_ne.2 k11
  have HV := hid (show gbt 13 b = 0 by rw [HG3.out, if_neg (fun h => by rcases h with h | h; exact k8 h.1; exact k11 h.2)])
  clear HG3
  go_enter Tryz.func75, Tryz.ntmps75
  go_wp2_with (first | (go_at_call 108; refine (galone_any _ _).mono ?_; rintro e w1 ⟨rfl, hw1⟩; obtain rfl := hw1.symm; clear hw1; (first | rw [ga] | rw [gb])) | (go_at_call 109; refine (gsyl_any _ _ _).mono ?_; rintro e w1 ⟨rfl, hw1⟩; obtain rfl := hw1.symm; clear hw1; rw [gs]))
  go_ret; exact ⟨by rw [HV.out]; rfl, rfl⟩
 have e10 : (a == 13) = false := beq_eq_false_iff_ne.2 k10
 have HV := hid (show gbt a b = 0 by rw [HG3.out, if_neg (fun h => by rcases h with h | h; exact k8 h.1; exact k10 h.1)])
 clear HG3
 go_enter Tryz.func75, Tryz.ntmps75
 go_wp2_with (first | (go_at_call 108; refine (galone_any _ _).mono ?_; rintro e w1 ⟨rfl, hw1⟩; obtain rfl := hw1.symm; clear hw1; (first | rw [ga] | rw [gb])) | (go_at_call 109; refine (gsyl_any _ _ _).mono ?_; rintro e w1 ⟨rfl, hw1⟩; obtain rfl := hw1.symm; clear hw1; rw [gs]))
 go_ret
 exact ⟨by rw [HV.out]; rfl, rfl⟩
def gplast (l : List UInt8) : Int := gpcls (decLast l).1
def gpfirst (l : List UInt8) : Int := gpcls (dec l).1
def gstep (l : List UInt8) (p : Nat) : Int × Nat := if p = l.length then (3, p) else (gpfirst (l.drop p), p + (dec (l.drop p)).2)
theorem gstep_any (l : List UInt8) (p : Nat) (w : World) (ht : TbW w) (hl : l.length <= 1000000000) (hp : p <= l.length) :
  Calls Tryz.prog 73 #[.string ⟨l.toArray⟩, .int .i64 p] w fun e w' => e = .returned (.tuple #[.int .i64 (gstep l p).1, .int .i64 (gstep l p).2]) /\ Below w.heap.size w w' := by
 have HT := hid ht
 clear ht
 by_cases he : p = l.length
 ·have HV := hid (show gstep l p = (3, p) from if_pos he)
  have b1 : ((p : Int) == (l.length : Int)) = true := by rw [he]; exact beq_self_eq_true _
  clear he
  go_enter Tryz.func73, Tryz.ntmps73
  go_wp2
  go_ret2; exact ⟨by rw [HV.out]; rfl, Below.refl _ _⟩
 ·have HV := hid (show gstep l p = (gpfirst (l.drop p), p + (dec (l.drop p)).2) from if_neg he)
  have b1 : ((p : Int) == (l.length : Int)) = false := beq_eq_false_iff_ne.2 (by omega)
  have h4 := dec_le4 (l.drop p)
  go_enter Tryz.func73, Tryz.ntmps73
  go_wp2_with fail
  rw [ext_drop]; refine (decode_any (l.drop p) w HT.out.tabs).mono ?_
  rintro e w1 ⟨rfl, be⟩; have HB := hid be
  clear be; obtain ⟨r, hr⟩ : ∃ r : Int, r = ((dec (l.drop p)).1 : Int) := ⟨_, rfl⟩
  obtain ⟨n, hn⟩ : ∃ n : Nat, n = (dec (l.drop p)).2 := ⟨_, rfl⟩
  have HW := hid (show gpfirst (l.drop p) = gpcls r by rw [hr]; rfl)
  rw [<- hn] at HV h4
  rw [<- hr, <- hn]; clear hr hn
  go_wp2_with fail
  refine (gpcls_any r w1).mono ?_
  rintro e w2 ⟨rfl, hw2⟩; obtain rfl := hw2.symm
  clear hw2
  go_wp2
  go_ret2; exact ⟨by rw [HV.out, HW.out]; simp, HB.out⟩
end Go.Proofs.YtdpohgoikbeplaaGreatDoor.Wt
