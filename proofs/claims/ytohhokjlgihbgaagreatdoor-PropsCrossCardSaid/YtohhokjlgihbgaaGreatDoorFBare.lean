/- The contracts of bare and of enter (package props). -/
import Derived.Deep.AppendLies
import Derived.Test.YtohhokjlgihbgaaGreatDoorFRows2
import Derived.Test.YtohhokjlgihbgaaGreatDoorFPut
import Derived.Lib.SliceRun
namespace Go.Proofs.YtohhokjlgihbgaaGreatDoor
open Go.RowKit Go.Maps Go.WideMaps

theorem lt_of_heap {w : World} {b : Nat} {o : Obj} (h : w.heap[b]? = some o) : b < w.heap.size := (Array.getElem?_eq_some_iff.1 h).1
theorem heap_alloc_old (w : World) (o : Obj) (b : Nat) (h : b < w.heap.size) : (w.alloc o).heap[b]? = w.heap[b]? := by
  show (w.heap.push o)[b]? = _
  rw [Array.getElem?_push]
  rw [if_neg (by omega)]
theorem heap_alloc_new (w : World) (o : Obj) : (w.alloc o).heap[w.heap.size]? = some o := by
  show (w.heap.push o)[w.heap.size]? = _
  simp
def oth : List UInt8 := [79, 116, 104, 101, 114]
set_option maxHeartbeats 1000000 in
set_option maxRecDepth 100000 in
theorem bare_any (w : World) : Calls Tryz.prog 34 #[] w fun e w' => ∃ P K nv, e = .returned (.pointer (some ⟨P, 0, none⟩)) ∧ DbAt w.heap.size P K [oth] nv (.slice none 0 0) w' ∧ Below w.heap.size w w' := by
  obtain ⟨w1, hrun, ho1, hg1⟩ := (World.ownsMap_made (w.alloc (.cells #[.string ⟨#[79, 116, 104, 101, 114]⟩] 9)) Tryz.prog 9 (plainElem (H := Unit) Tryz.prog 3)).update law9 Tryz.underlying74 (by unfold maxLen; omega) (keyOf_nm oth (by decide)) (plainElem_int Tryz.underlying3 (a := 0) (by decide))
  rw [World.size_alloc] at hrun ho1 hg1
  have hrun' : (Instr.mapUpdate 74 (.map (some (w.heap.size + 1))) (.string ⟨#[79, 116, 104, 101, 114]⟩) (.int .i64 0)).run Tryz.prog ((w.alloc (.cells #[.string ⟨#[79, 116, 104, 101, 114]⟩] 9)).alloc (.map #[] 0)) = .ok () w1 := hrun
  have hmm := @run_makeMap Tryz.prog
  have HO := hid ho1
  have HG := hid hg1
  clear hrun ho1 hg1
  go_enter Tryz.func34, Tryz.ntmps34
  go_wp2
  have hs0 : w1.heap[w.heap.size]? = some (.cells #[.string ⟨#[79, 116, 104, 101, 114]⟩] 9 (0, 0)) := (HG.out.block w.heap.size (by simp; omega) (fun e => by injection e with e; omega)).trans ((heap_alloc_old _ _ w.heap.size (by simp)).trans (heap_alloc_new w _))
  have hsz : w.heap.size ≤ w1.heap.size := by have h5 := HG.out.size; simp at h5; omega
  have hB1 : Below w.heap.size w w1 := (((Below.refl w.heap.size w).alloc (Nat.le_refl _) _).alloc (by simp) _).grown HG.out (by simp; omega) (fun k hk => by injection hk with hk; omega)
  have hrow : w1.ownsRow w.heap.size 9 1 (.slice (some ⟨w.heap.size, 0, none⟩) 1 1) 1 (nms [oth]) := ⟨rfl, .inr ⟨w.heap.size, 1, _, rfl, Nat.le_refl _, hs0, Nat.le_refl _, by unfold maxLen; omega, rfl, rfl⟩⟩
  have HR := hid hrow
  have HB := hid hB1
  have HS := hid hsz
  clear hs0 hsz hB1 hrow hrun' hmm
  go_ret
  exact ⟨w1.heap.size, w.heap.size + 1, .slice (some ⟨w.heap.size, 0, none⟩) 1 1, rfl, ⟨heap_alloc_new w1 _, HO.out.alloc _, HR.out.alloc _, HS.out, by omega⟩, HB.out.alloc HS.out _⟩
theorem row_other {w : World} {B t s n : Nat} {v : Value} {xs : List Value} (h : w.ownsRow B t s v n xs) (b : Nat) (c : Array Value) (t' : TypeId) (hb : w.heap[b]? = some (.cells c t' (0, 0))) (ht : t ≠ t') : v.ownBlock ≠ some b := fun e => by
  rcases h.2 with ⟨h0, _⟩ | ⟨g, cap, cur, hv, _, hg, _⟩
  · rw [h0] at e; cases e
  · rw [hv] at e
    have : g = b := by simpa [Value.ownBlock] using e
    subst this
    rw [hg] at hb
    injection hb with hb
    injection hb with _ h2 _
    exact ht h2
theorem ne_map9 {w : World} {K n : Nat} {D : DataW Unit} {R : Value → Option (DataW Unit × List MemPlace)} (h : w.ownsMap Tryz.prog 9 R K n D) {c : Array Value} {t : TypeId} {f : Nat × Nat} (hb : w.heap[K]? = some (.cells c t f)) : False := by
  obtain ⟨es, clock, hk, _⟩ := h
  rw [hk] at hb
  cases hb
theorem row_other_map {w : World} {B t s n : Nat} {v : Value} {xs : List Value} (h : w.ownsRow B t s v n xs) {K m : Nat} {D : DataW Unit} {R : Value → Option (DataW Unit × List MemPlace)} (hk : w.ownsMap Tryz.prog 9 R K m D) : v.ownBlock ≠ some K := fun e => by
  rcases h.2 with ⟨h0, _⟩ | ⟨g, cap, cur, hv, _, hg, _⟩
  · rw [h0] at e; cases e
  · rw [hv] at e
    have : g = K := by simpa [Value.ownBlock] using e
    subst this
    exact ne_map9 hk hg
theorem map_keep {w w' : World} {K n : Nat} {D : DataW Unit} {R : Value → Option (DataW Unit × List MemPlace)} (h : w.ownsMap Tryz.prog 9 R K n D) (e : w'.heap[K]? = w.heap[K]?) : w'.ownsMap Tryz.prog 9 R K n D := by
  obtain ⟨es, clock, hk, F, rest⟩ := h
  exact ⟨es, clock, e.trans hk, F, rest⟩
theorem row_keep {w w' : World} {B t s n : Nat} {v : Value} {xs : List Value} (h : w.ownsRow B t s v n xs) (e : ∀ b, v.ownBlock = some b → w'.heap[b]? = w.heap[b]?) : w'.ownsRow B t s v n xs := by
  refine ⟨h.1, ?_⟩
  rcases h.2 with h' | ⟨q, cap, cur, hv, hB, hg, rest⟩
  · exact .inl h'
  · exact .inr ⟨q, cap, cur, hv, hB, (e q (by rw [hv]; rfl)).trans hg, rest⟩
/-- What a database leaves alone: all but its own block, its map's and its list's. -/
structure FarD (P K : Nat) (nv nv' : Value) (w w' : World) : Prop where
  st : ∀ x, x < w.heap.size → x ≠ P → x ≠ K → nv.ownBlock ≠ some x → w'.heap[x]? = w.heap[x]?
  nw : ∀ x, nv'.ownBlock = some x → nv.ownBlock = some x ∨ w.heap.size ≤ x
  sz : w.heap.size ≤ w'.heap.size
section
variable {B P K : Nat} {U : List (List UInt8)} {nv pv : Value} {w w' : World}
theorem DbAt.keep (h : DbAt B P K U nv pv w) (e : ∀ b, b < w.heap.size → (b = P ∨ b = K ∨ nv.ownBlock = some b) → w'.heap[b]? = w.heap[b]?) : DbAt B P K U nv pv w' :=
  ⟨(e P (lt_of_heap h.hP) (.inl rfl)).trans h.hP, map_keep h.hK (e K h.hK.lt (.inr (.inl rfl))), row_keep h.hR (fun b hb => e b (h.hR.lt b hb).2 (.inr (.inr hb))), h.bP, h.bK⟩
theorem DbAt.below (h : DbAt B P K U nv pv w) (hb : Below w.heap.size w w') : DbAt B P K U nv pv w' := h.keep fun b h1 _ => hb.block b h1
theorem cell_row (w : World) (b j : Nat) (l : List Value) (t : TypeId) (v : Value) (h : w.heap[b]? = some (.cells l.toArray t (0, 0))) (hv : l[j]? = some v) : w.cell? ⟨b, j, none⟩ = some v := by
  rw [cell_of_row w b j l.toArray t (0, 0) h]
  simpa using hv
theorem DbAt.c0 (h : DbAt B P K U nv pv w) : w.cell? ⟨P, 0, none⟩ = some nv := cell_row w P 0 [nv, .map (some K), pv] 76 _ h.hP rfl
theorem DbAt.c1 (h : DbAt B P K U nv pv w) : w.cell? ⟨P, 1, none⟩ = some (.map (some K)) := cell_row w P 1 [nv, .map (some K), pv] 76 _ h.hP rfl
theorem DbAt.c2 (h : DbAt B P K U nv pv w) : w.cell? ⟨P, 2, none⟩ = some pv := cell_row w P 2 [nv, .map (some K), pv] 76 _ h.hP rfl
end
/-- The contract of Class (package props). -/
theorem class_any (B P K : Nat) (U : List (List UInt8)) (nv pv : Value) (b : List UInt8) (w : World) (h : DbAt B P K U nv pv w) (hb : b.length ≤ 9223372036854775807) (hn : U.Nodup) :
    Calls Tryz.prog 32 #[.pointer (some ⟨P, 0, none⟩), .string ⟨b.toArray⟩] w fun e w' => e = .returned (.tuple #[.int .i64 (if b ∈ U then (U.idxOf b : Int) else 0), .bool (decide (b ∈ U))]) ∧ w' = w := by
  have c1 := h.c1
  have HKY := hid (keyOf_nm b hb)
  have HK := hid h.hK
  have HHS := hid (ndc_has (H := Unit) U.length U b rfl)
  have HAT := hid (ndc_at (H := Unit) (.lit (.int .i64 0)) U.length U b rfl hn)
  obtain ⟨v, hv⟩ : ∃ v : Int, v = if b ∈ U then (U.idxOf b : Int) else 0 := ⟨_, rfl⟩
  have HAV := hid (show ∀ c : Int, (ndc U : DataW Unit).atKey (nky b) (.lit (.int .i64 0)) = .lit (.int .i64 c) → v = c from fun c hc => by
    rw [HAT.out] at hc
    rw [hv]
    by_cases hm : b ∈ U
    · rw [if_pos hm] at hc ⊢; simpa using hc
    · rw [if_neg hm] at hc ⊢; simpa using hc)
  rw [← hv]
  clear hv h hn HAT
  go_enter Tryz.func32, Tryz.ntmps32
  go_wp2_with (at_lookup; refine wpList_lookup_own_ok_int _ rfl _ _ 74 rfl 9 3 .i64 law9 Tryz.underlying74 Tryz.underlying3 (zero3 _) K U.length (ndc U) rfl HK.out _ _ rfl HKY.out ?_; intro c hc hwc; obtain rfl := HAV.out c hc; rw [HHS.out]; clear hc hwc)
  go_ret2
  exact ⟨rfl, rfl⟩
end Go.Proofs.YtohhokjlgihbgaaGreatDoor
/- The contract of enter (package props): the number of a name, the next one if it is new. -/
namespace Go.Proofs.YtohhokjlgihbgaaGreatDoor
open Go.RowKit Go.Maps Go.WideMaps

theorem Tryz.info9 : (Tryz.prog.info? 9).map (fun i => (i.zero, i.size, i.bytes)) = some (some (.string ⟨#[]⟩), 1, 16) := by kernel_rfl
theorem news_s (w : World) (b : ByteArray) (T : TypeId) : ∀ j u, [Value.string b][j]? = some u → (w.alloc (.cells #[.string b] T)).cell? ((⟨w.heap.size, 0, none⟩ : Addr).add j) = some u := World.news_of_block (cs := #[.string b]) (heap_alloc_new w _)
theorem str_one (b : ByteArray) : ∀ v ∈ [Value.string b], v.oneCell' = true := fun v hv => by
  simp at hv; subst hv; rfl
theorem set_row (w : World) (b j : Nat) (l : List Value) (t : TypeId) (u : Value) (h : w.heap[b]? = some (.cells l.toArray t (0, 0))) : (w.setCell ⟨b, j, none⟩ u).heap[b]? = some (.cells (l.set j u).toArray t (0, 0)) := by
  have := Lib.heap_setCell_same (i := j) h u
  rw [this]
  simp
theorem frozen_row {w : World} {b : Nat} {l : Array Value} {t : TypeId} (h : w.heap[b]? = some (.cells l t (0, 0))) (j : Nat) : w.frozen? ⟨b, j, none⟩ = false := by
  unfold World.frozen?
  simp only [h]
  simp
theorem FarD.refl (P K : Nat) (nv : Value) (w : World) : FarD P K nv nv w w := ⟨fun _ _ _ _ _ => rfl, fun _ h => .inl h, Nat.le_refl _⟩
theorem FarD.trans {P K : Nat} {a b c : Value} {u v w : World} (h : FarD P K a b u v) (h2 : FarD P K b c v w) : FarD P K a c u w :=
  ⟨fun x hx h3 h4 h6 => (h2.st x (Nat.lt_of_lt_of_le hx h.sz) h3 h4 (fun e => by rcases h.nw x e with h7 | h7; exact h6 h7; omega)).trans (h.st x hx h3 h4 h6),
   fun x e => by
    rcases h2.nw x e with h3 | h3
    · exact h.nw x h3
    · exact .inr (Nat.le_trans h.sz h3), Nat.le_trans h.sz h2.sz⟩
theorem FarD.set {P K : Nat} {a b : Value} {u v : World} (h : FarD P K a b u v) (p : Addr) (hp : p.block = P) (x : Value) : FarD P K a b u (v.setCell p x) :=
  h.trans ⟨fun y _ h3 _ _ => Below.heap_setCell v p x y (fun e => h3 (e.trans hp)), fun _ e => .inl e, by simp [World.setCell]⟩

set_option maxHeartbeats 2000000 in
set_option maxRecDepth 100000 in
theorem enter_any (B P K : Nat) (U : List (List UInt8)) (nv pv : Value) (b : List UInt8) (w : World) (h : DbAt B P K U nv pv w) (hB : B ≤ w.heap.size) (hb : b.length ≤ 9223372036854775807) (hn : U.Nodup) (hl : U.length ≤ 1000000) :
    Calls Tryz.prog 58 #[.pointer (some ⟨P, 0, none⟩), .string ⟨b.toArray⟩] w fun e w' => e = .returned (.int .i64 ((adn b U).2 : Int)) ∧ Below B w w' ∧ ∃ nv', DbAt B P K (adn b U).1 nv' pv w' ∧ FarD P K nv nv' w w' := by
  obtain ⟨i0, hi9, hz0, hz1, hz2⟩ := info_parts Tryz.info9
  obtain ⟨no, nc, rfl⟩ : ∃ ao c, nv = .slice ao U.length c := by
    rcases h.hR.2 with ⟨h5, h6⟩ | ⟨q, qc, _, h5, _⟩
    · exact ⟨none, 0, by rw [h5, h6]⟩
    · exact ⟨_, qc, h5⟩
  have c0 := h.c0
  have c1 := h.c1
  have HKY := hid (keyOf_nm b hb)
  have HK := hid h.hK
  have HHS := hid (ndc_has (H := Unit) U.length U b rfl)
  have HAT := hid (ndc_at (H := Unit) (.lit (.int .i64 0)) U.length U b rfl hn)
  have HW := hid h
  clear h hn
  by_cases hm : b ∈ U
  · rw [decide_eq_true hm] at HHS
    rw [if_pos hm] at HAT
    have ea : adn b U = (U, U.idxOf b) := by unfold adn; rw [if_pos hm]
    rw [ea]
    dsimp only
    obtain ⟨m, hmE⟩ : ∃ m, m = U.idxOf b := ⟨_, rfl⟩
    rw [← hmE] at HAT ⊢
    have HAV := hid (show ∀ c : Int, (ndc U : DataW Unit).atKey (nky b) (.lit (.int .i64 0)) = .lit (.int .i64 c) → (m : Int) = c from fun c hc => by rw [HAT.out] at hc; simpa using hc)
    clear hm ea hmE HAT
    go_enter Tryz.func58, Tryz.ntmps58
    go_wp2_with (at_lookup; refine wpList_lookup_own_ok_int _ rfl _ _ 74 rfl 9 3 .i64 law9 Tryz.underlying74 Tryz.underlying3 (zero3 _) K U.length (ndc U) rfl HK.out _ _ rfl HKY.out ?_; intro c hc hwc; obtain rfl := HAV.out c hc; rw [HHS.out]; clear hc hwc)
    go_ret
    exact ⟨rfl, Below.refl _ _, _, HW.out, FarD.refl _ _ _ _⟩
  · rw [decide_eq_false hm] at HHS
    rw [if_neg hm] at HAT
    have ea : adn b U = (U ++ [b], U.length) := by unfold adn; rw [if_neg hm]
    rw [ea]
    dsimp only
    have HAV := hid (show ∀ c : Int, (ndc U : DataW Unit).atKey (nky b) (.lit (.int .i64 0)) = .lit (.int .i64 c) → (0 : Int) = c from fun c hc => by rw [HAT.out] at hc; simpa using hc)
    have HSN := hid (ndc_snoc (H := Unit) U b)
    have HPS := hid (nms_snoc U b)
    have HLN := hid (show (U ++ [b]).length = U.length + 1 by simp)
    obtain ⟨n, hnE⟩ : ∃ n, n = U.length := ⟨_, rfl⟩
    have HNE := hid hnE
    have HRW := hid HW.out.hR
    rw [← hnE] at c0 hl HSN HLN HK HRW
    have HP := hid HW.out.hP
    rw [← hnE] at HP
    have wfn : (Lit.int .i64 (n : Int)).wf = true := by
      have h2 : IntKind.i64.min = -9223372036854775808 := by decide
      have h3 : IntKind.i64.max = 9223372036854775807 := by decide
      simp [Lit.wf]; omega
    have HWF := hid wfn
    have HP1 := hid (show ∀ (w2 : World) (q2 c2 : Nat), (w.alloc (.cells #[.string ⟨b.toArray⟩] 9)).grownBy w2 (Value.slice no n nc).ownBlock → w2.heap[P]? = some (.cells #[.slice no n nc, .map (some K), pv] 76 (0, 0)) from fun w2 q2 c2 gr => by
      exact (gr.block P (by simp; have h5 := lt_of_heap HP.out; omega) (fun e => row_other HRW.out P _ 76 HP.out (by decide) e.symm)).trans ((heap_alloc_old w _ P (lt_of_heap HP.out)).trans HP.out))
    have HKP := hid (show ∀ (w2 : World), (w.alloc (.cells #[.string ⟨b.toArray⟩] 9)).grownBy w2 (Value.slice no n nc).ownBlock → w2.ownsMap (H := Unit) Tryz.prog 9 (plainElem Tryz.prog 3) K n (ndc U) from fun w2 gr => (HK.out.alloc _).kept gr (fun e => row_other_map HRW.out HK.out e.symm))
    clear hm ea hnE HAT wfn
    go_enter Tryz.func58, Tryz.ntmps58
    go_wp2_with (first | (at_lookup; refine wpList_lookup_own_ok_int _ rfl _ _ 74 rfl 9 3 .i64 law9 Tryz.underlying74 Tryz.underlying3 (zero3 _) K n (ndc U) rfl HK.out _ _ rfl HKY.out ?_; intro c hc hwc; obtain rfl := HAV.out c hc; rw [HHS.out]; clear hc hwc) | (at_builtin; refine wpList_append_lies _ rfl _ _ 45 rfl B 9 i0 (.string ⟨#[]⟩) 1 16 Tryz.underlying45 hi9 hz0 hz1 hz2 rfl (by decide) _ n (nms U) rfl (HRW.out.alloc _) ⟨w.heap.size, 0, none⟩ 1 1 [.string ⟨b.toArray⟩] rfl rfl (news_s w ⟨b.toArray⟩ 9) (str_one _) (by decide) (by unfold maxLen; omega) (by omega) (by simp; omega) (w.heap.size + 1) (by simp) ?_; intro q2 c2 w2 o2 gr2 hl2 hlt2; have f3 := HP1.out w2 q2 c2 gr2; have f1 : w2.cell? ⟨P, 0, none⟩ = some (.slice no n nc) := cell_row w2 P 0 [_, _, _] 76 _ f3 rfl; have f2 := frozen_row f3 0; have f4 : w2.cell? ⟨P, 1, none⟩ = some (.map (some K)) := cell_row w2 P 1 [_, _, _] 76 _ f3 rfl; have HF3 := hid f3; have GR := hid gr2; have HKM := hid ((HKP.out w2 gr2).setCell (a := ⟨P, 0, none⟩) (fun e => ne_map9 HK.out (show w.heap[K]? = _ by rw [e]; exact HP.out)) (.slice (some ⟨q2, 0, none⟩) (n + 1) c2)); clear f3 gr2) | (at_mapUpdate; refine wpList_mapUpdate_own _ rfl _ _ _ 74 rfl 9 3 law9 Tryz.underlying74 _ K n (ndc U) rfl HKM.out (by unfold maxLen; omega) _ _ _ rfl rfl HKY.out _ [] (plainElem_int Tryz.underlying3 HWF.out) ?_; intro w4 ho4 hg4) | fail)
    have gr2 := GR.out
    have hPK : P ≠ K := fun e => ne_map9 HK.out (show w.heap[K]? = _ by rw [← e]; exact HP.out)
    have r1 : (w2.setCell ⟨P, 0, none⟩ (.slice (some ⟨q2, 0, none⟩) (n + 1) c2)).heap[P]? = some (.cells #[.slice (some ⟨q2, 0, none⟩) (n + 1) c2, .map (some K), pv] 76 (0, 0)) := set_row w2 P 0 [.slice no n nc, .map (some K), pv] 76 _ HF3.out
    have hP3 := lt_of_heap r1
    have r2 := (hg4.block P hP3 (fun e => hPK (by injection e))).trans r1
    have r3 := ownsRow_setCell_other o2 (a := ⟨P, 0, none⟩) (row_other o2 P _ 76 HF3.out (by decide)) (.slice (some ⟨q2, 0, none⟩) (n + 1) c2)
    have r4 := World.ownsRow.kept r3 hg4 (.inr (row_other_map r3 HKM.out))
    rw [← HPS.out] at r4
    rw [← HSN.out] at ho4
    have r5 := ((((Below.refl B w).alloc hB (.cells #[.string ⟨b.toArray⟩] 9)).grown gr2 (by simp; omega) (fun k hk => (HRW.out.lt k hk).1)).setCell (p := ⟨P, 0, none⟩) HW.out.bP (.slice (some ⟨q2, 0, none⟩) (n + 1) c2)).grown hg4 (by have h5 := gr2.size; simp at h5; simp [World.setCell]; omega) (fun k hk => by injection hk with hk; rw [← hk]; exact HW.out.bK)
    have r6 : FarD P K (.slice no n nc) (.slice (some ⟨q2, 0, none⟩) (n + 1) c2) w w4 :=
      ((show FarD P K (.slice no n nc) (.slice (some ⟨q2, 0, none⟩) (n + 1) c2) w w2 from ⟨fun x hx _ _ h6 => (gr2.block x (by simp; omega) (fun e => h6 e.symm)).trans (heap_alloc_old w _ x hx), fun x e => by
        have e2 : q2 = x := by simpa [Value.ownBlock] using e
        subst e2
        rcases hl2 with h9 | h9
        · exact .inl h9
        · exact .inr (by omega), by have h9 := gr2.size; simp at h9; omega⟩).set ⟨P, 0, none⟩ rfl _).trans ⟨fun x hx _ h4 _ => hg4.block x hx (fun e => h4 (by injection e)), fun _ e => .inl e, hg4.size⟩
    have HR2 := hid r2
    have HR4 := hid r4
    have HR5 := hid r5
    have HR6 := hid r6
    have HO4 := hid ho4
    clear r1 r2 r3 r4 r5 r6 gr2 ho4 hg4 o2 hl2 hlt2 f1 f2 f4
    rw [← HNE.out]
    go_ret
    exact ⟨rfl, HR5.out, _, ⟨HR2.out, by rw [HLN.out]; exact HO4.out, by rw [HLN.out]; exact HR4.out, HW.out.bP, HW.out.bK⟩, HR6.out⟩
end Go.Proofs.YtohhokjlgihbgaaGreatDoor
/- Rows of ranges with classes. -/
namespace Go.Proofs.YtohhokjlgihbgaaGreatDoor
open Go.RowKit

abbrev Tr := Nat × Nat × Nat
/-- A range and its class. -/
abbrev Rk := Int × Int × Int
/-- A slice of ranges, nil or not, reads as a list. -/
def RdK (w : World) (ao : Option Addr) (l : List Rk) : Prop :=
  ∀ (k : Nat) (g : Rk), l[k]? = some g → ∃ a : Addr, ao = some a ∧ a.block < w.heap.size ∧ w.cell? (a.add (k * 3)) = some (.int .i32 g.1) ∧ w.cell? ⟨(a.add (k * 3)).block, (a.add (k * 3)).off + 1, none⟩ = some (.int .i32 g.2.1) ∧ w.cell? ⟨(a.add (k * 3)).block, (a.add (k * 3)).off + 2, none⟩ = some (.int .i64 g.2.2)
theorem RdK.below {w w' : World} {ao : Option Addr} {l : List Rk} (h : RdK w ao l) (hb : Below w.heap.size w w') : RdK w' ao l := fun k g hk => by
  obtain ⟨a, h1, h2, h3, h4, h5⟩ := h k g hk
  exact ⟨a, h1, Nat.lt_of_lt_of_le h2 hb.size, (hb.cell (p := a.add (k * 3)) (by rw [add_blk]; exact h2)).trans h3, (hb.cell (p := ⟨(a.add (k * 3)).block, (a.add (k * 3)).off + 1, none⟩) (show (a.add (k * 3)).block < _ by rw [add_blk]; exact h2)).trans h4, (hb.cell (p := ⟨(a.add (k * 3)).block, (a.add (k * 3)).off + 2, none⟩) (show (a.add (k * 3)).block < _ by rw [add_blk]; exact h2)).trans h5⟩
def rkc (g : Rk) : List Value := [.int .i32 g.1, .int .i32 g.2.1, .int .i64 g.2.2]
def rkv (g : Rk) : Value := .agg #[.int .i32 g.1, .int .i32 g.2.1, .int .i64 g.2.2]
def rkT (g : Tr) : Rk := ((g.1 : Int), (g.2.1 : Int), (g.2.2 : Int))
def rks (l : List Tr) : List Value := l.flatMap fun g => rkc (rkT g)
theorem rks_snoc (l : List Tr) (g : Tr) : rks (l ++ [g]) = rks l ++ rkc (rkT g) := by simp [rks]
theorem rks_len (l : List Tr) : (rks l).length = l.length * 3 := by
  induction l with
  | nil => rfl
  | cons g l ih =>
    show (rkc (rkT g) ++ rks l).length = _
    rw [List.length_append, ih]
    simp [rkc]; omega
theorem rkc_one (g : Rk) : ∀ v ∈ rkc g, v.oneCell' = true := fun v hv => by
  unfold rkc at hv
  simp only [List.mem_cons, List.not_mem_nil, or_false] at hv
  rcases hv with rfl | rfl | rfl <;> rfl
theorem news_k (w : World) (g : Rk) (T : TypeId) : ∀ j u, (rkc g)[j]? = some u → (w.alloc (.cells #[.int .i32 g.1, .int .i32 g.2.1, .int .i64 g.2.2] T)).cell? ((⟨w.heap.size, 0, none⟩ : Addr).add j) = some u := fun j u hj => by
  rw [show (⟨w.heap.size, 0, none⟩ : Addr).add j = ⟨w.heap.size, j, none⟩ by unfold Addr.add; split <;> simp_all]
  rw [cell_of_row _ w.heap.size j #[.int .i32 g.1, .int .i32 g.2.1, .int .i64 g.2.2] T (0, 0) (show (w.heap.push _)[w.heap.size]? = _ by simp)]
  rw [← hj]
  simp [rkc]
theorem rks_app (l m : List Tr) : rks (l ++ m) = rks l ++ rks m := by simp [rks]
theorem rd_own {B n cap : Nat} {ao : Option Addr} {A : List Tr} {w : World} (h : w.ownsRow B 86 3 (.slice ao n cap) n (rks A)) : RdK w ao (A.map rkT) := by
  intro k x hk
  rw [List.getElem?_map] at hk
  obtain ⟨t, ht, rfl⟩ := Option.map_eq_some_iff.1 hk
  have hn : A.length = n := by have := h.1; rw [rks_len] at this; omega
  have hkl := (List.getElem?_eq_some_iff.1 ht).1
  rcases h.2 with ⟨h', h0⟩ | ⟨q, cap', cur, h', hb, hg, hnc, hcm, hcs, htk⟩
  · omega
  · simp only [Value.slice.injEq, true_and] at h'
    obtain ⟨rfl, rfl⟩ := h'
    have hc : ∀ j v, (rkc (rkT t))[j]? = some v → w.cell? ⟨q, k * 3 + j, none⟩ = some v := fun j v hj => by
      have hj3 := (List.getElem?_eq_some_iff.1 hj).1
      have hj3' : j < 3 := hj3
      rw [h.cellAt _ (by omega)]
      have e : A = A.take k ++ t :: A.drop (k + 1) := by
        have := List.getElem_of_getElem? ht
        obtain ⟨_, this⟩ := this
        rw [← this, List.getElem_cons_drop, List.take_append_drop]
      rw [e, rks_app]
      have hlk : (rks (A.take k)).length = k * 3 := by rw [rks_len, List.length_take]; omega
      rw [List.getElem?_append_right (by omega), hlk, show k * 3 + j - k * 3 = j by omega]
      show (rkc (rkT t) ++ rks (A.drop (k + 1)))[j]? = _
      rw [List.getElem?_append_left hj3]
      exact hj
    have ha : (⟨q, 0, none⟩ : Addr).add (k * 3) = ⟨q, k * 3, none⟩ := by rw [Addr.add_lit, Nat.zero_add]
    refine ⟨_, rfl, (h.lt q rfl).2, ?_, ?_, ?_⟩
    · rw [ha]; exact hc 0 _ rfl
    · rw [ha]; exact hc 1 _ rfl
    · rw [ha]; exact hc 2 _ rfl
theorem own_keep {w w' : World} {B e size n : Nat} {v : Value} {xs : List Value} (h : w.ownsRow B e size v n xs) (hb : Below w.heap.size w w') : w'.ownsRow B e size v n xs := by
  refine ⟨h.1, ?_⟩
  rcases h.2 with h' | ⟨q, cap, cur, hv, hB, hg, rest⟩
  · exact .inl h'
  · exact .inr ⟨q, cap, cur, hv, hB, (hb.block q (Array.getElem?_eq_some_iff.1 hg).1).trans hg, rest⟩
theorem own_mono {w : World} {B B' e size n : Nat} {v : Value} {xs : List Value} (h : w.ownsRow B e size v n xs) (hb : B' ≤ B) : w.ownsRow B' e size v n xs := by
  refine ⟨h.1, ?_⟩
  rcases h.2 with h' | ⟨q, cap, cur, hv, hB, rest⟩
  · exact .inl h'
  · exact .inr ⟨q, cap, cur, hv, Nat.le_trans hb hB, rest⟩
theorem own_form {B n : Nat} {e : TypeId} {k : Nat} {v : Value} {xs : List Value} {w : World} (h : w.ownsRow B e k v n xs) : ∃ ao c, v = .slice ao n c := by
  rcases h.2 with ⟨rfl, h5⟩ | ⟨q', qc, _, rfl, _⟩
  · exact ⟨none, 0, by rw [h5]⟩
  · exact ⟨_, qc, rfl⟩
theorem Tryz.info86 : (Tryz.prog.info? 86).map (fun i => (i.zero, i.size, i.bytes)) = some (some (.agg #[.int .i32 0, .int .i32 0, .int .i64 0]), 3, 16) := by kernel_rfl
end Go.Proofs.YtohhokjlgihbgaaGreatDoor
/- The contract of whole (package props): all numbers in as few ranges as can be. -/
namespace Go.Proofs.YtohhokjlgihbgaaGreatDoor
open Go.RowKit

theorem rks_at (Q : List Tr) (z : Tr) (k : Nat) (v : Value) (h : (rkc (rkT z))[k]? = some v) : (rks (Q ++ [z]))[Q.length * 3 + k]? = some v := by
  rw [rks_snoc, List.getElem?_append_right (by rw [rks_len]; omega), rks_len, show Q.length * 3 + k - Q.length * 3 = k by omega, h]
theorem rks_set (Q : List Tr) (z : Tr) (h : Nat) : (rks (Q ++ [z])).set (Q.length * 3 + 1) (.int .i32 (h : Int)) = rks (Q ++ [(z.1, h, z.2.2)]) := by
  rw [rks_snoc, rks_snoc, List.set_append_right _ _ (by rw [rks_len]; omega), rks_len, show Q.length * 3 + 1 - Q.length * 3 = 1 by omega]
  rfl
/-- A range joined to the last one, if that has its class. -/
def jn (l : List Tr) (g : Tr) : List Tr :=
  match l.getLast? with
  | some z => if z.2.2 = g.2.2 then l.dropLast ++ [(z.1, g.2.1, g.2.2)] else l ++ [g]
  | none => [g]
theorem jn_nil (g : Tr) : jn [] g = [g] := rfl
theorem jn_snoc (Q : List Tr) (z g : Tr) : jn (Q ++ [z]) g = if z.2.2 = g.2.2 then Q ++ [(z.1, g.2.1, g.2.2)] else Q ++ [z] ++ [g] := by
  have h : (Q ++ [z]).getLast? = some z := by simp
  unfold jn
  rw [h]
  dsimp only
  split
  · simp
  · rfl
theorem jn_len (o : List Tr) (g : Tr) : (jn o g).length ≤ o.length + 1 := by
  rcases List.eq_nil_or_concat o with rfl | ⟨Q, z, rfl⟩
  · simp [jn]
  · rw [List.concat_eq_append, jn_snoc]
    split <;> simp
/-- With what stands ahead of it. -/
def gp (o : List Tr) (nx : Nat) (g : Tr) : List Tr := if nx < g.1 then o ++ [(nx, g.1 - 1, 0)] else o
def whF (o : List Tr) (nx : Nat) : List Tr → List Tr
  | [] => if nx ≤ 1114111 then o ++ [(nx, 1114111, 0)] else o
  | g :: R => whF (jn (gp o nx g) g) (g.2.1 + 1) R
def whl (L : List Tr) : List Tr := whF [] 0 L
theorem gp_len (o : List Tr) (nx : Nat) (g : Tr) : (gp o nx g).length ≤ o.length + 1 := by unfold gp; split <;> simp
theorem whF_len : ∀ (L o : List Tr) (nx : Nat), (whF o nx L).length ≤ o.length + 2 * L.length + 1
  | [], o, nx => by unfold whF; split <;> simp
  | g :: R, o, nx => by
    have h1 := whF_len R (jn (gp o nx g) g) (g.2.1 + 1)
    have h2 := jn_len (gp o nx g) g
    have h3 := gp_len o nx g
    show (whF (jn (gp o nx g) g) (g.2.1 + 1) R).length ≤ _
    simp; omega

set_option maxHeartbeats 6000000 in
set_option maxRecDepth 100000 in
theorem whole_any (ao : Option Addr) (ac : Nat) (L : List Tr) (w : World) (ha : RdK w ao (L.map rkT)) (hl : L.length ≤ 2000000) (hL : ∀ g ∈ L, g.1 ≤ 1114111 ∧ g.2.1 ≤ 1114111) :
    Calls Tryz.prog 37 #[.slice ao L.length ac] w fun e w' => ∃ v', e = .returned v' ∧ w'.ownsRow w.heap.size 86 3 v' (whl L).length (rks (whl L)) ∧ Below w.heap.size w w' := by
  obtain ⟨i0, hi86, hz0, hz1, hz2⟩ := info_parts Tryz.info86
  obtain ⟨n, hn⟩ : ∃ n, n = L.length := ⟨_, rfl⟩
  have HN := hid hn
  obtain ⟨N, hNE⟩ : ∃ N, N = w.heap.size := ⟨_, rfl⟩
  have HNE := hid hNE
  have HAB := hid (show ∀ W, Below N w W → RdK W ao (L.map rkT) from fun W hW => ha.below (by rw [← hNE]; exact hW))
  have HB0 := hid (show Below N w w by rw [hNE]; exact Below.refl _ _)
  have HL := hid hL
  rw [← hNE]
  rw [← hn] at hl ⊢
  clear ha hn hNE hL
  go_enter Tryz.func37, Tryz.ntmps37
  go_wp2
  go_loopw [10, 3, 4] (fun x y z wr => ∃ (k m nx : Nat) (o : List Tr) (vo : Option Addr) (vc : Nat), x = .int .i64 (k : Int) ∧ y = .slice vo m vc ∧ z = .int .i32 (nx : Int) ∧ k ≤ n ∧ nx ≤ 1114112 ∧ m ≤ 2 * k ∧ Hid (m = o.length) ∧ Hid (whF o nx (L.drop k) = whl L) ∧ Hid (wr.ownsRow N 86 3 (.slice vo m vc) m (rks o)) ∧ Hid (Below N w wr)) (fun x _ _ _ => n - (intOf x).toNat)
  case atStart => exact ⟨0, 0, 0, [], none, 0, rfl, rfl, rfl, by omega, by omega, by omega, rfl, rfl, World.ownsRow_nil w N 86 3, HB0⟩
  case round =>
    obtain ⟨k, m, nx, o, vo, vc, rfl, rfl, rfl, hk, hnx, hmk, HM, HWH, HO, HB⟩ := hrel
    have hwN : N ≤ wr.heap.size := by have h5 := HNE.out; have h6 := HB.out.size; omega
    by_cases hlt : k < n
    · have hkL : k < L.length := by have h5 := HN.out; omega
      obtain ⟨a, rfl, ha, a0, a1, a2⟩ := HAB.out wr HB.out k (rkT L[k]) (by rw [List.getElem?_map, List.getElem?_eq_getElem hkL]; rfl)
      obtain ⟨l1, l2⟩ := HL.out L[k] (List.getElem_mem hkL)
      have HST := hid (show whF (jn (gp o nx L[k]) L[k]) (L[k].2.1 + 1) (L.drop (k + 1)) = whl L by rw [← HWH.out, List.drop_eq_getElem_cons hkL]; rfl)
      unfold rkT at a0 a1 a2
      obtain ⟨g, hg⟩ : ∃ g, g = L[k] := ⟨_, rfl⟩
      rw [← hg] at a0 a1 a2 l1 l2 HST
      obtain ⟨lo, hh, cl⟩ := g
      dsimp only at a0 a1 a2 l1 l2 HST
      have i3 : (k : Int) < (n : Int) := by omega
      have i0' : (0 : Int) ≤ (k : Int) := by omega
      have HBA := hid (HB.out.alloc hwN (.cells #[.int .i32 (lo : Int), .int .i32 (hh : Int), .int .i64 (cl : Int)] 86))
      have HOA := hid (HO.out.alloc (.cells #[.int .i32 (lo : Int), .int .i32 (hh : Int), .int .i64 (cl : Int)] 86))
      have HGA := hid (heap_alloc_new wr (.cells [.int .i32 (lo : Int), .int .i32 (hh : Int), .int .i64 (cl : Int)].toArray 86))
      have HOW := hid (show ∀ b, (Value.slice vo m vc).ownBlock = some b → N ≤ b ∧ b < wr.heap.size from fun b hb => HO.out.lt b hb)
      clear hg hkL
      by_cases hgap : nx < lo
      · have hgap' : (nx : Int) < (lo : Int) := by omega
        obtain ⟨l0, hl0⟩ : ∃ l0, l0 = lo - 1 := ⟨_, rfl⟩
        have e0 : (lo : Int) - 1 = (l0 : Int) := by omega
        have e00 : IntKind.i32.wrap (l0 : Int) = (l0 : Int) := by rw [IntKind.wrap_i32]; omega
        have HGP := hid (show gp o nx (lo, hh, cl) = o ++ [(nx, l0, 0)] by unfold gp; rw [if_pos hgap, hl0])
        rw [HGP.out] at HST
        have HNW := hid (show ∀ j u, (rkc ((nx : Int), (l0 : Int), (0 : Int)))[j]? = some u → ((wr.alloc (.cells #[.int .i32 (lo : Int), .int .i32 (hh : Int), .int .i64 (cl : Int)] 86)).alloc (.cells #[.int .i32 (nx : Int), .int .i32 (l0 : Int), .int .i64 0] 86)).cell? ((⟨wr.heap.size + 1, 0, none⟩ : Addr).add j) = some u by
          have h5 := news_k (wr.alloc (.cells #[.int .i32 (lo : Int), .int .i32 (hh : Int), .int .i64 (cl : Int)] 86)) ((nx : Int), (l0 : Int), (0 : Int)) 86
          rw [World.size_alloc] at h5
          exact h5)
        clear hl0
        have em : ((m : Int) + 1) - 1 = (m : Int) := by omega
        have b0 : (0 : Int) ≤ (m : Int) := by omega
        have b1 : (m : Int) < (m : Int) + 1 := by omega
        go_wp2_with (at_builtin; refine wpList_append_lies _ rfl _ _ 64 rfl N 86 i0 (.agg #[.int .i32 0, .int .i32 0, .int .i64 0]) 3 16 Tryz.underlying64 hi86 hz0 hz1 hz2 rfl (by decide) _ m (rks o) rfl (HOA.out.alloc _) ⟨wr.heap.size + 1, 0, none⟩ 1 1 (rkc ((nx : Int), (l0 : Int), (0 : Int))) rfl rfl HNW.out (rkc_one _) (by decide) (by unfold maxLen; omega) (by omega) (by simp; omega) (wr.heap.size + 1 + 1) (by simp) ?_; intro q2 c2 w2 o2 gr2 hl2 hlt2; have HB2 := hid ((HBA.out.alloc (by simp; omega) (.cells #[.int .i32 (nx : Int), .int .i32 (l0 : Int), .int .i64 0] 86)).grown gr2 (by simp; omega) (fun k hk => (HOW.out k hk).1)); have HG2 := hid (show w2.heap[wr.heap.size]? = some (.cells [.int .i32 (lo : Int), .int .i32 (hh : Int), .int .i64 (cl : Int)].toArray 86 (0, 0)) from (gr2.block wr.heap.size (by simp; omega) (fun e => by have h5 := (HOW.out wr.heap.size e.symm).2; omega)).trans ((heap_alloc_old _ _ wr.heap.size (by simp)).trans HGA.out)); have HO2 := hid (show w2.ownsRow N 86 3 (.slice (some ⟨q2, 0, none⟩) (m + 1) c2) (m + 1) (rks (o ++ [(nx, l0, 0)])) by rw [rks_snoc]; exact o2); have x0 := cell_row w2 wr.heap.size 0 _ 86 _ HG2.out rfl; have x1 := cell_row w2 wr.heap.size 1 _ 86 _ HG2.out rfl; have x2 := cell_row w2 wr.heap.size 2 _ 86 _ HG2.out rfl; have hqN : N ≤ q2 := (HO2.out.lt q2 rfl).1; have cz : w2.cell? ⟨q2, m * 3 + 2, none⟩ = some (.int .i64 0) := (by rw [HM.out, HO2.out.cellAt _ (by have h5 := HM.out; omega)]; exact rks_at o (nx, l0, 0) 2 _ rfl); clear o2 gr2 hl2 hlt2)
        have HMQ := hid HM.out
        by_cases hc : cl = 0
        · have hc' : ((0 : Int) == (cl : Int)) = true := by subst hc; rfl
          have HSF := hid (show whF (o ++ [((nx, l0, 0) : Tr).1 |> fun z => (z, hh, 0)]) (hh + 1) (L.drop (k + 1)) = whl L by rw [← HST.out, jn_snoc, if_pos (show ((nx, l0, 0) : Tr).2.2 = (lo, hh, cl).2.2 from hc.symm)]; subst hc; rfl)
          go_quiet (fail)
          have HBq := hid ((HB2.out).trans (show Below N w2 (w2.drewN nq) from ⟨rfl, rfl, rfl, Nat.le_refl _, fun _ _ => rfl⟩))
          have HOq := hid (show (w2.drewN nq).ownsRow N 86 3 (.slice (some ⟨q2, 0, none⟩) (m + 1) c2) (m + 1) (rks (o ++ [(nx, l0, 0)])) from HO2.out)
          have HGq := hid (show (w2.drewN nq).heap[wr.heap.size]? = some (.cells [.int .i32 (lo : Int), .int .i32 (hh : Int), .int .i64 (cl : Int)].toArray 86 (0, 0)) from HG2.out)
          obtain ⟨W, hW⟩ : ∃ W, W = w2.drewN nq := ⟨_, rfl⟩
          rw [← hW] at HBq HOq HGq ⊢
          have hWN : N ≤ W.heap.size := by have h5 := HNE.out; have h6 := HBq.out.size; omega
          clear hW
          have x0 := cell_row W wr.heap.size 0 _ 86 _ HGq.out rfl
          have x1 := cell_row W wr.heap.size 1 _ 86 _ HGq.out rfl
          have x2 := cell_row W wr.heap.size 2 _ 86 _ HGq.out rfl
          clear cz
          have y1 : W.cell? ⟨q2, m * 3 + 1, none⟩ = some (.int .i32 (((nx, l0, 0)).2.1 : Int)) := by rw [HMQ.out, HOq.out.cellAt _ (by have h5 := HMQ.out; omega)]; exact rks_at (o) ((nx, l0, 0)) 1 _ rfl
          have f1 : W.frozen? ⟨q2, m * 3 + 1, none⟩ = false := HOq.out.frozenAt _
          have HR5 := hid (show (W.setCell ⟨q2, m * 3 + 1, none⟩ (.int .i32 (hh : Int))).ownsRow N 86 3 (.slice (some ⟨q2, 0, none⟩) (m + 1) c2) (m + 1) (rks ((o) ++ [(((nx, l0, 0)).1, hh, ((nx, l0, 0)).2.2)])) by
            have h5 := (HOq.out.stored (m * 3 + 1) (.int .i32 (hh : Int))).1
            rw [← rks_set, ← HMQ.out]
            exact h5)
          have HB5 := hid (HBq.out.setCell (p := ⟨q2, m * 3 + 1, none⟩) hqN (.int .i32 (hh : Int)))
          go_wp2
          go_roundw
          case rel => exact ⟨k + 1, m + 1, hh + 1, (o) ++ [(((nx, l0, 0)).1, hh, ((nx, l0, 0)).2.2)], some ⟨q2, 0, none⟩, c2, by go_num, rfl, by go_num, by omega, by omega, by omega, (by have h5 := HMQ.out; show m + 1 = _; simp; omega), HSF, HR5, HB5⟩
          case measure => simp [intOf]; omega
        · have hc' : ((0 : Int) == (cl : Int)) = false := beq_eq_false_iff_ne.2 (by omega)
          have HSF := hid (show whF ((o ++ [(nx, l0, 0)]) ++ [(lo, hh, cl)]) (hh + 1) (L.drop (k + 1)) = whl L by rw [← HST.out, jn_snoc, if_neg (show ¬ ((nx, l0, 0) : Tr).2.2 = (lo, hh, cl).2.2 from fun e => hc e.symm)])
          go_quiet (fail)
          have HBq := hid ((HB2.out).trans (show Below N w2 (w2.drewN nq) from ⟨rfl, rfl, rfl, Nat.le_refl _, fun _ _ => rfl⟩))
          have HOq := hid (show (w2.drewN nq).ownsRow N 86 3 (.slice (some ⟨q2, 0, none⟩) (m + 1) c2) (m + 1) (rks (o ++ [(nx, l0, 0)])) from HO2.out)
          have HGq := hid (show (w2.drewN nq).heap[wr.heap.size]? = some (.cells [.int .i32 (lo : Int), .int .i32 (hh : Int), .int .i64 (cl : Int)].toArray 86 (0, 0)) from HG2.out)
          obtain ⟨W, hW⟩ : ∃ W, W = w2.drewN nq := ⟨_, rfl⟩
          rw [← hW] at HBq HOq HGq ⊢
          have hWN : N ≤ W.heap.size := by have h5 := HNE.out; have h6 := HBq.out.size; omega
          clear hW
          have x0 := cell_row W wr.heap.size 0 _ 86 _ HGq.out rfl
          have x1 := cell_row W wr.heap.size 1 _ 86 _ HGq.out rfl
          have x2 := cell_row W wr.heap.size 2 _ 86 _ HGq.out rfl
          go_wp2_with (at_builtin; refine wpList_append_lies _ rfl _ _ 64 rfl N 86 i0 (.agg #[.int .i32 0, .int .i32 0, .int .i64 0]) 3 16 Tryz.underlying64 hi86 hz0 hz1 hz2 rfl (by decide) _ (m + 1) (rks (o ++ [(nx, l0, 0)])) rfl (HOq.out.alloc _) ⟨W.heap.size, 0, none⟩ 1 1 (rkc ((lo : Int), (hh : Int), (cl : Int))) rfl rfl (news_k W ((lo : Int), (hh : Int), (cl : Int)) 86) (rkc_one _) (by decide) (by unfold maxLen; omega) (by omega) (by simp; omega) (W.heap.size + 1) (by simp) ?_; intro q5 c5 w5 o5 gr5 hl5 hlt5)
          have HB5 := hid ((HBq.out.alloc hWN (.cells #[.int .i32 (lo : Int), .int .i32 (hh : Int), .int .i64 (cl : Int)] 86)).grown gr5 (by simp; omega) (fun k hk => (HOq.out.lt k hk).1))
          have HO5 := hid (show w5.ownsRow N 86 3 (.slice (some ⟨q5, 0, none⟩) ((m + 1) + 1) c5) ((m + 1) + 1) (rks ((o ++ [(nx, l0, 0)]) ++ [(lo, hh, cl)])) by rw [rks_snoc]; exact o5)
          clear o5 gr5 hl5 hlt5
          go_roundw
          case rel => exact ⟨k + 1, (m + 1) + 1, hh + 1, (o ++ [(nx, l0, 0)]) ++ [(lo, hh, cl)], some ⟨q5, 0, none⟩, c5, by go_num, rfl, by go_num, by omega, by omega, by omega, (by have h5 := HM.out; show m + 1 + 1 = _; simp; omega), HSF, HO5, HB5⟩
          case measure => simp [intOf]; omega
      · have hgap' : ¬ (nx : Int) < (lo : Int) := by omega
        have HGP := hid (show gp o nx (lo, hh, cl) = o by unfold gp; rw [if_neg hgap])
        rw [HGP.out] at HST
        rcases List.eq_nil_or_concat o with h0 | ⟨Q, z, h0⟩
        · have hm0 : m = 0 := by have h5 := HM.out; rw [h0] at h5; exact h5
          subst hm0
          rw [h0] at HST HOA
          rw [jn_nil] at HST
          have HSF := hid HST.out
          go_wp2
          go_quiet (fail)
          have HBq := hid ((HBA.out).trans (show Below N (wr.alloc (.cells #[.int .i32 (lo : Int), .int .i32 (hh : Int), .int .i64 (cl : Int)] 86)) ((wr.alloc (.cells #[.int .i32 (lo : Int), .int .i32 (hh : Int), .int .i64 (cl : Int)] 86)).drewN nq) from ⟨rfl, rfl, rfl, Nat.le_refl _, fun _ _ => rfl⟩))
          have HOq := hid (show ((wr.alloc (.cells #[.int .i32 (lo : Int), .int .i32 (hh : Int), .int .i64 (cl : Int)] 86)).drewN nq).ownsRow N 86 3 (.slice vo 0 vc) 0 (rks ([])) from HOA.out)
          have HGq := hid (show ((wr.alloc (.cells #[.int .i32 (lo : Int), .int .i32 (hh : Int), .int .i64 (cl : Int)] 86)).drewN nq).heap[wr.heap.size]? = some (.cells [.int .i32 (lo : Int), .int .i32 (hh : Int), .int .i64 (cl : Int)].toArray 86 (0, 0)) from HGA.out)
          obtain ⟨W, hW⟩ : ∃ W, W = (wr.alloc (.cells #[.int .i32 (lo : Int), .int .i32 (hh : Int), .int .i64 (cl : Int)] 86)).drewN nq := ⟨_, rfl⟩
          rw [← hW] at HBq HOq HGq ⊢
          have hWN : N ≤ W.heap.size := by have h5 := HNE.out; have h6 := HBq.out.size; omega
          clear hW
          have x0 := cell_row W wr.heap.size 0 _ 86 _ HGq.out rfl
          have x1 := cell_row W wr.heap.size 1 _ 86 _ HGq.out rfl
          have x2 := cell_row W wr.heap.size 2 _ 86 _ HGq.out rfl
          go_wp2_with (at_builtin; refine wpList_append_lies _ rfl _ _ 64 rfl N 86 i0 (.agg #[.int .i32 0, .int .i32 0, .int .i64 0]) 3 16 Tryz.underlying64 hi86 hz0 hz1 hz2 rfl (by decide) _ 0 (rks ([])) rfl (HOq.out.alloc _) ⟨W.heap.size, 0, none⟩ 1 1 (rkc ((lo : Int), (hh : Int), (cl : Int))) rfl rfl (news_k W ((lo : Int), (hh : Int), (cl : Int)) 86) (rkc_one _) (by decide) (by unfold maxLen; omega) (by omega) (by simp; omega) (W.heap.size + 1) (by simp) ?_; intro q5 c5 w5 o5 gr5 hl5 hlt5)
          have HB5 := hid ((HBq.out.alloc hWN (.cells #[.int .i32 (lo : Int), .int .i32 (hh : Int), .int .i64 (cl : Int)] 86)).grown gr5 (by simp; omega) (fun k hk => (HOq.out.lt k hk).1))
          have HO5 := hid (show w5.ownsRow N 86 3 (.slice (some ⟨q5, 0, none⟩) (0 + 1) c5) (0 + 1) (rks ([] ++ [(lo, hh, cl)])) by rw [rks_snoc]; exact o5)
          clear o5 gr5 hl5 hlt5
          go_roundw
          case rel => exact ⟨k + 1, 0 + 1, hh + 1, [] ++ [(lo, hh, cl)], some ⟨q5, 0, none⟩, c5, by go_num, rfl, by go_num, by omega, by omega, by omega, (by show 0 + 1 = _; rfl), HSF, HO5, HB5⟩
          case measure => simp [intOf]; omega
        · rw [List.concat_eq_append] at h0
          obtain ⟨mq, hmq⟩ : ∃ mq, mq = Q.length := ⟨_, rfl⟩
          have HMQ := hid hmq
          have hm1 : m = mq + 1 := by have h5 := HM.out; rw [h0] at h5; simp at h5; omega
          subst hm1
          rw [h0] at HST HOA HO
          obtain ⟨q, cap', hve, hqN, hqw⟩ := HO.out.form (by omega)
          cases hve
          have cz : wr.cell? ⟨q, mq * 3 + 2, none⟩ = some (.int .i64 (z.2.2 : Int)) := by rw [hmq, HO.out.cellAt _ (by omega)]; exact rks_at Q z 2 _ rfl
          have em : (((mq + 1 : Nat) : Int)) - 1 = (mq : Int) := by omega
          have em2 : ((mq : Int) + 1) - 1 = (mq : Int) := by omega
          have b0 : (0 : Int) ≤ (mq : Int) := by omega
          have b1 : (mq : Int) < (mq : Int) + 1 := by omega
          have hqs : q < wr.heap.size := hqw
          clear h0 hmq HM
          by_cases hc : z.2.2 = cl
          · have hc' : ((z.2.2 : Int) == (cl : Int)) = true := beq_iff_eq.2 (by omega)
            have HSF := hid (show whF (Q ++ [(z.1, hh, z.2.2)]) (hh + 1) (L.drop (k + 1)) = whl L by rw [← HST.out, jn_snoc, if_pos (show z.2.2 = (lo, hh, cl).2.2 from hc), hc])
            clear hc
            go_wp2
            go_quiet (fail)
            have HBq := hid ((HBA.out).trans (show Below N (wr.alloc (.cells #[.int .i32 (lo : Int), .int .i32 (hh : Int), .int .i64 (cl : Int)] 86)) ((wr.alloc (.cells #[.int .i32 (lo : Int), .int .i32 (hh : Int), .int .i64 (cl : Int)] 86)).drewN nq) from ⟨rfl, rfl, rfl, Nat.le_refl _, fun _ _ => rfl⟩))
            have HOq := hid (show ((wr.alloc (.cells #[.int .i32 (lo : Int), .int .i32 (hh : Int), .int .i64 (cl : Int)] 86)).drewN nq).ownsRow N 86 3 (.slice (some ⟨q, 0, none⟩) (mq + 1) vc) (mq + 1) (rks (Q ++ [z])) from HOA.out)
            have HGq := hid (show ((wr.alloc (.cells #[.int .i32 (lo : Int), .int .i32 (hh : Int), .int .i64 (cl : Int)] 86)).drewN nq).heap[wr.heap.size]? = some (.cells [.int .i32 (lo : Int), .int .i32 (hh : Int), .int .i64 (cl : Int)].toArray 86 (0, 0)) from HGA.out)
            obtain ⟨W, hW⟩ : ∃ W, W = (wr.alloc (.cells #[.int .i32 (lo : Int), .int .i32 (hh : Int), .int .i64 (cl : Int)] 86)).drewN nq := ⟨_, rfl⟩
            rw [← hW] at HBq HOq HGq ⊢
            have hWN : N ≤ W.heap.size := by have h5 := HNE.out; have h6 := HBq.out.size; omega
            clear hW
            have x0 := cell_row W wr.heap.size 0 _ 86 _ HGq.out rfl
            have x1 := cell_row W wr.heap.size 1 _ 86 _ HGq.out rfl
            have x2 := cell_row W wr.heap.size 2 _ 86 _ HGq.out rfl
            clear cz
            have y1 : W.cell? ⟨q, mq * 3 + 1, none⟩ = some (.int .i32 ((z).2.1 : Int)) := by rw [HMQ.out, HOq.out.cellAt _ (by have h5 := HMQ.out; omega)]; exact rks_at (Q) (z) 1 _ rfl
            have f1 : W.frozen? ⟨q, mq * 3 + 1, none⟩ = false := HOq.out.frozenAt _
            have HR5 := hid (show (W.setCell ⟨q, mq * 3 + 1, none⟩ (.int .i32 (hh : Int))).ownsRow N 86 3 (.slice (some ⟨q, 0, none⟩) (mq + 1) vc) (mq + 1) (rks ((Q) ++ [((z).1, hh, (z).2.2)])) by
              have h5 := (HOq.out.stored (mq * 3 + 1) (.int .i32 (hh : Int))).1
              rw [← rks_set, ← HMQ.out]
              exact h5)
            have HB5 := hid (HBq.out.setCell (p := ⟨q, mq * 3 + 1, none⟩) hqN (.int .i32 (hh : Int)))
            go_wp2
            go_roundw
            case rel => exact ⟨k + 1, mq + 1, hh + 1, (Q) ++ [((z).1, hh, (z).2.2)], some ⟨q, 0, none⟩, vc, by go_num, rfl, by go_num, by omega, by omega, by omega, (by have h5 := HMQ.out; show mq + 1 = _; simp; omega), HSF, HR5, HB5⟩
            case measure => simp [intOf]; omega
          · have hc' : ((z.2.2 : Int) == (cl : Int)) = false := beq_eq_false_iff_ne.2 (by omega)
            have HSF := hid (show whF ((Q ++ [z]) ++ [(lo, hh, cl)]) (hh + 1) (L.drop (k + 1)) = whl L by rw [← HST.out, jn_snoc, if_neg (show ¬ z.2.2 = (lo, hh, cl).2.2 from hc)])
            go_wp2
            go_quiet (fail)
            have HBq := hid ((HBA.out).trans (show Below N (wr.alloc (.cells #[.int .i32 (lo : Int), .int .i32 (hh : Int), .int .i64 (cl : Int)] 86)) ((wr.alloc (.cells #[.int .i32 (lo : Int), .int .i32 (hh : Int), .int .i64 (cl : Int)] 86)).drewN nq) from ⟨rfl, rfl, rfl, Nat.le_refl _, fun _ _ => rfl⟩))
            have HOq := hid (show ((wr.alloc (.cells #[.int .i32 (lo : Int), .int .i32 (hh : Int), .int .i64 (cl : Int)] 86)).drewN nq).ownsRow N 86 3 (.slice (some ⟨q, 0, none⟩) (mq + 1) vc) (mq + 1) (rks (Q ++ [z])) from HOA.out)
            have HGq := hid (show ((wr.alloc (.cells #[.int .i32 (lo : Int), .int .i32 (hh : Int), .int .i64 (cl : Int)] 86)).drewN nq).heap[wr.heap.size]? = some (.cells [.int .i32 (lo : Int), .int .i32 (hh : Int), .int .i64 (cl : Int)].toArray 86 (0, 0)) from HGA.out)
            obtain ⟨W, hW⟩ : ∃ W, W = (wr.alloc (.cells #[.int .i32 (lo : Int), .int .i32 (hh : Int), .int .i64 (cl : Int)] 86)).drewN nq := ⟨_, rfl⟩
            rw [← hW] at HBq HOq HGq ⊢
            have hWN : N ≤ W.heap.size := by have h5 := HNE.out; have h6 := HBq.out.size; omega
            clear hW
            have x0 := cell_row W wr.heap.size 0 _ 86 _ HGq.out rfl
            have x1 := cell_row W wr.heap.size 1 _ 86 _ HGq.out rfl
            have x2 := cell_row W wr.heap.size 2 _ 86 _ HGq.out rfl
            go_wp2_with (at_builtin; refine wpList_append_lies _ rfl _ _ 64 rfl N 86 i0 (.agg #[.int .i32 0, .int .i32 0, .int .i64 0]) 3 16 Tryz.underlying64 hi86 hz0 hz1 hz2 rfl (by decide) _ (mq + 1) (rks (Q ++ [z])) rfl (HOq.out.alloc _) ⟨W.heap.size, 0, none⟩ 1 1 (rkc ((lo : Int), (hh : Int), (cl : Int))) rfl rfl (news_k W ((lo : Int), (hh : Int), (cl : Int)) 86) (rkc_one _) (by decide) (by unfold maxLen; omega) (by omega) (by simp; omega) (W.heap.size + 1) (by simp) ?_; intro q5 c5 w5 o5 gr5 hl5 hlt5)
            have HB5 := hid ((HBq.out.alloc hWN (.cells #[.int .i32 (lo : Int), .int .i32 (hh : Int), .int .i64 (cl : Int)] 86)).grown gr5 (by simp; omega) (fun k hk => (HOq.out.lt k hk).1))
            have HO5 := hid (show w5.ownsRow N 86 3 (.slice (some ⟨q5, 0, none⟩) ((mq + 1) + 1) c5) ((mq + 1) + 1) (rks ((Q ++ [z]) ++ [(lo, hh, cl)])) by rw [rks_snoc]; exact o5)
            clear o5 gr5 hl5 hlt5
            go_roundw
            case rel => exact ⟨k + 1, (mq + 1) + 1, hh + 1, (Q ++ [z]) ++ [(lo, hh, cl)], some ⟨q5, 0, none⟩, c5, by go_num, rfl, by go_num, by omega, by omega, by omega, (by have h5 := HMQ.out; show mq + 1 + 1 = _; simp; omega), HSF, HO5, HB5⟩
            case measure => simp [intOf]; omega
    · have i3 : ¬ (k : Int) < (n : Int) := by omega
      have hdk : L.drop k = [] := List.drop_of_length_le (by have h5 := HN.out; omega)
      rw [hdk] at HWH
      by_cases hfin : nx ≤ 1114111
      · have hf' : (nx : Int) ≤ 1114111 := by omega
        have HV := hid (show whl L = o ++ [(nx, 1114111, 0)] by rw [← HWH.out]; show (if nx ≤ 1114111 then _ else _) = _; rw [if_pos hfin])
        go_wp2_with (at_builtin; refine wpList_append_lies _ rfl _ _ 64 rfl N 86 i0 (.agg #[.int .i32 0, .int .i32 0, .int .i64 0]) 3 16 Tryz.underlying64 hi86 hz0 hz1 hz2 rfl (by decide) _ m (rks o) rfl (HO.out.alloc _) ⟨wr.heap.size, 0, none⟩ 1 1 (rkc ((nx : Int), (1114111 : Int), (0 : Int))) rfl rfl (news_k wr ((nx : Int), (1114111 : Int), (0 : Int)) 86) (rkc_one _) (by decide) (by unfold maxLen; omega) (by omega) (by simp; omega) (wr.heap.size + 1) (by simp) ?_; intro q5 c5 w5 o5 gr5 hl5 hlt5)
        have HB5 := hid ((HB.out.alloc hwN (.cells #[.int .i32 (nx : Int), .int .i32 1114111, .int .i64 0] 86)).grown gr5 (by simp; omega) (fun k hk => (HO.out.lt k hk).1))
        have HO5 := hid (show w5.ownsRow N 86 3 (.slice (some ⟨q5, 0, none⟩) (m + 1) c5) (whl L).length (rks (whl L)) by rw [HV.out, rks_snoc, show (o ++ [(nx, 1114111, 0)] : List Tr).length = m + 1 by have h5 := HM.out; simp; omega]; exact o5)
        clear o5 gr5 hl5 hlt5
        go_ret
        exact ⟨_, rfl, HO5.out, HB5.out⟩
      · have hf' : ¬ (nx : Int) ≤ 1114111 := by omega
        have HV := hid (show whl L = o by rw [← HWH.out]; show (if nx ≤ 1114111 then _ else _) = _; rw [if_neg hfin])
        go_wp2
        go_ret
        exact ⟨_, rfl, by rw [HV.out, ← HM.out]; exact HO.out, HB.out⟩
end Go.Proofs.YtohhokjlgihbgaaGreatDoor
/- What whole makes of rising ranges: ranges that rise, the last one ending with the greatest rune. -/
namespace Go.Proofs.YtohhokjlgihbgaaGreatDoor

/-- Ranges that rise from b on. -/
def Rs : Nat → List Tr → Prop
  | _, [] => True
  | b, g :: R => b ≤ g.1 ∧ g.1 ≤ g.2.1 ∧ g.2.1 ≤ 1114111 ∧ Rs (g.2.1 + 1) R
/-- What is made covers all numbers below nx. -/
def StW (o : List Tr) (nx : Nat) : Prop := (o.Pairwise fun x y => x.2.1 < y.2.1) ∧ (∀ g ∈ o, g.2.1 < nx) ∧ (0 < nx → ∃ g ∈ o, g.2.1 + 1 = nx)
theorem st_snoc (o : List Tr) (nx : Nat) (g : Tr) (h : StW o nx) (h1 : nx ≤ g.2.1) : StW (o ++ [g]) (g.2.1 + 1) := by
  obtain ⟨p1, p2, _⟩ := h
  refine ⟨?_, ?_, fun _ => ⟨g, by simp, rfl⟩⟩
  · rw [List.pairwise_append]
    refine ⟨p1, by simp, fun a ha b hb => ?_⟩
    simp at hb
    subst hb
    have h5 := p2 a ha
    omega
  · intro x hx
    rcases List.mem_append.1 hx with hx | hx
    · have h5 := p2 x hx; omega
    · simp at hx; subst hx; omega
theorem st_gp (o : List Tr) (nx : Nat) (g : Tr) (h : StW o nx) (h1 : nx ≤ g.1) : StW (gp o nx g) g.1 := by
  unfold gp
  split
  · rename_i hlt
    have h5 := st_snoc o nx (nx, g.1 - 1, 0) h (by show nx ≤ g.1 - 1; omega)
    have e : ((nx, g.1 - 1, 0) : Tr).2.1 + 1 = g.1 := by show g.1 - 1 + 1 = g.1; omega
    rw [e] at h5
    exact h5
  · have e : g.1 = nx := by omega
    rw [e]; exact h
theorem st_jn (o : List Tr) (nx : Nat) (g : Tr) (h : StW o nx) (h1 : nx ≤ g.2.1) : StW (jn o g) (g.2.1 + 1) := by
  rcases List.eq_nil_or_concat o with rfl | ⟨Q, z, rfl⟩
  · rw [jn_nil]
    exact st_snoc [] nx g h h1
  · rw [List.concat_eq_append] at h ⊢
    rw [jn_snoc]
    split
    · obtain ⟨p1, p2, _⟩ := h
      rw [List.pairwise_append] at p1
      have hz := p2 z (by simp)
      refine ⟨?_, ?_, fun _ => ⟨(z.1, g.2.1, g.2.2), by simp, rfl⟩⟩
      · rw [List.pairwise_append]
        refine ⟨p1.1, by simp, fun a ha b hb => ?_⟩
        simp at hb
        subst hb
        have h5 := p1.2.2 a ha z (by simp)
        show a.2.1 < g.2.1
        omega
      · intro x hx
        rcases List.mem_append.1 hx with hx | hx
        · have h5 := p1.2.2 x hx z (by simp); omega
        · simp at hx; subst hx; show g.2.1 < g.2.1 + 1; omega
    · exact st_snoc (Q ++ [z]) nx g h h1
theorem st_whF : ∀ (L o : List Tr) (nx : Nat), StW o nx → Rs nx L → nx ≤ 1114112 → StW (whF o nx L) 1114112
  | [], o, nx, h, _, hn => by
    unfold whF
    split
    · exact st_snoc o nx (nx, 1114111, 0) h (by assumption)
    · have e : nx = 1114112 := by omega
      rw [← e]; exact h
  | g :: R, o, nx, h, hR, hn => by
    obtain ⟨r1, r2, r3, r4⟩ := hR
    show StW (whF (jn (gp o nx g) g) (g.2.1 + 1) R) 1114112
    exact st_whF R _ _ (st_jn _ g.1 g (st_gp o nx g h r1) r2) r4 (by omega)
theorem whl_st (L : List Tr) (h : Rs 0 L) : ((whl L).Pairwise fun x y => x.2.1 < y.2.1) ∧ ∃ g ∈ whl L, g.2.1 = 1114111 := by
  have h5 := st_whF L [] 0 ⟨List.Pairwise.nil, fun g hg => (by cases hg), fun h => (by omega)⟩ h (by omega)
  obtain ⟨p1, p2, p3⟩ := h5
  obtain ⟨g, hg, e⟩ := p3 (by omega)
  exact ⟨p1, g, hg, by omega⟩
end Go.Proofs.YtohhokjlgihbgaaGreatDoor
/- The contracts of Ranged and of Set (package props). -/
namespace Go.Proofs.YtohhokjlgihbgaaGreatDoor
open Go.RowKit

/-- Ranges that have a class above 0. -/
def rgd (A : List Tr) : List Tr := A.filter fun g => decide (0 < g.2.2)
theorem rgd_snoc (A : List Tr) (g : Tr) : rgd (A ++ [g]) = rgd A ++ if 0 < g.2.2 then [g] else [] := by
  unfold rgd
  rw [List.filter_append]
  by_cases h : 0 < g.2.2
  · simp [h]
  · simp [h]
theorem rgd_len (A : List Tr) : (rgd A).length ≤ A.length := List.length_filter_le _ _
set_option maxHeartbeats 2000000 in
set_option maxRecDepth 100000 in
theorem ranged_any (B P K : Nat) (U : List (List UInt8)) (nv : Value) (po : Option Addr) (pc : Nat) (A : List Tr) (w : World) (h : DbAt B P K U nv (.slice po A.length pc) w) (ha : RdK w po (A.map rkT)) (hl : A.length ≤ 10000000) :
    Calls Tryz.prog 33 #[.pointer (some ⟨P, 0, none⟩)] w fun e w' => ∃ v', e = .returned v' ∧ w'.ownsRow w.heap.size 86 3 v' (rgd A).length (rks (rgd A)) ∧ Below w.heap.size w w' := by
  obtain ⟨i0, hi86, hz0, hz1, hz2⟩ := info_parts Tryz.info86
  have c2 := h.c2
  have HA := hid ha
  obtain ⟨n, hn⟩ : ∃ n, n = A.length := ⟨_, rfl⟩
  rw [← hn] at c2 hl
  have HN := hid hn
  obtain ⟨N, hNE⟩ : ∃ N, N = w.heap.size := ⟨_, rfl⟩
  have HNE := hid hNE
  have HAB := hid (show ∀ W, Below N w W → RdK W po (A.map rkT) from fun W hW => ha.below (by rw [← hNE]; exact hW))
  have HB0 := hid (show Below N w w by rw [hNE]; exact Below.refl _ _)
  rw [← hNE]
  clear h ha hn hNE
  go_enter Tryz.func33, Tryz.ntmps33
  go_wp2
  go_loopw [13, 3] (fun x y wr => ∃ (k m : Nat) (vo : Option Addr) (vc : Nat), x = .int .i64 (k : Int) ∧ y = .slice vo m vc ∧ k ≤ n ∧ Hid (m = (rgd (A.take k)).length) ∧ Hid (wr.ownsRow N 86 3 (.slice vo m vc) m (rks (rgd (A.take k)))) ∧ Hid (Below N w wr)) (fun x _ _ => n - (intOf x).toNat)
  case atStart => exact ⟨0, 0, none, 0, rfl, rfl, by omega, rfl, World.ownsRow_nil w N 86 3, HB0⟩
  case round =>
    obtain ⟨k, m, vo, vc, rfl, rfl, hk, HM, HO, HB⟩ := hrel
    have hwN : N ≤ wr.heap.size := by have h5 := HNE.out; have h6 := HB.out.size; omega
    by_cases hlt : k < n
    · have hkA : k < A.length := by have h5 := HN.out; omega
      obtain ⟨a, rfl, ha, a0, a1, a2⟩ := HAB.out wr HB.out k (rkT A[k]) (by rw [List.getElem?_map, List.getElem?_eq_getElem hkA]; rfl)
      have HTK := hid (show rgd (A.take (k + 1)) = rgd (A.take k) ++ if 0 < A[k].2.2 then [A[k]] else [] by rw [List.take_succ_eq_append_getElem hkA, rgd_snoc])
      have hml : m ≤ 10000000 := by have h5 := rgd_len (A.take k); rw [List.length_take] at h5; have h6 := HM.out; omega
      unfold rkT at a0 a1 a2
      obtain ⟨g, hg⟩ : ∃ g, g = A[k] := ⟨_, rfl⟩
      rw [← hg] at a0 a1 a2 HTK
      obtain ⟨lo, hh, cl⟩ := g
      dsimp only at a0 a1 a2 HTK
      have i3 : (k : Int) < (n : Int) := by omega
      have i0' : (0 : Int) ≤ (k : Int) := by omega
      have HBA := hid (HB.out.alloc hwN (.cells #[.int .i32 (lo : Int), .int .i32 (hh : Int), .int .i64 (cl : Int)] 86))
      have HOA := hid (HO.out.alloc (.cells #[.int .i32 (lo : Int), .int .i32 (hh : Int), .int .i64 (cl : Int)] 86))
      clear hg hkA
      by_cases hc : 0 < cl
      · have hc' : (0 : Int) < (cl : Int) := by omega
        rw [if_pos hc] at HTK
        have HNW := hid (show ∀ j u, (rkc ((lo : Int), (hh : Int), (cl : Int)))[j]? = some u → ((wr.alloc (.cells #[.int .i32 (lo : Int), .int .i32 (hh : Int), .int .i64 (cl : Int)] 86)).alloc (.cells #[.int .i32 (lo : Int), .int .i32 (hh : Int), .int .i64 (cl : Int)] 86)).cell? ((⟨wr.heap.size + 1, 0, none⟩ : Addr).add j) = some u by
          have h5 := news_k (wr.alloc (.cells #[.int .i32 (lo : Int), .int .i32 (hh : Int), .int .i64 (cl : Int)] 86)) ((lo : Int), (hh : Int), (cl : Int)) 86
          rw [World.size_alloc] at h5
          exact h5)
        go_wp2_with (at_builtin; refine wpList_append_lies _ rfl _ _ 64 rfl N 86 i0 (.agg #[.int .i32 0, .int .i32 0, .int .i64 0]) 3 16 Tryz.underlying64 hi86 hz0 hz1 hz2 rfl (by decide) _ m (rks (rgd (A.take k))) rfl (HOA.out.alloc _) ⟨wr.heap.size + 1, 0, none⟩ 1 1 (rkc ((lo : Int), (hh : Int), (cl : Int))) rfl rfl HNW.out (rkc_one _) (by decide) (by unfold maxLen; omega) (by omega) (by simp; omega) (wr.heap.size + 1 + 1) (by simp) ?_; intro q2 c2' w2 o2 gr2 hl2 hlt2)
        have HB2 := hid ((HBA.out.alloc (by simp; omega) (.cells #[.int .i32 (lo : Int), .int .i32 (hh : Int), .int .i64 (cl : Int)] 86)).grown gr2 (by simp; omega) (fun k hk => (HO.out.lt k hk).1))
        have HO2 := hid (show w2.ownsRow N 86 3 (.slice (some ⟨q2, 0, none⟩) (m + 1) c2') (m + 1) (rks (rgd (A.take (k + 1)))) by rw [HTK.out, rks_snoc]; exact o2)
        have HM2 := hid (show m + 1 = (rgd (A.take (k + 1))).length by rw [HTK.out, List.length_append, ← HM.out]; rfl)
        clear o2 gr2 hl2 hlt2
        go_roundw
        case rel => exact ⟨k + 1, m + 1, some ⟨q2, 0, none⟩, c2', by go_num, rfl, by omega, HM2, HO2, HB2⟩
        case measure => simp [intOf]; omega
      · have hc' : ¬ (0 : Int) < (cl : Int) := by omega
        rw [if_neg hc, List.append_nil] at HTK
        rw [← HTK.out] at HM HOA
        go_wp2
        go_roundw
        case rel => exact ⟨k + 1, m, vo, vc, by go_num, rfl, by omega, HM, HOA, HBA⟩
        case measure => simp [intOf]; omega
    · have i3 : ¬ (k : Int) < (n : Int) := by omega
      have hkn : A.take k = A := List.take_of_length_le (by have h5 := HN.out; omega)
      rw [hkn] at HM HO
      go_wp2
      go_ret
      exact ⟨_, rfl, by rw [← HM.out]; exact HO.out, HB.out⟩
/-- The ranges of one class. -/
def stc (c : Int) (A : List Tr) : List Rg := (A.filter fun g => decide ((g.2.2 : Int) = c)).map fun g => ((g.1 : Int), (g.2.1 : Int))
theorem stc_snoc (c : Int) (A : List Tr) (g : Tr) : stc c (A ++ [g]) = stc c A ++ if (g.2.2 : Int) = c then [((g.1 : Int), (g.2.1 : Int))] else [] := by
  unfold stc
  rw [List.filter_append, List.map_append]
  by_cases h : (g.2.2 : Int) = c
  · simp [h]
  · simp [h]
theorem stc_len (c : Int) (A : List Tr) : (stc c A).length ≤ A.length := by
  unfold stc
  rw [List.length_map]
  exact List.length_filter_le _ _
set_option maxHeartbeats 2000000 in
set_option maxRecDepth 100000 in
theorem set_any (B P K : Nat) (U : List (List UInt8)) (nv : Value) (po : Option Addr) (pc : Nat) (A : List Tr) (c : Int) (w : World) (h : DbAt B P K U nv (.slice po A.length pc) w) (ha : RdK w po (A.map rkT)) (hl : A.length ≤ 10000000) :
    Calls Tryz.prog 20 #[.pointer (some ⟨P, 0, none⟩), .int .i64 c] w fun e w' => ∃ v', e = .returned v' ∧ w'.ownsRow w.heap.size 84 2 v' (stc c A).length (rgcs (stc c A)) ∧ Below w.heap.size w w' := by
  obtain ⟨i0, hi84, hz0, hz1, hz2⟩ := info_parts Tryz.info84
  have c2 := h.c2
  have HA := hid ha
  obtain ⟨n, hn⟩ : ∃ n, n = A.length := ⟨_, rfl⟩
  rw [← hn] at c2 hl
  have HN := hid hn
  obtain ⟨N, hNE⟩ : ∃ N, N = w.heap.size := ⟨_, rfl⟩
  have HNE := hid hNE
  have HAB := hid (show ∀ W, Below N w W → RdK W po (A.map rkT) from fun W hW => ha.below (by rw [← hNE]; exact hW))
  have HB0 := hid (show Below N w w by rw [hNE]; exact Below.refl _ _)
  rw [← hNE]
  clear h ha hn hNE
  go_enter Tryz.func20, Tryz.ntmps20
  go_wp2
  go_loopw [15, 5] (fun x y wr => ∃ (k m : Nat) (vo : Option Addr) (vc : Nat), x = .int .i64 (k : Int) ∧ y = .slice vo m vc ∧ k ≤ n ∧ Hid (m = (stc c (A.take k)).length) ∧ Hid (wr.ownsRow N 84 2 (.slice vo m vc) m (rgcs (stc c (A.take k)))) ∧ Hid (Below N w wr)) (fun x _ _ => n - (intOf x).toNat)
  case atStart => exact ⟨0, 0, none, 0, rfl, rfl, by omega, rfl, World.ownsRow_nil w N 84 2, HB0⟩
  case round =>
    obtain ⟨k, m, vo, vc, rfl, rfl, hk, HM, HO, HB⟩ := hrel
    have hwN : N ≤ wr.heap.size := by have h5 := HNE.out; have h6 := HB.out.size; omega
    by_cases hlt : k < n
    · have hkA : k < A.length := by have h5 := HN.out; omega
      obtain ⟨a, rfl, ha, a0, a1, a2⟩ := HAB.out wr HB.out k (rkT A[k]) (by rw [List.getElem?_map, List.getElem?_eq_getElem hkA]; rfl)
      have HTK := hid (show stc c (A.take (k + 1)) = stc c (A.take k) ++ if (A[k].2.2 : Int) = c then [((A[k].1 : Int), (A[k].2.1 : Int))] else [] by rw [List.take_succ_eq_append_getElem hkA, stc_snoc])
      have hml : m ≤ 10000000 := by have h5 := stc_len c (A.take k); rw [List.length_take] at h5; have h6 := HM.out; omega
      unfold rkT at a0 a1 a2
      obtain ⟨g, hg⟩ : ∃ g, g = A[k] := ⟨_, rfl⟩
      rw [← hg] at a0 a1 a2 HTK
      obtain ⟨lo, hh, cl⟩ := g
      dsimp only at a0 a1 a2 HTK
      have i3 : (k : Int) < (n : Int) := by omega
      have i0' : (0 : Int) ≤ (k : Int) := by omega
      have HBA := hid (HB.out.alloc hwN (.cells #[.int .i32 (lo : Int), .int .i32 (hh : Int), .int .i64 (cl : Int)] 86))
      have HOA := hid (HO.out.alloc (.cells #[.int .i32 (lo : Int), .int .i32 (hh : Int), .int .i64 (cl : Int)] 86))
      clear hg hkA
      by_cases hc : (cl : Int) = c
      · have hc' : ((cl : Int) == c) = true := beq_iff_eq.2 hc
        rw [if_pos hc] at HTK
        clear hc
        have HNW := hid (show ∀ j u, (rgc ((lo : Int), (hh : Int)))[j]? = some u → ((wr.alloc (.cells #[.int .i32 (lo : Int), .int .i32 (hh : Int), .int .i64 (cl : Int)] 86)).alloc (.cells #[.int .i32 (lo : Int), .int .i32 (hh : Int)] 84)).cell? ((⟨wr.heap.size + 1, 0, none⟩ : Addr).add j) = some u by
          have h5 := news_r (wr.alloc (.cells #[.int .i32 (lo : Int), .int .i32 (hh : Int), .int .i64 (cl : Int)] 86)) ((lo : Int), (hh : Int)) 84
          rw [World.size_alloc] at h5
          exact h5)
        go_wp2_with (at_builtin; refine wpList_append_lies _ rfl _ _ 47 rfl N 84 i0 (.agg #[.int .i32 0, .int .i32 0]) 2 8 Tryz.underlying47 hi84 hz0 hz1 hz2 rfl (by decide) _ m (rgcs (stc c (A.take k))) rfl (HOA.out.alloc _) ⟨wr.heap.size + 1, 0, none⟩ 1 1 (rgc ((lo : Int), (hh : Int))) rfl rfl HNW.out (rgc_one _) (by decide) (by unfold maxLen; omega) (by omega) (by simp; omega) (wr.heap.size + 1 + 1) (by simp) ?_; intro q2 c2' w2 o2 gr2 hl2 hlt2)
        have HB2 := hid ((HBA.out.alloc (by simp; omega) (.cells #[.int .i32 (lo : Int), .int .i32 (hh : Int)] 84)).grown gr2 (by simp; omega) (fun k hk => (HO.out.lt k hk).1))
        have HO2 := hid (show w2.ownsRow N 84 2 (.slice (some ⟨q2, 0, none⟩) (m + 1) c2') (m + 1) (rgcs (stc c (A.take (k + 1)))) by rw [HTK.out, rgcs_snoc]; exact o2)
        have HM2 := hid (show m + 1 = (stc c (A.take (k + 1))).length by rw [HTK.out, List.length_append, ← HM.out]; rfl)
        clear o2 gr2 hl2 hlt2
        go_roundw
        case rel => exact ⟨k + 1, m + 1, some ⟨q2, 0, none⟩, c2', by go_num, rfl, by omega, HM2, HO2, HB2⟩
        case measure => simp [intOf]; omega
      · have hc' : ((cl : Int) == c) = false := beq_eq_false_iff_ne.2 hc
        rw [if_neg hc, List.append_nil] at HTK
        rw [← HTK.out] at HM HOA
        go_wp2
        go_roundw
        case rel => exact ⟨k + 1, m, vo, vc, by go_num, rfl, by omega, HM, HOA, HBA⟩
        case measure => simp [intOf]; omega
    · have i3 : ¬ (k : Int) < (n : Int) := by omega
      have hkn : A.take k = A := List.take_of_length_le (by have h5 := HN.out; omega)
      rw [hkn] at HM HO
      go_wp2
      go_ret
      exact ⟨_, rfl, by rw [← HM.out]; exact HO.out, HB.out⟩
end Go.Proofs.YtohhokjlgihbgaaGreatDoor
/- The contracts of slices.Clone of texts and of Names (package props). -/
namespace Go.Proofs.YtohhokjlgihbgaaGreatDoor
open Go.RowKit

theorem row_e9 (w : World) : (w.alloc (.cells #[] 9)).ownsRow w.heap.size 9 1 (.slice (some ⟨w.heap.size, 0, none⟩) 0 0) 0 [] :=
  ⟨by simp, .inr ⟨w.heap.size, 0, #[], rfl, Nat.le_refl _, heap_alloc_new w _, Nat.le_refl _, by simp [maxLen], by simp, by simp⟩⟩
theorem nms_one (U : List (List UInt8)) : ∀ u ∈ nms U, u.oneCell' = true := by
  intro u hu
  obtain ⟨c, _, rfl⟩ := List.mem_map.1 hu
  rfl
set_option maxHeartbeats 1000000 in
set_option maxRecDepth 100000 in
theorem clone_any (B g cap n : Nat) (U : List (List UInt8)) (w : World) (h : w.ownsRow B 9 1 (.slice (some ⟨g, 0, none⟩) n cap) n (nms U)) (hn : n ≤ 1000000) :
    Calls Tryz.prog 48 #[.slice (some ⟨g, 0, none⟩) n cap] w fun e w' => ∃ v', e = .returned v' ∧ w'.ownsRow w.heap.size 9 1 v' n (nms U) ∧ Below w.heap.size w w' := by
  obtain ⟨i0, hi9, hz0, hz1, hz2⟩ := info_parts Tryz.info9
  have q45 : ∀ (w : World) (a : Option Addr) (n c n' c' : Nat), (binOp .eql 45 (.slice a n c) (.slice none n' c')).run Tryz.prog w = .ok (.bool a.isNone) w := fun w a n c n' c' => Lib.run_eql_slice_nil w _ _ a n c n' c' Tryz.underlying45
  have HO := hid (row_e9 w)
  have HR := hid (h.alloc (.cells #[] 9))
  have HB0 := hid ((Below.refl w.heap.size w).alloc (Nat.le_refl _) (.cells #[] 9))
  have hul : (nms U).length = n * 1 := h.1
  have HNW := hid (show ∀ j u, (nms U)[j]? = some u → (w.alloc (.cells #[] 9)).cell? ((⟨g, 0, none⟩ : Addr).add j) = some u from fun j u hj => by
    have hjl := (List.getElem?_eq_some_iff.1 hj).1
    rw [Addr.add_lit, Nat.zero_add, HR.out.cellAt _ (by omega)]
    exact hj)
  clear h
  go_enter Tryz.func48, Tryz.ntmps48
  go_wp2_with (at_builtin; refine wpList_append_own _ rfl _ _ 45 rfl w.heap.size 9 i0 (.string ⟨#[]⟩) 1 16 Tryz.underlying45 hi9 hz0 hz1 hz2 rfl (by decide) _ 0 [] rfl HO.out ⟨g, 0, none⟩ n cap (nms U) rfl hul HNW.out (nms_one U) (by unfold maxLen; omega) (by omega) (by simp) ?_; intro v2 w2 o2 gr2 _)
  have ho2 : w2.ownsRow w.heap.size 9 1 v2 n (nms U) := by simpa using o2
  have HB2 := hid (HB0.out.grown gr2 (by simp) (fun k hk => (HO.out.lt k hk).1))
  have HO2 := hid ho2
  clear o2 gr2 ho2
  go_ret
  exact ⟨_, rfl, HO2.out, HB2.out⟩
set_option maxRecDepth 100000 in
theorem names_any (B P K : Nat) (U : List (List UInt8)) (nv pv : Value) (w : World) (h : DbAt B P K U nv pv w) (hU : 0 < U.length) (hl : U.length ≤ 1000000) :
    Calls Tryz.prog 19 #[.pointer (some ⟨P, 0, none⟩)] w fun e w' => ∃ v', e = .returned v' ∧ w'.ownsRow w.heap.size 9 1 v' U.length (nms U) ∧ Below w.heap.size w w' := by
  have c0 := h.c0
  obtain ⟨g, cap, rfl⟩ : ∃ g cap, nv = .slice (some ⟨g, 0, none⟩) U.length cap := by
    rcases h.hR.2 with ⟨_, h6⟩ | ⟨q, qc, _, h5, _⟩
    · omega
    · exact ⟨_, _, h5⟩
  have HC := hid (clone_any B g cap U.length U w h.hR hl)
  obtain ⟨n, hn⟩ : ∃ n, n = U.length := ⟨_, rfl⟩
  rw [← hn] at c0 HC ⊢
  clear h hn hU hl
  go_enter Tryz.func19, Tryz.ntmps19
  go_wp2_with fail
  refine HC.out.mono ?_
  rintro e w1 ⟨v1, rfl, o1, b1⟩
  have HO := hid o1
  have HB := hid b1
  clear o1 b1 HC
  go_wp2
  go_ret
  exact ⟨_, rfl, HO.out, HB.out⟩
end Go.Proofs.YtohhokjlgihbgaaGreatDoor
/- The contract of texts (package kerflaw04) at two lists that are the same. -/
namespace Go.Proofs.YtohhokjlgihbgaaGreatDoor
open Go.RowKit

/-- A list of strings, as a slice that begins at a place. -/
def RdN (w : World) (ao : Option Addr) (U : List (List UInt8)) : Prop := ∀ k b, U[k]? = some b → ∃ a, ao = some a ∧ a.block < w.heap.size ∧ w.cell? (a.add k) = some (.string ⟨b.toArray⟩)
theorem RdN.below {w w' : World} {ao : Option Addr} {U : List (List UInt8)} (h : RdN w ao U) (hb : Below w.heap.size w w') : RdN w' ao U := fun k b hk => by
  obtain ⟨a, h1, h2, h3⟩ := h k b hk
  exact ⟨a, h1, Nat.lt_of_lt_of_le h2 hb.size, (hb.cell (p := a.add k) (by rw [add_blk]; exact h2)).trans h3⟩
theorem rdn_own {B n : Nat} {w : World} {U : List (List UInt8)} {v : Value} (h : w.ownsRow B 9 1 v n (nms U)) (hn : n = U.length) : ∃ ao ac, v = .slice ao n ac ∧ RdN w ao U := by
  by_cases h0 : U.length = 0
  · obtain ⟨ao, ac, rfl⟩ := own_form h
    exact ⟨ao, ac, rfl, fun k b hk => by have h5 := (List.getElem?_eq_some_iff.1 hk).1; omega⟩
  · obtain ⟨q, cap, rfl, _, hq⟩ := h.form (by omega)
    refine ⟨_, _, rfl, fun k b hk => ?_⟩
    have hk' := (List.getElem?_eq_some_iff.1 hk).1
    refine ⟨_, rfl, hq, ?_⟩
    have h5 := h.cellAt k (by omega)
    have e : (⟨q, 0, none⟩ : Addr).add k = ⟨q, k, none⟩ := by simp [Addr.add]; exact fun h => h.symm
    rw [e, h5]
    unfold nms
    rw [List.getElem?_map, hk]
    rfl

set_option maxRecDepth 100000 in
theorem texts_same (ao bo : Option Addr) (ac bc n : Nat) (U : List (List UInt8)) (w : World) (ha : RdN w ao U) (hb : RdN w bo U) (hn : n = U.length) (hl : n ≤ 1000000) :
    Calls Tryz.prog 26 #[.slice ao n ac, .slice bo n bc] w fun e w' => e = .returned (.bool true) ∧ Below w.heap.size w w' := by
  have HA := hid ha
  have HB := hid hb
  have HN := hid hn
  clear ha hb hn
  go_enter Tryz.func26, Tryz.ntmps26
  go_wp2
  go_loopw [5] (fun i wr => ∃ k : Nat, k ≤ n ∧ i = .int .i64 k ∧ Below w.heap.size w wr) (fun i _ => n - (intOf i).toNat)
  case atStart => exact ⟨0, by omega, rfl, Below.refl _ _⟩
  case round =>
    obtain ⟨k, hk, rfl, hBr⟩ := hrel
    by_cases hlt : k < n
    · have hltU : k < U.length := by have := HN.out; omega
      obtain ⟨a, rfl, ha, a0⟩ := HA.out.below hBr k U[k] (List.getElem?_eq_getElem hltU)
      obtain ⟨b, rfl, hb, b0⟩ := HB.out.below hBr k U[k] (List.getElem?_eq_getElem hltU)
      generalize (⟨U[k].toArray⟩ : ByteArray) = s at a0 b0
      clear hltU
      go_wp2_with fail
      go_region
      go_wp2
      go_roundw
      case rel => exact ⟨k + 1, by omega, by go_num, hBr.drew⟩
      case measure => simp [intOf]; omega
    · go_wp2
      go_ret
      exact ⟨rfl, hBr⟩
end Go.Proofs.YtohhokjlgihbgaaGreatDoor
/- The contract of the document's Class. -/
namespace Go.Proofs.YtohhokjlgihbgaaGreatDoor
open Go.RowKit

/-- What Class tells of a name. -/
def clx (U : List (List UInt8)) (b : List UInt8) : Int := if b ∈ U then (U.idxOf b : Int) else 0
def cly (U : List (List UInt8)) (b : List UInt8) : Bool := decide (b ∈ U)
theorem idx_here (U : List (List UInt8)) (b : List UInt8) (k : Nat) (hk : k < U.length) (h : U[k] = b) (hn : b ∉ U.take k) : U.idxOf b = k := by
  have e : U = U.take k ++ U.drop k := (List.take_append_drop k U).symm
  rw [e, List.idxOf_append, if_neg hn, List.drop_eq_getElem_cons hk, h, List.idxOf_cons_self, List.length_take]
  omega
set_option maxHeartbeats 1000000 in
set_option maxRecDepth 100000 in
theorem rclass_any (Q : Nat) (no : Option Addr) (nc n : Nat) (U : List (List UInt8)) (b : List UInt8) (w : World) (h0 : w.cell? ⟨Q, 0, none⟩ = some (.slice no n nc)) (hU : RdN w no U) (hn : n = U.length) (hl : n ≤ 1000000) :
    Calls Tryz.prog 63 #[.pointer (some ⟨Q, 0, none⟩), .string ⟨b.toArray⟩] w fun e w' => e = .returned (.tuple #[.int .i64 (clx U b), .bool (cly U b)]) ∧ w' = w := by
  have HU := hid hU
  have HN := hid hn
  clear hU hn
  go_enter Tryz.func63, Tryz.ntmps63
  go_wp2
  go_loopw [6] (fun x wr => ∃ k : Nat, k ≤ n ∧ x = .int .i64 (k : Int) ∧ Hid (b ∉ U.take k) ∧ wr = w) (fun x _ => n - (intOf x).toNat)
  case atStart => exact ⟨0, by omega, rfl, by show b ∉ U.take 0; simp, rfl⟩
  case round =>
    obtain ⟨k, hk, rfl, HE, hw⟩ := hrel
    subst hw
    by_cases hlt : k < n
    · have i3 : (k : Int) < (n : Int) := by omega
      have i0' : (0 : Int) ≤ (k : Int) := by omega
      have hkU : k < U.length := by have h5 := HN.out; omega
      obtain ⟨a, rfl, ha, a0⟩ := HU.out k U[k] (List.getElem?_eq_getElem hkU)
      have HY := hid (fun h => idx_here U b k hkU h HE.out)
      have HM := hid (List.getElem_mem hkU)
      have HT := hid (List.take_succ_eq_append_getElem hkU)
      generalize U[k] = u at a0 HY HM HT
      clear hkU
      by_cases hub : u = b
      · have HI := hid (HY.out hub)
        subst hub
        have HD1 := hid (show clx U u = (k : Int) by unfold clx; rw [if_pos HM.out, HI.out])
        have HD2 := hid (show cly U u = true from decide_eq_true HM.out)
        clear HM
        go_wp2
        go_ret2
        exact ⟨by rw [HD1.out, HD2.out]; rfl, rfl⟩
      · have HZ := hid (show b ∉ U.take (k + 1) by
          rw [HT.out, List.mem_append, not_or]
          exact ⟨HE.out, fun h => hub (List.mem_singleton.1 h).symm⟩)
        have hne : (u == b) = false := beq_eq_false_iff_ne.2 hub
        go_wp2
        go_roundw
        case rel => exact ⟨k + 1, by omega, by go_num, HZ, trivial⟩
        case measure => simp [intOf]; omega
    · have i3 : ¬ (k : Int) < (n : Int) := by omega
      have HZ := hid (show b ∉ U by
        have h5 := HE.out
        rw [List.take_of_length_le (by have h6 := HN.out; omega)] at h5
        exact h5)
      have HD1 := hid (show clx U b = 0 by unfold clx; rw [if_neg HZ.out])
      have HD2 := hid (show cly U b = false from decide_eq_false HZ.out)
      go_wp2
      go_ret2
      exact ⟨by rw [HD1.out, HD2.out]; rfl, rfl⟩
end Go.Proofs.YtohhokjlgihbgaaGreatDoor
