/- The contracts of Classes, the program's and the document's: of each rune of a text its class. -/
import Derived.Test.YtljlhlcoaajggaaUtfB
import Derived.Test.YtljlhlcoaajggaaHeldInAll
import Derived.Test.YtljlhlcoaajggaaRGet
namespace Go.Proofs.Ytljlhlcoaajggaa
open Go.RowKit Go.Shelf
attribute [local go_sem] Oper.semAt_some

/-- Get of any number, by the ranges. -/
theorem getZ (B T r : Nat) (F : List (List Nat)) (L : List Tr) (x : Int) (w : World) (h : TbAt B T F r w) (hF : F.flatten = clA r L) (hr : r < 256) (hR : Ris 0 L) :
    Calls Try.prog 34 #[.pointer (some ⟨T, 0, none⟩), .int .i32 x] w fun e w' => e = .returned (.int .i64 ((gtR r x L : Nat) : Int)) ∧ ∃ n, w' = w.drewN n := by
  by_cases hx : x < 0 ∨ 1114111 < x
  · refine (get_out B T r F x w h hr hx).mono ?_
    rintro e w' ⟨rfl, rfl⟩
    refine ⟨?_, 0, rfl⟩
    rcases hx with hx | hx
    · rw [gtR_low r L 0 x (by simpa using hx) hR]
    · rw [gtR_high r L 0 x hx hR]
  · obtain ⟨R, rfl⟩ : ∃ R : Nat, x = (R : Int) := ⟨x.toNat, by omega⟩
    refine (get_any B T r F R w h (by omega)).mono ?_
    rintro e w' ⟨rfl, n, rfl⟩
    exact ⟨by rw [gtR_clA r L R (by omega) hR, hF], n, rfl⟩

/-- The classes of the runes that have come, as values. -/
def g64 (r : Nat) (L : List Tr) (xs : List (Int × Int)) : List Value := xs.map fun x => Value.int .i64 ((gtR r x.2 L : Nat) : Int)
theorem g64_snoc (r : Nat) (L : List Tr) (xs : List (Int × Int)) (x : Int × Int) : g64 r L (xs ++ [x]) = g64 r L xs ++ [.int .i64 ((gtR r x.2 L : Nat) : Int)] := by simp [g64]
theorem Try.info3' : (Try.prog.info? 3).map (fun i => (i.zero, i.size, i.bytes)) = some (some (.int .i64 0), 1, 8) := by kernel_rfl

set_option maxHeartbeats 2000000 in
set_option maxRecDepth 100000 in
theorem classes_in (B T r : Nat) (F : List (List Nat)) (L : List Tr) (l : List UInt8) (w : World) (h : TbAt B T F r w) (hF : F.flatten = clA r L) (hr : r < 256) (hR : Ris 0 L) (hl : l.length ≤ 1000000000000) :
    CallsIn Fence.wide 3 Try.prog 47 #[.pointer (some ⟨T, 0, none⟩), .string ⟨l.toArray⟩] w fun e W' => ∃ v, e = .returned v ∧ W'.ownsRow w.heap.size 3 1 v (prs l).length (g64 r L (prs l)) ∧ Below w.heap.size w W' := by
  obtain ⟨i0, hi, hz0, hz1, hz2⟩ := info_parts Try.info3'
  have hcnt : Lib.runeCount ⟨l.toArray⟩ ≤ l.length := by
    have h := Lib.runeCount_le ⟨l.toArray⟩
    have hs : (⟨l.toArray⟩ : ByteArray).size = l.length := by show l.toArray.size = _; simp
    rw [hs] at h; exact h
  have HG := hid (fun (x : Int) (W : World) (hW : TbAt B T F r W) => getZ B T r F L x W hW hF hr hR)
  have HTB := hid h
  clear h hF hR
  refine callsIn_of_wp_marks Try.func47 rfl trivial ?_ rfl
  simp only [Try.ntmps47, List.size_toArray, List.length_cons, List.length_nil, Nat.reduceAdd, Nat.reduceSub, Array.replicate_succ, Array.replicate_zero, List.push_toArray, List.append_toArray, List.nil_append, List.cons_append]
  gi_wp2_with (first | (refine ⟨trivial, ?_⟩; gi_at_call 67; refine (callsIn_wide.2 (ucount_any l _ (by omega))).mono ?_; rintro e w1 ⟨rfl, hb1⟩; rw [World.size_alloc] at hb1; have hb1s : w.heap.size + 1 ≤ w1.heap.size := (by have h5 := hb1.size; simpa using h5); have hx1 : w1.cell? ⟨w.heap.size, 0, none⟩ = some (.pointer (some ⟨T, 0, none⟩)) := (hb1.cell (p := ⟨w.heap.size, 0, none⟩) (Nat.lt_succ_self _)).trans (Boxed.new w 28 (.pointer (some ⟨T, 0, none⟩))).cell) | (gi_at_make; refine wpListIn_make_own _ rfl _ _ 41 rfl (w.heap.size + 1) 3 i0 (.int .i64 0) 1 Try.underlying41 hi hz0 hz1 .i64 .i64 _ (Lib.runeCount ⟨l.toArray⟩) rfl rfl rfl (by rw [hz2]; omega) (by unfold maxLen; omega) hb1s ?_; intro w2 hown2 hgrow2) | (refine ⟨trivial, ?_⟩; gi_at_call 68; refine (callsIn_wide.2 (each_any l _)).mono ?_; rintro e w' ⟨rfl, rfl⟩))
  have hB2 : Below (w.heap.size + 1) (w.alloc (.cells #[.pointer (some ⟨T, 0, none⟩)] 28)) w2 := hb1.grown hgrow2 hb1s (fun k e => by cases e)
  have hTA : TbAt B T F r (w.alloc (.cells #[.pointer (some ⟨T, 0, none⟩)] 28)) := HTB.out.below ((Below.refl _ _).alloc (Nat.le_refl _) _)
  have hA0 : Below w.heap.size w (w.alloc (.cells #[.pointer (some ⟨T, 0, none⟩)] 28)) := (Below.refl _ _).alloc (Nat.le_refl _) _
  have hAs : (w.alloc (.cells #[.pointer (some ⟨T, 0, none⟩)] 28)).heap.size = w.heap.size + 1 := World.size_alloc _ _
  have hAc := (Boxed.new w 28 (.pointer (some ⟨T, 0, none⟩))).cell
  obtain ⟨A0, hAE⟩ : ∃ A0, A0 = w.alloc (.cells #[.pointer (some ⟨T, 0, none⟩)] 28) := ⟨_, rfl⟩
  rw [← hAE] at hB2 hTA hA0 hAs hAc
  clear hb1 hAE
  have bL := Boxed.new w2 41 (.slice (some ⟨w1.heap.size, 0, none⟩) 0 (Lib.runeCount ⟨l.toArray⟩))
  have bS := Boxed.new (w2.alloc (.cells #[.slice (some ⟨w1.heap.size, 0, none⟩) 0 (Lib.runeCount ⟨l.toArray⟩)] 41)) 9 (.string ⟨l.toArray⟩)
  rw [World.size_alloc] at bS
  have hs2 : w.heap.size + 1 ≤ w2.heap.size := by have h5 := hB2.size; omega
  have hB0 : Below (w.heap.size + 1) A0 ((w2.alloc (.cells #[.slice (some ⟨w1.heap.size, 0, none⟩) 0 (Lib.runeCount ⟨l.toArray⟩)] 41)).alloc (.cells #[.string ⟨l.toArray⟩] 9)) := (hB2.alloc hs2 _).alloc (by simp; omega) _
  have hpl := prs_len l
  refine wpIn_rangeFunc_ownG rfl (by omega) (gf := 77) (lb := #[.pointer (some ⟨w2.heap.size + 1, 0, none⟩)]) rfl trivial (enters_of Try.func77 (by kernel_rfl) rfl)
    (seqStopsA_iff.1 (each_stops Fence.wide (3 - 1) trivial rfl (by omega) (w2.heap.size + 1) l _ (by simp) bS.cell)) walksK_t walksK_b (Below.refl _ _) (fun _ => rfl)
    (fun pre W => (∃ v, Boxed W w2.heap.size 41 v ∧ W.ownsRow (w.heap.size + 1) 3 1 v pre.length (g64 r L pre) ∧ True) ∧ Below (w.heap.size + 1) A0 W)
    (fun _ _ _ => False)
    (OwnFrom.and (Own.from (holdsRow_own (w.heap.size + 1) w2.heap.size 41 3 1 (fun pre => pre.length) (fun pre => g64 r L pre) (fun _ _ => True)) _) (ownFrom_below (by omega) (by simp; omega)))
    (fun _ _ _ _ _ hs _ _ => hs)
    ⟨⟨_, bL.alloc _, (hown2.alloc _).alloc _, trivial⟩, hB0⟩
    (fun x => { tmps := #[.pointer (some ⟨T, 0, none⟩), .string ⟨l.toArray⟩, .pointer (some ⟨w.heap.size, 0, none⟩), undef, .slice none 0 0, .pointer (some ⟨w2.heap.size, 0, none⟩), undef, .int .i32 x.2, .pointer (some ⟨T, 0, none⟩), .bool false, .string ⟨l.toArray⟩, .int .i64 (Lib.runeCount ⟨l.toArray⟩), .slice (some ⟨w1.heap.size, 0, none⟩) 0 (Lib.runeCount ⟨l.toArray⟩), .string ⟨l.toArray⟩, .func (.func 77) #[] #[.pointer (some ⟨w2.heap.size + 1, 0, none⟩)], .int .i64 x.1, .int .i32 x.2, undef, undef, undef, undef, undef, undef, undef], defers := [] }) ?assign ?body ?done ?stop
  case assign =>
    intro lp x W K hK
    dsimp only [encs2]
    gi_wp2
    exact hK
  case body =>
    rintro lp pre x W ⟨⟨v, hv, hrow, _⟩, hB⟩ hlt
    obtain ⟨vo, vc, rfl⟩ := own_form hrow
    have hTW : TbAt B T F r W := hTA.below (by rw [hAs]; exact hB)
    have x1 : W.drew.cell? ⟨w2.heap.size, 0, none⟩ = some (.slice vo pre.length vc) := hv.cell
    have x2 : W.drew.cell? ⟨w.heap.size, 0, none⟩ = some (.pointer (some ⟨T, 0, none⟩)) := (hB.cell (p := ⟨w.heap.size, 0, none⟩) (Nat.lt_succ_self _)).trans hAc
    have HSS := hid (And.intro x1 x2)
    have HGX := hid (HG.out x.2 W.drew hTW)
    have HV := hid hv
    have HROW := hid hrow
    have HBW := hid hB
    have hWs : w.heap.size + 1 ≤ W.heap.size := by have h5 := hB.size; omega
    clear hv hrow hB hTW
    gi_wp2_with fail
    refine wpIn_region_holdG lp _ 3 (fun w' => w'.cell? ⟨w2.heap.size, 0, none⟩ = some (.slice vo pre.length vc) ∧ w'.cell? ⟨w.heap.size, 0, none⟩ = some (.pointer (some ⟨T, 0, none⟩))) (fun j => j == 6) (by kernel_rfl) (by kernel_rfl) (by kernel_rfl) (by decide) (fun j hj => by rcases (show j = 6 by simpa using hj) with rfl; decide) (by kernel_rfl) ⟨x1, x2⟩ ?_
    dsimp only [List.take, List.drop]
    iterate 3 (refine wpHold_step ?_ rfl (fun w' hS => ?_) ?_; (rotate_left; (obtain ⟨s1, s2⟩ := hS; go_simp; with_reducible rfl); rotate_left))
    simp only [Act.put, List.setIfInBounds_toArray, List.set_cons_zero, List.set_cons_succ]
    show wpTailG _ _ _ _ _ _ _ _ _
    refine tailG_yes (by kernel_rfl) fun KK hKK => ?_
    go_simp
    refine HGX.out.mono ?_
    rintro e w3 ⟨rfl, nn, rfl⟩
    refine hKK _ _ (fun _ => HSS.out) ?_
    clear hKK KK
    have HVV := hid (show Boxed (W.drew.drewN nn) w2.heap.size 41 (.slice vo pre.length vc) from HV.out)
    have HRV := hid (show (W.drew.drewN nn).ownsRow (w.heap.size + 1) 3 1 (.slice vo pre.length vc) pre.length (g64 r L pre) from HROW.out)
    have HSV := hid (show (W.drew.drewN nn).cell? ⟨w2.heap.size, 0, none⟩ = some (.slice vo pre.length vc) ∧ (W.drew.drewN nn).cell? ⟨w.heap.size, 0, none⟩ = some (.pointer (some ⟨T, 0, none⟩)) from HSS.out)
    have HKV := hid (show KeepsOthers W (W.drew.drewN nn) from ⟨Nat.le_refl _, fun _ _ h _ => h⟩)
    have HBV := hid (show Below (w.heap.size + 1) W (W.drew.drewN nn) from ⟨rfl, rfl, rfl, Nat.le_refl _, fun _ _ => rfl⟩)
    have hVs : w.heap.size + 1 ≤ (W.drew.drewN nn).heap.size := hWs
    obtain ⟨V, hVE⟩ : ∃ V, V = W.drew.drewN nn := ⟨_, rfl⟩
    rw [← hVE] at HVV HRV HSV HKV HBV hVs ⊢
    clear hVE x1 x2 HGX HSS
    have b2 : w2.heap.size < V.heap.size := HVV.out.lt
    refine tailG_yes (by kernel_rfl) fun KK hKK => ?_
    go_simp
    have HSA := hid (show (V.alloc (.cells #[.int .i64 ((gtR r x.2 L : Nat) : Int)] 3)).cell? ⟨w2.heap.size, 0, none⟩ = some (.slice vo pre.length vc) ∧ (V.alloc (.cells #[.int .i64 ((gtR r x.2 L : Nat) : Int)] 3)).cell? ⟨w.heap.size, 0, none⟩ = some (.pointer (some ⟨T, 0, none⟩)) from ⟨(((Below.refl V.heap.size V).alloc (Nat.le_refl _) _).cell (p := ⟨w2.heap.size, 0, none⟩) b2).trans HSV.out.1, (((Below.refl V.heap.size V).alloc (Nat.le_refl _) _).cell (p := ⟨w.heap.size, 0, none⟩) (by show w.heap.size < _; omega)).trans HSV.out.2⟩)
    refine hKK _ _ (fun _ => HSA.out) ?_
    clear hKK KK
    try simp only [Act.put, List.setIfInBounds_toArray, List.set_cons_zero, List.set_cons_succ]
    refine tailG_yes (by kernel_rfl) fun KK hKK => ?_
    refine wp_append_lies _ _ _ 41 rfl (w.heap.size + 1) 3 i0 (.int .i64 0) 1 8 Try.underlying41 hi hz0 hz1 hz2 rfl (by decide) _ pre.length (g64 r L pre) rfl (HRV.out.alloc _) ⟨V.heap.size, 0, none⟩ 1 1 [.int .i64 ((gtR r x.2 L : Nat) : Int)] rfl rfl (cell_one_new _ _ _) (by simp [Value.oneCell']) (by decide) (by unfold maxLen; omega) (by omega) (by simp; omega) (V.heap.size + 1) (by simp) ?_
    intro q4 c4 w4 o4 gr4 hl4 hlt4
    obtain ⟨hv1, hv2, hr2, hk2, hb2⟩ := HVV.out.appended (by decide) HRV.out hVs (by omega) o4 gr4
    have HS4 := hid (show w4.cell? ⟨w2.heap.size, 0, none⟩ = some (.slice vo pre.length vc) ∧ w4.cell? ⟨w.heap.size, 0, none⟩ = some (.pointer (some ⟨T, 0, none⟩)) from ⟨hv1.cell, ((((Below.refl _ _).alloc hVs _).grown gr4 (by simp; omega) (fun k hk => (HRV.out.lt k hk).1)).cell (p := ⟨w.heap.size, 0, none⟩) (Nat.lt_succ_self _)).trans HSV.out.2⟩)
    have hc1 := hv1.cell
    have hf1 := hv1.frozen
    refine hKK _ _ (fun _ => HS4.out) ?_
    clear hKK KK gr4 hl4 hlt4
    try simp only [Act.put, List.setIfInBounds_toArray, List.set_cons_zero, List.set_cons_succ]
    refine tailG_yes (by kernel_rfl) fun KK hKK => ?_
    go_simp
    refine hKK _ _ (fun h => by cases h) ?_
    clear hKK KK
    try simp only [Act.put, List.setIfInBounds_toArray, List.set_cons_zero, List.set_cons_succ]
    refine tailG_nil (OnlyN.in ?_)
    have HF := hid (show KeepsOthers W (w4.setCell ⟨w2.heap.size, 0, none⟩ (.slice (some ⟨q4, 0, none⟩) (pre.length + 1) c4)) from HKV.out.trans hk2)
    have HB4 := hid ((HBW.out.trans HBV.out).trans hb2)
    exact ⟨HF.out.from _, ⟨HF.out.size, fun k o h hw => HF.out.same k o h (Obj.not_cells_of_walk hw)⟩, ⟨_, hv2, by rw [g64_snoc, List.length_append]; exact hr2, trivial⟩, HB4.out⟩
  case done =>
    rintro D ys W hD rfl ⟨⟨v, hv, hrow, _⟩, hB⟩ hK
    have hc := hv.cell
    gi_wp2
    refine ⟨by simp, .inl ⟨_, _, rfl, run_takeDeferred hK, ?_⟩⟩
    exact ⟨_, results_tmp rfl _ _ _, v, rfl, ownsRow_base (Nat.le_succ _) (ownsRow_putObj hrow _ hK rfl), (hA0.trans (hB.mono (Nat.le_succ _))).trans (belowK_b (w := w) (Nat.le_refl _) W D _ _ (by simp at hD; omega) hK rfl rfl)⟩
  case stop =>
    rintro D c pre W _ _ h _
    exact h.elim

theorem classes_any (B T r : Nat) (F : List (List Nat)) (L : List Tr) (l : List UInt8) (w : World) (h : TbAt B T F r w) (hF : F.flatten = clA r L) (hr : r < 256) (hR : Ris 0 L) (hl : l.length ≤ 1000000000000) :
    Calls Try.prog 47 #[.pointer (some ⟨T, 0, none⟩), .string ⟨l.toArray⟩] w fun e W' => ∃ v, e = .returned v ∧ W'.ownsRow w.heap.size 3 1 v (prs l).length (g64 r L (prs l)) ∧ Below w.heap.size w W' :=
  callsIn_wide.1 (classes_in B T r F L l w h hF hr hR hl)
theorem RtAt.below {B P r : Nat} {L : List Tr} {w w' : World} (h : RtAt B P L r w) (hb : Below w.heap.size w w') : RtAt B P L r w' := by
  obtain ⟨v, h1, h2⟩ := h
  exact ⟨v, (hb.block P (lt_of_heap h1)).trans h1, own_keep h2 hb⟩
/-- The classes of the first runes, as values. -/
def q64 (r : Nat) (L : List Tr) (zs : List Int) : List Value := zs.map fun z => Value.int .i64 ((gtR r z L : Nat) : Int)
theorem q64_all (r : Nat) (L : List Tr) (l : List UInt8) : q64 r L (rns l) = g64 r L (prs l) := by simp [q64, g64, rns, prs]
theorem q64_snoc (r : Nat) (L : List Tr) (zs : List Int) (z : Int) : q64 r L (zs ++ [z]) = q64 r L zs ++ [.int .i64 ((gtR r z L : Nat) : Int)] := by simp [q64]
theorem rns_len (l : List UInt8) : (rns l).length = (prs l).length := by simp [rns, prs]

set_option maxHeartbeats 2000000 in
set_option maxRecDepth 100000 in
theorem rclasses_any (B P r : Nat) (L : List Tr) (l : List UInt8) (w : World) (h : RtAt B P L r w) (hL : L.length ≤ 1000000000) (hl : l.length ≤ 1000000000000) :
    Calls Try.prog 48 #[.pointer (some ⟨P, 0, none⟩), .string ⟨l.toArray⟩] w fun e w' => ∃ v, e = .returned v ∧ w'.ownsRow w.heap.size 3 1 v (prs l).length (g64 r L (prs l)) ∧ Below w.heap.size w w' := by
  obtain ⟨i0, hi, hz0, hz1, hz2⟩ := info_parts Try.info3'
  have HRT := hid h
  have HL := hid hL
  clear h hL
  go_enter Try.func48, Try.ntmps48
  go_wp2_with fail
  refine (rrunes_any l _ hl).mono ?_
  rintro e w1 ⟨v, rfl, hown1, hb1⟩
  have HB1 := hid hb1
  have hs1 := hb1.size
  have hlen : (rns l).length ≤ l.length := by rw [rns_len]; exact prs_len l
  have HQA := hid (q64_all r L l)
  have HQL := hid (rns_len l)
  obtain ⟨zs, hzs⟩ : ∃ zs, zs = rns l := ⟨_, rfl⟩
  rw [← hzs] at hown1 hlen HQA HQL
  obtain ⟨ao, cap, rfl, hcell⟩ := Reads.of_row hown1
  have HCELL := hid hcell
  obtain ⟨n, hn⟩ : ∃ n, n = zs.length := ⟨_, rfl⟩
  rw [← hn] at hlen HQL ⊢
  have HN := hid hn
  have HR1 := hid (fun (z : Int) (W : World) (hW : Below w1.heap.size w1 W) => rget_any B P L r z W ((HRT.out.below hb1).below hW) HL.out)
  clear hcell hown1 hzs hb1 hn
  go_wp2
  go_loopw [6, 7] (fun o i wr => ∃ k : Nat, k ≤ n ∧ i = .int .i64 (k : Int) ∧ Hid (wr.ownsRow w1.heap.size 3 1 o k (q64 r L (zs.take k))) ∧ Hid (Below w1.heap.size w1 wr)) (fun _ i _ => n - (intOf i).toNat)
  case atStart => exact ⟨0, by omega, rfl, World.ownsRow_nil _ _ _ _, Below.refl _ _⟩
  case round =>
    obtain ⟨k, hk, rfl, HO, HB⟩ := hrel
    rename_i o _
    have hs := HB.out.size
    by_cases hlt : k < n
    · have hkz : k < zs.length := by have h5 := HN.out; omega
      obtain ⟨g, oo, rfl, hg1, hcg⟩ := HCELL.out k zs[k] (List.getElem?_eq_getElem hkz)
      have hcw : wr.cell? ⟨g, oo + k, none⟩ = some (.int .i32 zs[k]) := (HB.out.cell (p := ⟨g, oo + k, none⟩) hg1).trans hcg
      have HSN := hid (show q64 r L (zs.take (k + 1)) = q64 r L (zs.take k) ++ [.int .i64 ((gtR r zs[k] L : Nat) : Int)] by rw [List.take_succ_eq_append_getElem hkz, q64_snoc])
      obtain ⟨z, hz⟩ : ∃ z, z = zs[k] := ⟨_, rfl⟩
      rw [← hz] at hcw HSN
      have i3 : (k : Int) < (n : Int) := by omega
      have i4 : (0 : Int) ≤ (k : Int) := by omega
      clear hz hcg hkz
      go_wp2_with (first | (go_at_call 45; refine (HR1.out z wr HB.out).mono ?_; rintro e w9 ⟨rfl, hw9⟩; obtain rfl := hw9.symm) | (at_builtin; refine wpList_append_own _ rfl _ _ 41 rfl w1.heap.size 3 i0 (.int .i64 0) 1 8 Try.underlying41 hi hz0 hz1 hz2 rfl (by decide) _ _ _ rfl (HO.out.alloc _) ⟨wr.heap.size, 0, none⟩ 1 1 [.int .i64 ((gtR r z L : Nat) : Int)] rfl rfl (cell_one_new _ _ _) (by simp [Value.oneCell']) (by unfold maxLen; omega) (by omega) (by simp; omega) ?_; intro v' w2 hown' hgrow _))
      have HB2 := hid ((HB.out.alloc hs _).grown hgrow (by simp; omega) (fun k hk => (HO.out.lt k hk).1))
      have HO2 := hid (show w2.ownsRow w1.heap.size 3 1 v' (k + 1) (q64 r L (zs.take (k + 1))) by rw [HSN.out]; exact hown')
      clear hown' hgrow hcw
      go_wp2
      go_roundw
      case rel => exact ⟨k + 1, by omega, by go_num, HO2, HB2⟩
      case measure => simp [intOf]; omega
    · have i3 : ¬ (k : Int) < (n : Int) := by omega
      have HE := hid (show zs.take k = zs from List.take_of_length_le (by have h5 := HN.out; omega))
      have HKN := hid (show k = n by omega)
      go_wp2
      go_ret
      refine ⟨_, rfl, ?_, HB1.out.trans (HB.out.mono hs1)⟩
      have h5 := ownsRow_base hs1 HO.out
      rw [HE.out, HQA.out, HKN.out, HQL.out] at h5
      exact h5
end Go.Proofs.Ytljlhlcoaajggaa
