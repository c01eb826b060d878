/- The contracts of live and Live (the document's). -/
import Derived.Test.YtmgoedcaeemilaaDoorLive7
import Derived.Test.YtmgoedcaeemilaaDoorRCheck7
namespace Go.Proofs.YtmgoedcaeemilaaDoor
open Go.RowKit

/-- How many cells of a row are so. -/
def isV (b : Bool) : Value → Bool
  | .bool x => x == b
  | _ => false
def mB (b : Bool) (w : World) (g : Nat) : Nat := match w.heap[g]? with
  | some (.cells c _ _) => c.toList.countP (isV b)
  | _ => 0
theorem mB_row {b : Bool} {w : World} {g T : Nat} {bs : List Bool} (h : w.heap[g]? = some (.cells (bls bs).toArray T)) : mB b w g = cnt b bs := by
  unfold mB
  rw [h]
  show (bls bs).countP (isV b) = cnt b bs
  unfold bls cnt
  rw [List.countP_map]
  rfl
def bN : Value → Nat
  | .bool true => 1
  | _ => 0
/-- The marks lie there. -/
structure MI (w wr : World) (bx : Obj) (gl n : Nat) (bs : List Bool) : Prop where
  low : Below (w.heap.size + 1) (w.alloc bx) wr
  mrk : wr.heap[gl]? = some (.cells (bls bs).toArray 4)
  len : bs.length = n
  gl0 : w.heap.size + 1 ≤ gl
section
variable {w wr : World} {bx : Obj} {gl n : Nat} {bs : List Bool}
theorem MI.cell (h : MI w wr bx gl n bs) {s : Nat} {b : Bool} (hb : bs[s]? = some b) : wr.cell? ⟨gl, s, none⟩ = some (.bool b) ∧ wr.frozen? ⟨gl, s, none⟩ = false := by
  refine ⟨?_, frozen_of_row wr gl s _ 4 h.mrk⟩
  rw [cell_of_row wr gl s _ 4 (0, 0) h.mrk, List.getElem?_toArray, bls_at, hb]
  rfl
theorem MI.at (h : MI w wr bx gl n bs) {s : Nat} (hs : s < n) : ∃ b, bs[s]? = some b ∧ wr.cell? ⟨gl, s, none⟩ = some (.bool b) ∧ wr.frozen? ⟨gl, s, none⟩ = false := by
  obtain ⟨b, hb⟩ : ∃ b, bs[s]? = some b := ⟨_, List.getElem?_eq_getElem (by rw [h.len]; exact hs)⟩
  exact ⟨b, hb, (h.cell hb).1, (h.cell hb).2⟩
theorem MI.set (h : MI w wr bx gl n bs) (s : Nat) (b : Bool) : MI w (wr.setCell ⟨gl, s, none⟩ (.bool b)) bx gl n (bs.set s b) :=
  ⟨h.low.setCell (p := ⟨gl, s, none⟩) h.gl0 _, by rw [heap_setCell_same wr gl s _ 4 _ h.mrk, List.setIfInBounds_toArray, bls_set], by rw [List.length_set]; exact h.len, h.gl0⟩
theorem MI.own (h : MI w wr bx gl n bs) (hn : n ≤ 4096) : wr.ownsRow w.heap.size 4 1 (.slice (some ⟨gl, 0, none⟩) n n) n (bls bs) :=
  ⟨by rw [bls_len, h.len, Nat.mul_one], .inr ⟨gl, n, _, rfl, by have := h.gl0; omega, h.mrk, Nat.le_refl _, by unfold maxLen; omega, by simp [bls_len, h.len], by simp [List.take_of_length_le, bls_len, h.len]⟩⟩
end
theorem at_set {bs : List Bool} {s u : Nat} {b : Bool} (hs : s < bs.length) : (bs.set s b)[u]? = if u = s then some b else bs[u]? := by
  rw [List.getElem?_set]
  by_cases e : s = u
  · subst e; simp [hs]
  · rw [if_neg e, if_neg (fun h => e h.symm)]
/-- A state is live by what is marked. -/
def LvQ (R : Rw) (T : List Int) (bs : List Bool) (u : Nat) : Prop := lvB T u = true ∨ ∃ (row : List Int) (t : Nat), R[u]? = some row ∧ (t : Int) ∈ row ∧ bs[t]? = some true
def LvS (R : Rw) (T : List Int) (n : Nat) (bs : List Bool) : Prop := ∀ u : Nat, bs[u]? = some true → Lead R (fun s => s < n ∧ lvB T s = true) u
def LvC (R : Rw) (T : List Int) (bs : List Bool) (k : Nat) : Prop := ∀ u : Nat, u < k → LvQ R T bs u → bs[u]? = some true
theorem LvS.set {R : Rw} {T : List Int} {n s : Nat} {bs : List Bool} (h : LvS R T n bs) (hl : bs.length = n) (hs : s < n) (hq : LvQ R T bs s) : LvS R T n (bs.set s true) := fun u hu => by
  rw [at_set (by omega)] at hu
  split at hu
  · rename_i e
    subst e
    rcases hq with hq | ⟨row, t, h1, h2, h3⟩
    · exact .here ⟨hs, hq⟩
    · exact .on h1 h2 (h t h3)
  · exact h u hu
theorem LvC.done {R : Rw} {T : List Int} {n : Nat} {bs : List Bool} (h : LvC R T bs n) (hs : LvS R T n bs) (hR : R.length = n) (u : Nat) : bs[u]? = some true ↔ Lead R (fun s => s < n ∧ lvB T s = true) u := by
  refine ⟨hs u, fun hl => ?_⟩
  exact Lead.least (A := fun u => bs[u]? = some true) (fun s ha => h s ha.1 (.inl ha.2)) (fun s t row hr ht hb => h s (by rw [← hR]; exact (List.getElem?_eq_some_iff.1 hr).1) (.inr ⟨row, t, hr, ht, hb⟩)) hl
/-- Within a pass: what was marked when it began; whether something was. -/
def LvP (R : Rw) (T : List Int) (n : Nat) (N0 : Nat) (b : Bool) (s : Nat) (bs : List Bool) : Prop := LvS R T n bs ∧ cnt false bs ≤ N0 ∧ (b = false → LvC R T bs s) ∧ (b = true → cnt false bs < N0)
set_option maxHeartbeats 16000000 in
theorem rlive0_any (c : Int) (no to : Option Addr) (n nc m tc : Nat) (R : Rw) (T : List Int) (w : World) (hd : DRd w no n to m R T) (hg : Gd c R T) :
    Calls Tryd.prog 65 #[.agg #[.int .i64 c, .slice no n nc, .slice to m tc]] w fun e w' => LdQ w n R (fun s => s < n ∧ lvB T s = true) e w' := by
  obtain ⟨i1, hi4, hy0, hy1, hy2⟩ := info_parts Tryd.info4
  have hn1 := hg.n1
  have hn2 := hg.n2
  have hnR := hd.hn
  have M2 := mkS Tryd.underlying53 hi4 hy0 hy1 hy2 (by decide) n (by omega)
  have hmn : m = n := by have := hg.tl; have := hd.hm; omega
  have HD := hid hd
  have HG := hid hg
  have HMN := hid hmn
  have HNR := hid hnR
  have hn0 : 1 ≤ n := by omega
  have hn3 : n ≤ 1024 := by omega
  clear hd hg hmn hnR hn1 hn2
  obtain ⟨Z2, hZ2⟩ : ∃ Z, Z = madeCells (Value.bool false).cells n := ⟨_, rfl⟩
  rw [← hZ2] at M2
  have HZ2 := hid hZ2
  clear hZ2
  go_enter Tryd.func65, Tryd.ntmps65
  go_wp2
  clear M2 hi4 hy0 hy1 hy2
  obtain ⟨bx, hbx⟩ : ∃ o : Obj, o = .cells #[.int .i64 c, .slice no n nc, .slice to m tc] 32 := ⟨_, rfl⟩
  have HOB := hid hbx
  obtain ⟨W0, hW0⟩ : ∃ W, W = (w.alloc bx).alloc (.cells Z2 4) := ⟨_, rfl⟩
  rw [← hbx, ← hW0]
  obtain ⟨gl, hgl⟩ : ∃ g, g = w.heap.size + 1 := ⟨_, rfl⟩
  obtain ⟨P, hPP⟩ : ∃ g, g = w.heap.size := ⟨_, rfl⟩
  rw [← hgl, ← hPP]
  have HPP := hid hPP
  have HM0 := hid (show MI w W0 bx gl n (List.replicate n false) by
    refine ⟨by rw [hW0]; exact box_self.alloc (by simp) _, ?_, by simp, by omega⟩
    have h := bls_falses n
    rw [Nat.mul_one] at h
    rw [hW0, ← h, ← HZ2.out]
    subst hgl
    rw [show w.heap.size + 1 = (w.alloc bx).heap.size by simp]
    exact heap_alloc_new _ _)
  have HLEN := hid (show ∀ (s : Nat) (row : List Int), R[s]? = some row → (row.length : Int) = c ∧ ∀ x ∈ row, -1 ≤ x ∧ x < (n : Int) from fun s row hr => by
    have hsl := (List.getElem?_eq_some_iff.1 hr).1
    have h1 := HG.out.row s row (T[s]'(by have := HG.out.tl; omega)) hr (List.getElem?_eq_getElem _)
    refine ⟨h1.2.1, fun x hx => ?_⟩
    have h2 := h1.2.2 x hx
    have := HNR.out
    omega)
  have HBQ := hid (show ∀ W, Below (w.heap.size + 1) (w.alloc bx) W → DRd W no n to m R T ∧ W.cell? ⟨P, 0, none⟩ = some (.int .i64 c) ∧ W.cell? ⟨P, 1, none⟩ = some (.slice no n nc) ∧ W.cell? ⟨P, 2, none⟩ = some (.slice to m tc) from fun W h => by
    have h2 := box_trans h
    refine ⟨HD.out.below h2, ?_⟩
    rw [HPP.out]
    rw [HOB.out] at h
    exact box3 h)
  have HS0 := hid (show LvS R T n (List.replicate n false) from fun u hu => by
    rw [List.getElem?_replicate] at hu
    split at hu <;> cases hu)
  clear hW0 hgl hPP hbx HZ2 HOB HD
  go_loopw [5] (fun x wr => ∃ (b : Bool) (bs : List Bool), x = .bool b ∧ Hid (MI w wr bx gl n bs) ∧ Hid (LvS R T n bs) ∧ Hid (b = false → LvC R T bs n)) (fun x wr => mB false wr gl + bN x)
  case atStart => exact ⟨true, _, rfl, HM0, HS0, fun h => by cases h⟩
  case round =>
    clear HM0 HS0
    obtain ⟨b, bs0, rfl, HM0, HS0, HC0⟩ := hrel
    cases b with
    | false =>
      have HX := hid (HC0.out rfl)
      go_wp2
      go_ret
      exact ⟨bs0, gl, n, rfl, HM0.out.own (by omega), HM0.out.len, HX.out.done HS0.out HNR.out.symm, box_trans HM0.out.low⟩
    | true =>
      obtain ⟨N0, hN0⟩ : ∃ N0, N0 = cnt false bs0 := ⟨_, rfl⟩
      have HN0 := hid hN0
      have HMB := hid (show mB false wr gl = N0 by rw [mB_row HM0.out.mrk, hN0])
      have HL0 := hid (show LvP R T n N0 false 0 bs0 from ⟨HS0.out, by omega, fun _ u hu => (by omega), fun h => (by cases h)⟩)
      clear hN0 HC0 HS0
      go_wp2
      go_loopw [5, 6] (fun x y wr => ∃ (b : Bool) (s : Nat) (bs : List Bool), x = .bool b ∧ y = .int .i64 s ∧ s ≤ n ∧ Hid (MI w wr bx gl n bs) ∧ Hid (LvP R T n N0 b s bs)) (fun _ y _ => n - (intOf y).toNat)
      case atStart => exact ⟨false, 0, bs0, rfl, rfl, Nat.zero_le _, HM0, HL0⟩
      case round =>
        clear HM0 HL0
        obtain ⟨b, s, bs, rfl, rfl, hs, HM, HLP⟩ := hrel
        by_cases hlt : s < n
        · obtain ⟨dd, c0, c1, c2⟩ := HBQ.out _ HM.out.low
          obtain ⟨row, a, co, cc, hr, rfl, ha, a0, hI, hrl⟩ := dd.row hlt
          obtain ⟨t, ta, ht, rfl, hta, t0⟩ := dd.tk (show s < m by rw [HMN.out]; exact hlt)
          obtain ⟨hlc, hrng⟩ := HLEN.out s row hr
          obtain ⟨l, hl⟩ : ∃ l, l = row.length := ⟨_, rfl⟩
          rw [← hl] at a0 hlc
          have HL := hid hl
          have HR := hid hr
          have HI := hid hI
          have HRG := hid hrng
          have HLC := hid hlc
          have hl64 : l ≤ 64 := by have := HG.out.c2; omega
          have i3 : (s : Int) < (n : Int) := by omega
          have i4 : (s : Int) < (m : Int) := by have := HMN.out; omega
          have i0' : (0 : Int) ≤ (s : Int) := by omega
          have hlv : ∃ v : Bool, v = lvB T s ∧ (t == 1) = v := by
            refine ⟨_, rfl, ?_⟩
            unfold lvB
            rw [ht]
            by_cases e : t = 1
            · subst e; rfl
            · rw [beq_eq_false_iff_ne.2 e, decide_eq_false (fun h => e (Option.some.inj h))]
          obtain ⟨v, hv, tv⟩ := hlv
          have HV := hid hv
          clear hr ht hI hrl hl hrng dd hlc hv
          go_wp2
          go_loop [7, 8] (fun x y => ∃ (v2 : Bool) (j : Nat), x = .bool v2 ∧ y = .int .i64 j ∧ j ≤ l ∧ Hid (v2 = true → LvQ R T bs s) ∧ Hid (v2 = false → lvB T s = false ∧ ∀ (k : Nat) (z : Int), k < j → row[k]? = some z → ∀ p : Nat, z = (p : Int) → bs[p]? ≠ some true)) (fun _ y => l - (intOf y).toNat)
          case atStart => exact ⟨v, 0, rfl, rfl, Nat.zero_le _, fun h => .inl (by rw [← HV.out]; exact h), fun h => ⟨by rw [← HV.out]; exact h, fun k z hk => (by omega)⟩⟩
          case round =>
            obtain ⟨v2, j, rfl, rfl, hj, HY, HNO⟩ := hrel
            clear tv
            by_cases hjl : j < l ∧ v2 = false
            · obtain ⟨hjl, rfl⟩ := hjl
              obtain ⟨z, d, hz, rfl, hd, d0⟩ := HI.out.at (k := j) (by rw [← HL.out]; exact hjl)
              have HZ := hid hz
              have hzr := HRG.out z (List.mem_of_getElem? hz)
              have j3 : (j : Int) < c := by have := HLC.out; omega
              have j4 : decide ((j : Int) < c) = true := decide_eq_true j3
              have j5 : (j : Int) < (l : Int) := by omega
              clear hz
              have hno : (∀ p : Nat, z = (p : Int) → bs[p]? ≠ some true) → (lvB T s = false ∧ ∀ (k : Nat) (z : Int), k < j + 1 → row[k]? = some z → ∀ p : Nat, z = (p : Int) → bs[p]? ≠ some true) := fun h => ⟨(HNO.out rfl).1, fun k y hk hy p hp => by
                by_cases e : k = j
                · subst e
                  rw [HZ.out] at hy
                  cases hy
                  exact h p hp
                · exact (HNO.out rfl).2 k y (by omega) hy p hp⟩
              by_cases z0 : 0 ≤ z
              · have z0' : decide (0 ≤ z) = true := decide_eq_true z0
                obtain ⟨p, rfl⟩ : ∃ p : Nat, z = (p : Int) := ⟨z.toNat, by omega⟩
                have hpn : p < n := by omega
                have p1 : (p : Int) < (n : Int) := by omega
                obtain ⟨b2, hb2, m0, _⟩ := HM.out.at hpn
                cases b2 with
                | true =>
                  have HY2 := hid (show LvQ R T bs s from .inr ⟨row, p, HR.out, List.mem_of_getElem? HZ.out, hb2⟩)
                  clear hno hb2
                  go_wp2
                  go_round
                  case rel => exact ⟨true, j + 1, rfl, by go_num, by omega, fun _ => HY2.out, fun h => by cases h⟩
                  case measure => simp [intOf]; omega
                | false =>
                  have HN2 := hid (hno (fun p' hp h => by
                    have e : p = p' := by omega
                    subst e
                    rw [hb2] at h
                    cases h))
                  clear hno hb2
                  go_wp2
                  go_round
                  case rel => exact ⟨false, j + 1, rfl, by go_num, by omega, fun h => (by cases h), fun _ => HN2.out⟩
                  case measure => simp [intOf]; omega
              · have z0' : decide (0 ≤ z) = false := decide_eq_false z0
                have HN2 := hid (hno (fun p' hp h => by omega))
                clear hno
                go_wp2
                go_round
                case rel => exact ⟨false, j + 1, rfl, by go_num, by omega, fun h => (by cases h), fun _ => HN2.out⟩
                case measure => simp [intOf]; omega
            · have hend : v2 = false → ¬ LvQ R T bs s := fun e h => by
                subst e
                obtain ⟨h1, h2⟩ := HNO.out rfl
                rcases h with h | ⟨row', p, h3, h4, h5⟩
                · rw [h1] at h; cases h
                · rw [HR.out] at h3
                  cases h3
                  obtain ⟨k, hk⟩ := List.mem_iff_getElem?.1 h4
                  exact h2 k (p : Int) (by have := (List.getElem?_eq_some_iff.1 hk).1; have := HL.out; have : ¬ j < l := fun h => hjl ⟨h, rfl⟩; omega) hk p rfl h5
              obtain ⟨b2, hb2, m0, m1⟩ := HM.out.at hlt
              have HB2 := hid hb2
              have HEND := hid hend
              have cond0 : (decide ((j : Int) < c) = true ∧ v2 = true) ∨ (decide ((j : Int) < c) = false) := by
                by_cases e : j < l
                · refine .inl ⟨decide_eq_true (by have := HLC.out; omega), ?_⟩
                  cases v2 with
                  | true => rfl
                  | false => exact absurd ⟨e, rfl⟩ hjl
                · exact .inr (decide_eq_false (by have := HLC.out; omega))
              clear hb2 hend hjl
              cases v2 with
              | false =>
                have j4 : decide ((j : Int) < c) = false := by
                  rcases cond0 with h | h
                  · cases h.2
                  · exact h
                have HF := hid (show LvP R T n N0 b (s + 1) bs from ⟨HLP.out.1, HLP.out.2.1, fun hb u hu hq => by
                  by_cases e : u = s
                  · subst e; exact absurd hq (HEND.out rfl)
                  · exact HLP.out.2.2.1 hb u (by omega) hq, HLP.out.2.2.2⟩)
                clear cond0
                go_wp2
                go_roundw
                case rel => exact ⟨b, s + 1, bs, rfl, by go_num, by omega, HM, HF⟩
                case measure => simp [intOf]; omega
              | true =>
                have hgo : ∀ (x : Bool), decide ((j : Int) < c) = x → True := fun _ _ => trivial
                cases b2 with
                | true =>
                  have HF := hid (show LvP R T n N0 b (s + 1) bs from ⟨HLP.out.1, HLP.out.2.1, fun hb u hu hq => by
                    by_cases e : u = s
                    · subst e; exact HB2.out
                    · exact HLP.out.2.2.1 hb u (by omega) hq, HLP.out.2.2.2⟩)
                  rcases bool_cases (decide ((j : Int) < c)) with j4 | j4
                  all_goals
                    clear cond0 hgo
                    go_wp2
                    go_roundw
                    case rel => exact ⟨b, s + 1, bs, rfl, by go_num, by omega, HM, HF⟩
                    case measure => simp [intOf]; omega
                | false =>
                  have hcs := cnt_set_false HB2.out
                  have HF := hid (show LvP R T n N0 true (s + 1) (bs.set s true) from ⟨HLP.out.1.set HM.out.len hlt (HY.out rfl), by have := HLP.out.2.1; omega, fun h => (by cases h), fun _ => by have := HLP.out.2.1; omega⟩)
                  have HM2 := hid (HM.out.set s true)
                  clear hcs
                  rcases bool_cases (decide ((j : Int) < c)) with j4 | j4
                  all_goals
                    clear cond0 hgo
                    go_wp2
                    go_roundw
                    case rel => exact ⟨true, s + 1, _, rfl, by go_num, by omega, HM2, HF⟩
                    case measure => simp [intOf]; omega
        · have i3 : ¬ (s : Int) < (n : Int) := by omega
          have HMB2 := hid (mB_row (b := false) HM.out.mrk)
          have hlt2 : mB false wr gl + bN (.bool b) < N0 + 1 := by
            rw [HMB2.out]
            cases b with
            | true => have := HLP.out.2.2.2 rfl; show cnt false bs + 1 < N0 + 1; omega
            | false => have := HLP.out.2.1; show cnt false bs + 0 < N0 + 1; omega
          have HLT := hid hlt2
          clear hlt2
          go_wp2
          go_roundw
          case rel => exact ⟨b, bs, rfl, HM, HLP.out.1, fun hb u hu hq => HLP.out.2.2.1 hb u (by omega) hq⟩
          case measure => rw [HMB.out]; exact HLT.out
end Go.Proofs.YtmgoedcaeemilaaDoor
