/- The contracts of code (package runes) and of a builder's WriteByte. -/
import Derived.Test.YtohhokjlgihbgaaGreatDoorFFmt
import Derived.Test.YtohhokjlgihbgaaGreatDoorFLay7
import Derived.Test.YtohhokjlgihbgaaGreatDoorFKeep
import Derived.Lib.AppendStr
import Derived.Lib.BufferRead
import Derived.Test.YtohhokjlgihbgaaGreatDoorFItem
namespace Go.Proofs.YtohhokjlgihbgaaGreatDoor
open Go.RowKit

theorem rep_eq : ∀ c : Nat, Lib.repeatL [48] c = List.replicate c 48
  | 0 => rfl
  | c + 1 => by rw [Lib.repeatL, rep_eq c, List.replicate_succ]; rfl
theorem pad_eq {n k : Nat} (hn : n ≤ 1114111) (h0 : 1 ≤ k) (h1 : n < 16 ^ k) (h2 : k = 1 ∨ 16 ^ (k - 1) ≤ n) : List.replicate (4 - k) 48 ++ hxL k n = hex n := by
  have hk6 : k ≤ 6 := by
    rcases Nat.lt_or_ge 6 k with h | h
    · exfalso
      have h3 : 16 ^ 6 ≤ 16 ^ (k - 1) := Nat.pow_le_pow_right (by omega) (by omega)
      rw [show (16 : Nat) ^ 6 = 16777216 from by decide] at h3
      omega
    · exact h
  have hw : wdt n = k + (4 - k) := by
    have c : k = 1 ∨ k = 2 ∨ k = 3 ∨ k = 4 ∨ k = 5 ∨ k = 6 := by omega
    unfold wdt
    rcases c with rfl | rfl | rfl | rfl | rfl | rfl
    · have h1' : n < 16 := h1
      rw [if_pos (by omega)]
    · have h1' : n < 256 := h1
      rw [if_pos (by omega)]
    · have h1' : n < 4096 := h1
      rw [if_pos (by omega)]
    · have h1' : n < 65536 := h1
      rw [if_pos (by omega)]
    · have h1' : n < 1048576 := h1
      have h2' : 65536 ≤ n := by rcases h2 with h | h; omega; exact h
      rw [if_neg (by omega), if_pos (by omega)]
    · have h2' : 1048576 ≤ n := by rcases h2 with h | h; omega; exact h
      rw [if_neg (by omega), if_neg (by omega)]
  unfold hex
  rw [hw, hxL_pad _ _ _ h1]
theorem cat_eq (a b : List UInt8) : (⟨a.toArray⟩ : ByteArray) ++ ⟨b.toArray⟩ = ⟨(a ++ b).toArray⟩ := by
  apply ByteArray.ext
  simp

set_option maxHeartbeats 1000000 in
theorem code_any (n : Nat) (w : World) (hn : n ≤ 1114111) (hZ : w.cell? ⟨6, 15, none⟩ = some (.int .u8 4)) (h9 : 9 ≤ w.heap.size) :
    Calls Tryz.prog 84 #[.int .i32 (n : Int)] w fun e w' => e = .returned (.string ⟨(cod n).toArray⟩) ∧ Below w.heap.size w w' := by
  have HF := hid (fmt2_any n w hn hZ h9)
  clear hZ
  go_enter Tryz.func84, Tryz.ntmps84
  go_wp2_with fail
  refine HF.out.mono ?_
  rintro e w1 ⟨k, rfl, k1, k2, k3, hb1⟩
  have HB1 := hid hb1
  have hs1 := hb1.size
  have hk6 : k ≤ 6 := by
    rcases Nat.lt_or_ge 6 k with h | h
    · exfalso
      rcases k3 with h3 | h3
      · omega
      · have h4 : 16 ^ 6 ≤ 16 ^ (k - 1) := Nat.pow_le_pow_right (by omega) (by omega)
        rw [show (16 : Nat) ^ 6 = 16777216 from by decide] at h4
        omega
    · exact h
  have HP := hid (pad_eq hn k1 k2 k3)
  have hll := loL_len k n
  have HU := hid (Tryz.strings_ToUpper_ascii ⟨(loL k n).toArray⟩ w1 (by show (loL k n).toArray.size ≤ _; rw [List.size_toArray]; omega) (fun j b hb => loL_asc k n b (List.mem_of_getElem? hb)))
  have hup : Lib.toUpperA (loL k n).toArray.toList = hxL k n := loL_up k n
  rw [show (⟨(loL k n).toArray⟩ : ByteArray).data.toList = (loL k n).toArray.toList from rfl, hup] at HU
  obtain ⟨X, hX⟩ : ∃ X, X = hxL k n := ⟨_, rfl⟩
  have hxl : X.length = k := by rw [hX]; exact hxL_len k n
  rw [← hX] at HU HP
  clear hb1 HF hup hX k2 k3 hll
  go_wp2_with fail
  refine HU.out.mono ?_
  rintro e w2 ⟨rfl, hb2⟩
  have HB2 := hid (HB1.out.trans (hb2.mono hs1))
  have hs2 := HB2.out.size
  have HRP := hid (Tryz.strings_Repeat ⟨#[48]⟩ (4 - k) w2 (by omega) (by show 1 * (4 - k) ≤ _; omega))
  rw [show (⟨#[48]⟩ : ByteArray).data.toList = [48] from rfl, rep_eq] at HRP
  have HCAT := hid (show ((⟨#[85, 43]⟩ : ByteArray) ++ ⟨(List.replicate (4 - k) (48 : UInt8)).toArray⟩) ++ ⟨X.toArray⟩ = ⟨(cod n).toArray⟩ by
    have e1 : (⟨#[85, 43]⟩ : ByteArray) = ⟨([85, 43] : List UInt8).toArray⟩ := rfl
    rw [e1, cat_eq, cat_eq, List.append_assoc, HP.out]; rfl)
  obtain ⟨R, hR⟩ : ∃ R : List UInt8, R = List.replicate (4 - k) 48 := ⟨_, rfl⟩
  rw [← hR] at HRP HCAT
  have hRl : R.length = 4 - k := by rw [hR, List.length_replicate]
  have hRs : (⟨R.toArray⟩ : ByteArray).size = 4 - k := by show R.toArray.size = _; rw [List.size_toArray]; exact hRl
  have hXs : (⟨X.toArray⟩ : ByteArray).size = k := by show X.toArray.size = _; rw [List.size_toArray]; exact hxl
  have hlX : (X.length : Int) = (k : Int) := by omega
  have em : max (0 : Int) (4 - (X.length : Int)) = ((4 - k : Nat) : Int) := by omega
  have em2 : max (0 : Int) (4 - (k : Int)) = ((4 - k : Nat) : Int) := by omega
  have em3 : IntKind.i64.wrap (4 - (X.length : Int)) = 4 - (X.length : Int) := by rw [IntKind.wrap_i64]; omega
  clear hb2 HU HB1 HP hR
  go_wp2_with fail
  refine HRP.out.mono ?_
  rintro e w3 ⟨rfl, hb3⟩
  have HB3 := hid (HB2.out.trans (hb3.mono hs2))
  clear hb3 HRP HB2
  go_wp2
  go_ret
  exact ⟨by rw [← HCAT.out]; rfl, HB3.out⟩
theorem wbyte_any (B b : Nat) (T : List UInt8) (c : UInt8) (w : World) (h : Lib.IsBuilderF 96 5 B b (Lib.byteCells T) w) (hlen : T.length + 1 ≤ 140737488355328) (hBw : B ≤ w.heap.size) :
    Calls Tryz.prog 55 #[.pointer (some ⟨b, 0, none⟩), .int .u8 (c.toNat : Int)] w fun e w' => (∃ v, e = .returned v) ∧ Lib.IsBuilderF 96 5 B b (Lib.byteCells (T ++ [c])) w' ∧ Below B w w' ∧ Lib.OthersKept 5 (some b) w w' := by
  have hc : Lib.byteCells T ++ [.int .u8 (c.toNat : Int)] = Lib.byteCells (T ++ [c]) := by
    unfold Lib.byteCells
    simp
  refine (Any.Builder_WriteByte_k { Tryz.lays158 with } Tryz.Builder_Extra_158 B b (Lib.byteCells T) (c.toNat : Int) w h (by rw [Lib.byteCells_length]; exact hlen) hBw).mono ?_
  rintro e w' ⟨rfl, h1, h2, h3⟩
  rw [hc] at h1
  exact ⟨⟨_, rfl⟩, .inr h1, h2, h3⟩
end Go.Proofs.YtohhokjlgihbgaaGreatDoor
/- The contract of Print (package runes). -/
namespace Go.Proofs.YtohhokjlgihbgaaGreatDoor
open Go.RowKit

theorem isb_below {B b : Nat} {bs : List Value} {W W' : World} (h : Lib.IsBuilderF 96 5 B b bs W) (hb : Below W.heap.size W W') : Lib.IsBuilderF 96 5 B b bs W' := by
  have kept : ∀ (k : Nat) c t fz, W.heap[k]? = some (Obj.cells c t fz) → W'.heap[k]? = some (Obj.cells c t fz) := fun k c t fz hk => (hb.block k (Array.getElem?_eq_some_iff.1 hk).1).trans hk
  have one : ∀ (p : Value), Lib.BuilderAtF 96 5 B b p bs W → Lib.BuilderAtF 96 5 B b p bs W' := by
    rintro p ⟨h1, v, hv, hr, hne⟩
    refine ⟨h1, v, kept _ _ _ _ hv, ⟨hr.1, ?_⟩, hne⟩
    rcases hr.2 with h0 | ⟨g, cap, cur, fz, hv', hbg, hgg, hrr⟩
    · exact .inl h0
    · exact .inr ⟨g, cap, cur, fz, hv', hbg, kept _ _ _ _ hgg, hrr⟩
  exact h.imp (one _) (one _)
theorem isb_lt {B b : Nat} {bs : List Value} {W : World} (h : Lib.IsBuilderF 96 5 B b bs W) : b < W.heap.size := by
  rcases h with ⟨_, v, h, _⟩ | ⟨_, v, h, _⟩
  all_goals exact (Array.getElem?_eq_some_iff.1 h).1
theorem kept_oth {B b k : Nat} {bs : List Value} {W W' : World} {c : Array Value} {t : TypeId} {fz : Nat × Nat} (hb : Lib.IsBuilderF 96 5 B b bs W) (h : Lib.OthersKept 5 (some b) W W') (hk : W.heap[k]? = some (.cells c t fz)) (h1 : t ≠ 96) (h2 : t ≠ 5) : W'.heap[k]? = some (.cells c t fz) := by
  refine h k _ hk (fun e => ?_) (fun c' fz' e => by cases e; exact h2 rfl)
  cases e
  rcases hb with ⟨_, v, hv, _⟩ | ⟨_, v, hv, _⟩
  all_goals rw [hv] at hk; cases hk; exact h1 rfl
theorem row_oth {B b C n : Nat} {bs xs : List Value} {v : Value} {W W' : World} (hb : Lib.IsBuilderF 96 5 B b bs W) (h : Lib.OthersKept 5 (some b) W W') (hr : W.ownsRow C 84 2 v n xs) : W'.ownsRow C 84 2 v n xs := by
  refine ⟨hr.1, ?_⟩
  rcases hr.2 with h0 | ⟨g, cap, cur, hv, hbg, hg, hrr⟩
  · exact .inl h0
  · exact .inr ⟨g, cap, cur, hv, hbg, kept_oth hb h hg (by decide) (by decide), hrr⟩
/-- What stands while a range is spelled. -/
structure St (B C G n : Nat) (v : Value) (xs : List Value) (f0 f1 : Int) (w : World) (T : List UInt8) (X : World) : Prop where
  bd : Lib.IsBuilderF 96 5 B B (Lib.byteCells T) X
  row : X.ownsRow C 84 2 v n xs
  bel : Below B w X
  g : X.heap[G]? = some (.cells #[.int .i32 f0, .int .i32 f1] 84 (0, 0))
theorem St.byte {B C G n : Nat} {v : Value} {xs : List Value} {f0 f1 : Int} {w X : World} {T : List UInt8} (h : St B C G n v xs f0 f1 w T X) (c : UInt8) (hl : T.length ≤ 10000000) :
    Calls Tryz.prog 55 #[.pointer (some ⟨B, 0, none⟩), .int .u8 (c.toNat : Int)] X fun e X' => (∃ v, e = .returned v) ∧ St B C G n v xs f0 f1 w (T ++ [c]) X' :=
  (wbyte_any B B T c X h.bd (by omega) (Nat.le_of_lt (isb_lt h.bd))).mono fun _ _ ⟨h1, h2, h3, h4⟩ => ⟨h1, h2, row_oth h.bd h4 h.row, h.bel.trans h3, kept_oth h.bd h4 h.g (by decide) (by decide)⟩
theorem St.str {B C G n : Nat} {v : Value} {xs : List Value} {f0 f1 : Int} {w X : World} {T : List UInt8} (h : St B C G n v xs f0 f1 w T X) (u : List UInt8) (hl : T.length ≤ 10000000) (hu : u.length ≤ 100) :
    Calls Tryz.prog 53 #[.pointer (some ⟨B, 0, none⟩), .string ⟨u.toArray⟩] X fun e X' => (∃ v, e = .returned v) ∧ St B C G n v xs f0 f1 w (T ++ u) X' :=
  (write_any B B T u ⟨u.toArray⟩ X h.bd rfl (by omega) (Nat.le_of_lt (isb_lt h.bd))).mono fun _ _ ⟨h1, h2, h3, h4⟩ => ⟨h1, h2, row_oth h.bd h4 h.row, h.bel.trans h3, kept_oth h.bd h4 h.g (by decide) (by decide)⟩
theorem St.code {B C G n : Nat} {v : Value} {xs : List Value} {f0 f1 : Int} {w X : World} {T : List UInt8} (h : St B C G n v xs f0 f1 w T X) (z : Int) (h0 : 0 ≤ z) (h1 : z ≤ 1114111) (hZ : w.cell? ⟨6, 15, none⟩ = some (.int .u8 4)) (h9 : 9 ≤ B) :
    Calls Tryz.prog 84 #[.int .i32 z] X fun e X' => e = .returned (.string ⟨(cod z.toNat).toArray⟩) ∧ St B C G n v xs f0 f1 w T X' := by
  have hz : z = (z.toNat : Int) := by omega
  have hb := isb_lt h.bd
  have hc := code_any z.toNat X (by omega) ((h.bel.cell (p := ⟨6, 15, none⟩) (show 6 < B by omega)).trans hZ) (by omega)
  rw [← hz] at hc
  exact hc.mono fun _ _ ⟨e1, e2⟩ => ⟨e1, isb_below h.bd e2, ownsRow_below h.row e2, h.bel.trans (e2.mono (Nat.le_of_lt hb)), (e2.block G (Array.getElem?_eq_some_iff.1 h.g).1).trans h.g⟩
theorem prI_len (g : Rg) : (prI g).length ≤ 17 := by
  unfold prI
  have h1 := wdt_bd g.1.toNat
  have h2 := wdt_bd g.2.toNat
  rw [List.length_append, cod_len]
  split
  · simp; omega
  · rw [List.length_cons, cod_len]; omega
theorem prR_len : ∀ l : List Rg, (prR l).length ≤ 18 * l.length
  | [] => by simp [prR]
  | g :: l => by
    have h1 := prI_len g
    have h2 := prR_len l
    show (prI g ++ prR l).length + 1 ≤ _
    rw [List.length_append, List.length_cons]
    omega
theorem prt_len (l : List Rg) : (prt l).length ≤ 18 * l.length := by
  cases l with
  | nil => simp [prt, prA]
  | cons g l =>
    rw [prt_cons, List.length_append, List.length_cons]
    have h1 := prI_len g
    have h2 := prR_len l
    omega

set_option maxHeartbeats 2000000 in
set_option maxRecDepth 100000 in
theorem print_any (ao : Option Addr) (ac : Nat) (l : List Rg) (w : World) (ha : RdR w ao l) (hl : l.length ≤ 40000) (hZ : w.cell? ⟨6, 15, none⟩ = some (.int .u8 4)) (h9 : 9 ≤ w.heap.size) :
    Calls Tryz.prog 54 #[.slice ao l.length ac] w fun e w' => e = .returned (.string ⟨(prt (nrm l)).toArray⟩) ∧ Below w.heap.size w w' := by
  obtain ⟨wa, hwa⟩ : ∃ wa, wa = w.alloc (.cells #[.pointer none, .slice none 0 0] 96) := ⟨_, rfl⟩
  have HBa := hid (show Below w.heap.size w wa by rw [hwa]; exact (Below.refl _ _).alloc (Nat.le_refl _) _)
  have HBD := hid (show Lib.IsBuilderF 96 5 w.heap.size w.heap.size (Lib.byteCells []) wa by rw [hwa]; exact .inl ⟨Nat.le_refl _, .slice none 0 0, World.alloc_heap_new w _, World.ownsRowF_of (World.ownsRow_nil _ _ _ _), by simp [Value.ownBlock]⟩)
  have HN := hid (norm_any ao ac l wa (ha.below HBa.out) (by omega))
  have hnl := nrm_len l
  have HNF := hid (nrm_nf l)
  have HW := hid hwa
  have HZ := hid hZ
  clear hwa ha hZ
  go_enter Tryz.func54, Tryz.ntmps54
  go_wp2_with fail
  rw [← HW.out]
  refine HN.out.mono ?_
  rintro e w1 ⟨v1, rfl, o1, hb1⟩
  have HB1 := hid (HBa.out.trans (hb1.mono HBa.out.size))
  have HBD1 := hid (isb_below HBD.out hb1)
  have HO1 := hid o1
  have hs1 := HB1.out.size
  obtain ⟨C, hC⟩ : ∃ C, C = wa.heap.size := ⟨_, rfl⟩
  rw [← hC] at HO1
  obtain ⟨no, nc, hv1, hr1⟩ := rdr_row o1
  subst hv1
  obtain ⟨s, hsd⟩ : ∃ s, s = nrm l := ⟨_, rfl⟩
  rw [← hsd] at HO1 HNF hnl
  have HSD := hid hsd
  obtain ⟨B, hB⟩ : ∃ B, B = w.heap.size := ⟨_, rfl⟩
  have hB9 : 9 ≤ B := by omega
  rw [← hB] at HB1 HBD1
  rw [← hsd]
  have HBE := hid hB
  clear o1 hb1 hr1 HN HW HBa HBD hC hsd
  go_wp2_with fail
  rw [← HBE.out]
  clear hB
  go_loopw [9] (fun i wr => ∃ k : Nat, i = .int .i64 (k : Int) ∧ k ≤ s.length ∧ Hid (Lib.IsBuilderF 96 5 B B (Lib.byteCells (prt (s.take k))) wr) ∧ Hid (wr.ownsRow C 84 2 (.slice no s.length nc) s.length (rgcs s)) ∧ Hid (Below B w wr)) (fun i _ => s.length - (intOf i).toNat)
  case atStart => exact ⟨0, rfl, by omega, HBD1, HO1, HB1⟩
  case round =>
    obtain ⟨k, rfl, hk, HD, HO, HB⟩ := hrel
    by_cases hlt : k < s.length
    · obtain ⟨so, sc, hv2, hrd⟩ := rdr_row HO.out
      cases hv2
      obtain ⟨a, rfl, ha, a0, a1⟩ := hrd k s[k] (List.getElem?_eq_getElem hlt)
      obtain ⟨g0, g1, g2⟩ := nf_at HNF.out (List.getElem?_eq_getElem hlt)
      unfold top at g2
      have HT := hid (show prt (s.take (k + 1)) = prt (s.take k) ++ ((if prt (s.take k) = [] then [] else [32]) ++ prI s[k]) by rw [List.take_succ_eq_append_getElem hlt, prt_snoc])
      have hpl := prt_len (s.take k)
      rw [List.length_take] at hpl
      obtain ⟨T, hTd⟩ : ∃ T, T = prt (s.take k) := ⟨_, rfl⟩
      have HE := hid (show T = [] ↔ k = 0 by
        rw [hTd, prt_nil_iff, List.take_eq_nil_iff]
        constructor
        · rintro (h | h)
          · exact h
          · rw [h] at hlt; simp at hlt
        · exact fun h => .inl h)
      rw [← hTd] at HD HT hpl
      have HPI := hid (show prI s[k] = cod s[k].1.toNat ++ if s[k].1 = s[k].2 then [] else 45 :: cod s[k].2.toNat from rfl)
      generalize s[k].1 = f0 at *
      generalize s[k].2 = f1 at *
      have hTl : T.length ≤ 1000000 := by omega
      have HST := hid (show St B C wr.heap.size s.length (.slice (some a) s.length nc) (rgcs s) f0 f1 w T (wr.alloc (.cells #[.int .i32 f0, .int .i32 f1] 84)) from
        { bd := isb_below HD.out ((Below.refl _ _).alloc (Nat.le_refl _) _), row := HO.out.alloc _, bel := HB.out.alloc (by have := isb_lt HD.out; omega) _, g := World.alloc_heap_new wr _ })
      clear hTd
      by_cases hk0 : k = 0
      · have HT0 := hid (HE.out.2 hk0)
        have HTI := hid (show (if T = [] then ([] : List UInt8) else [32]) = [] by rw [if_pos HT0.out])
        have tk : ¬ (0 : Int) < (k : Int) := by omega
        clear hk0
        have HC1 := hid (HST.out.code f0 (by omega) (by omega) HZ.out hB9)
        go_wp2_with fail
        refine HC1.out.mono ?_
        rintro e w2 ⟨rfl, st2⟩
        have HS2 := hid (st2.str (cod f0.toNat) (by first | omega | (simp; omega)) (by rw [cod_len]; have := wdt_bd f0.toNat; omega))
        have hb2 := isb_lt st2.bd
        clear st2 HC1 HST
        go_wp2_with fail
        refine HS2.out.mono ?_
        rintro e w3 ⟨⟨v3, rfl⟩, st3⟩
        have x0 : w3.cell? ⟨wr.heap.size, 0, none⟩ = some (.int .i32 f0) := by rw [cell_of_row w3 wr.heap.size 0 _ 84 (0, 0) st3.g]; rfl
        have x1 : w3.cell? ⟨wr.heap.size, 1, none⟩ = some (.int .i32 f1) := by rw [cell_of_row w3 wr.heap.size 1 _ 84 (0, 0) st3.g]; rfl
        have HS3 := hid st3
        clear st3 HS2
        by_cases hne : f0 = f1
        · have t1 : (f1 != f0) = false := by rw [hne]; simp
          have HTF := hid (show prt (s.take (k + 1)) = T ++ cod f0.toNat by rw [HT.out, HPI.out, if_pos hne, HTI.out]; simp)
          clear hne
          go_wp2
          go_roundw
          case rel => exact ⟨k + 1, by go_num, by omega, by rw [HTF.out]; exact HS3.out.bd, HS3.out.row, HS3.out.bel⟩
          case measure => simp [intOf]; omega
        · have t1 : (f1 != f0) = true := bne_iff_ne.2 (fun h => hne h.symm)
          have HTF := hid (show prt (s.take (k + 1)) = ((T ++ cod f0.toNat) ++ [45]) ++ cod f1.toNat by rw [HT.out, HPI.out, if_neg hne, HTI.out]; simp)
          have HY := hid (HS3.out.byte 45 (by rw [List.length_append, cod_len]; have := wdt_bd f0.toNat; simp; omega))
          clear hne
          go_wp2_with fail
          refine HY.out.mono ?_
          rintro e w4 ⟨⟨v4, rfl⟩, st4⟩
          have y1 : w4.cell? ⟨wr.heap.size, 1, none⟩ = some (.int .i32 f1) := by rw [cell_of_row w4 wr.heap.size 1 _ 84 (0, 0) st4.g]; rfl
          have HC4 := hid (st4.code f1 (by omega) (by omega) HZ.out hB9)
          clear st4 HY HS3 x0 x1
          go_wp2_with fail
          refine HC4.out.mono ?_
          rintro e w5 ⟨rfl, st5⟩
          have HS5 := hid (st5.str (cod f1.toNat) (by rw [List.length_append, List.length_append, cod_len]; have := wdt_bd f0.toNat; simp; omega) (by rw [cod_len]; have := wdt_bd f1.toNat; omega))
          clear st5 HC4
          go_wp2_with fail
          refine HS5.out.mono ?_
          rintro e w6 ⟨⟨v6, rfl⟩, st6⟩
          have HS6 := hid st6
          clear st6 HS5
          go_wp2
          go_roundw
          case rel => exact ⟨k + 1, by go_num, by omega, by rw [HTF.out]; exact HS6.out.bd, HS6.out.row, HS6.out.bel⟩
          case measure => simp [intOf]; omega
      · have HTI := hid (show (if T = [] then ([] : List UInt8) else [32]) = [32] by rw [if_neg (fun h => hk0 (HE.out.1 h))])
        have tk : (0 : Int) < (k : Int) := by omega
        have HY0 := hid (HST.out.byte 32 (by omega))
        clear hk0 HST
        go_wp2_with fail
        refine HY0.out.mono ?_
        rintro e w0 ⟨⟨v0, rfl⟩, st0⟩
        have z0 : w0.cell? ⟨wr.heap.size, 0, none⟩ = some (.int .i32 f0) := by rw [cell_of_row w0 wr.heap.size 0 _ 84 (0, 0) st0.g]; rfl
        have HS0 := hid st0
        clear st0 HY0
        have HC1 := hid (HS0.out.code f0 (by omega) (by omega) HZ.out hB9)
        go_wp2_with fail
        refine HC1.out.mono ?_
        rintro e w2 ⟨rfl, st2⟩
        have HS2 := hid (st2.str (cod f0.toNat) (by first | omega | (simp; omega)) (by rw [cod_len]; have := wdt_bd f0.toNat; omega))
        have hb2 := isb_lt st2.bd
        clear st2 HC1 HS0
        go_wp2_with fail
        refine HS2.out.mono ?_
        rintro e w3 ⟨⟨v3, rfl⟩, st3⟩
        have x0 : w3.cell? ⟨wr.heap.size, 0, none⟩ = some (.int .i32 f0) := by rw [cell_of_row w3 wr.heap.size 0 _ 84 (0, 0) st3.g]; rfl
        have x1 : w3.cell? ⟨wr.heap.size, 1, none⟩ = some (.int .i32 f1) := by rw [cell_of_row w3 wr.heap.size 1 _ 84 (0, 0) st3.g]; rfl
        have HS3 := hid st3
        clear st3 HS2
        by_cases hne : f0 = f1
        · have t1 : (f1 != f0) = false := by rw [hne]; simp
          have HTF := hid (show prt (s.take (k + 1)) = (T ++ [32]) ++ cod f0.toNat by rw [HT.out, HPI.out, if_pos hne, HTI.out]; simp)
          clear hne
          go_wp2
          go_roundw
          case rel => exact ⟨k + 1, by go_num, by omega, by rw [HTF.out]; exact HS3.out.bd, HS3.out.row, HS3.out.bel⟩
          case measure => simp [intOf]; omega
        · have t1 : (f1 != f0) = true := bne_iff_ne.2 (fun h => hne h.symm)
          have HTF := hid (show prt (s.take (k + 1)) = (((T ++ [32]) ++ cod f0.toNat) ++ [45]) ++ cod f1.toNat by rw [HT.out, HPI.out, if_neg hne, HTI.out]; simp)
          have HY := hid (HS3.out.byte 45 (by rw [List.length_append, cod_len]; have := wdt_bd f0.toNat; simp; omega))
          clear hne
          go_wp2_with fail
          refine HY.out.mono ?_
          rintro e w4 ⟨⟨v4, rfl⟩, st4⟩
          have y1 : w4.cell? ⟨wr.heap.size, 1, none⟩ = some (.int .i32 f1) := by rw [cell_of_row w4 wr.heap.size 1 _ 84 (0, 0) st4.g]; rfl
          have HC4 := hid (st4.code f1 (by omega) (by omega) HZ.out hB9)
          clear st4 HY HS3 x0 x1
          go_wp2_with fail
          refine HC4.out.mono ?_
          rintro e w5 ⟨rfl, st5⟩
          have HS5 := hid (st5.str (cod f1.toNat) (by rw [List.length_append, List.length_append, cod_len]; have := wdt_bd f0.toNat; simp; omega) (by rw [cod_len]; have := wdt_bd f1.toNat; omega))
          clear st5 HC4
          go_wp2_with fail
          refine HS5.out.mono ?_
          rintro e w6 ⟨⟨v6, rfl⟩, st6⟩
          have HS6 := hid st6
          clear st6 HS5
          go_wp2
          go_roundw
          case rel => exact ⟨k + 1, by go_num, by omega, by rw [HTF.out]; exact HS6.out.bd, HS6.out.row, HS6.out.bel⟩
          case measure => simp [intOf]; omega
    · have hke : k = s.length := by omega
      have HTF := hid (show prt (s.take k) = prt s by rw [List.take_of_length_le (by omega)])
      have tk : ¬ (k : Int) < (s.length : Int) := by omega
      have hlB := isb_lt HD.out
      have HSt := hid (string_any B B _ wr HD.out (by omega))
      clear hke
      go_wp2_with fail
      refine HSt.out.mono ?_
      rintro e w9 ⟨rfl, hb9, _⟩
      have HB9 := hid (HB.out.trans hb9)
      clear hb9 HSt
      go_wp2
      go_ret
      exact ⟨by rw [HTF.out, HSD.out]; rfl, by rw [← HBE.out]; exact HB9.out⟩
end Go.Proofs.YtohhokjlgihbgaaGreatDoor
/- The contract of the document's Print. -/
namespace Go.Proofs.YtohhokjlgihbgaaGreatDoor
open Go.RowKit

theorem Tryz.info5 : (Tryz.prog.info? 5).map (fun i => (i.zero, i.size, i.bytes)) = some (some (.int .u8 0), 1, 1) := by kernel_rfl
def u8s (l : List UInt8) : List Value := l.map fun b => Value.int .u8 (b.toNat : Int)
theorem u8s_app (a b : List UInt8) : u8s (a ++ b) = u8s a ++ u8s b := by simp [u8s]
theorem u8s_len (a : List UInt8) : (u8s a).length = a.length := by simp [u8s]
theorem strCells_list (l : List UInt8) : Lib.strCells ⟨l.toArray⟩ = u8s l := by simp [Lib.strCells, u8s]
theorem conv_row (w : World) (B : Nat) (v : Value) (l : List UInt8) (h : w.ownsRow B 5 1 v l.length (u8s l)) :
    (convert 94 9 v).run Tryz.prog w = .ok (.string ⟨l.toArray⟩) w := by
  rcases h.2 with ⟨rfl, h0⟩ | ⟨g, cap, cur, rfl, _⟩
  · have : l = [] := List.eq_nil_of_length_eq_zero h0
    subst this
    exact Lib.run_convert_nil_bytes w 94 9 5 0 Tryz.underlying94 Tryz.underlying5 Tryz.underlying9
  · exact run_convert_bytes_back w 94 9 5 ⟨g, 0, none⟩ cap l Tryz.underlying94 Tryz.underlying5 Tryz.underlying9 (fun j hj => h.cells (g := g) rfl j _ (by simp [u8s, hj]))
theorem row_str {w : World} {C : Nat} {v : Value} {T u : List UInt8} {s : ByteArray} (hs : s = ⟨u.toArray⟩) (h : w.ownsRow C 5 1 v (T.length + s.size) (u8s T ++ Lib.strCells s)) : w.ownsRow C 5 1 v (T ++ u).length (u8s (T ++ u)) := by
  subst hs
  rw [strCells_list] at h
  have e : (⟨u.toArray⟩ : ByteArray).size = u.length := by show u.toArray.size = _; simp
  rw [e] at h
  rw [u8s_app, List.length_append]
  exact h
theorem rhex_eq (z : Int) (X : List UInt8) (w : World) (h0 : 0 ≤ z) (h1 : z ≤ 1114111) (hX : X = hex z.toNat) :
    Calls Tryz.prog 105 #[.int .i32 z] w fun e w' => e = .returned (.string ⟨X.toArray⟩) ∧ w' = w := by
  have h := rhex_any z.toNat w (by omega)
  rw [show ((z.toNat : Nat) : Int) = z by omega, ← hX] at h
  exact h
set_option maxHeartbeats 2000000 in
set_option maxRecDepth 100000 in
theorem rprint_any (ao : Option Addr) (ac : Nat) (l : List Rg) (w : World) (ha : RdR w ao l) (hl : l.length ≤ 40000) :
    Calls Tryz.prog 78 #[.slice ao l.length ac] w fun e w' => e = .returned (.string ⟨(prt (nrm l)).toArray⟩) ∧ Below w.heap.size w w' := by
  obtain ⟨i0, hi, hz0, hz1, hz2⟩ := info_parts Tryz.info5
  have HN := hid (rnorm_any ao ac l w ha (by omega))
  have hnl := nrm_len l
  have HNF := hid (nrm_nf l)
  clear ha
  go_enter Tryz.func78, Tryz.ntmps78
  go_wp2_with fail
  refine HN.out.mono ?_
  rintro e w1 ⟨v1, rfl, o1, hb1⟩
  have HB1 := hid hb1
  have hs1 := hb1.size
  obtain ⟨no, nc, hv1, hr1⟩ := rdr_row o1
  subst hv1
  obtain ⟨s, hsd⟩ : ∃ s, s = nrm l := ⟨_, rfl⟩
  rw [← hsd] at HNF hnl hr1
  have HSD := hid hsd
  rw [← hsd]
  have HR1 := hid hr1
  clear o1 hb1 hr1 HN hsd
  go_wp2_with fail
  go_loopw [4, 5] (fun v i wr => ∃ k : Nat, i = .int .i64 (k : Int) ∧ k ≤ s.length ∧ Hid (wr.ownsRow w1.heap.size 5 1 v (prt (s.take k)).length (u8s (prt (s.take k)))) ∧ Hid (Below w1.heap.size w1 wr)) (fun _ i _ => s.length - (intOf i).toNat)
  case atStart => exact ⟨0, rfl, by omega, World.ownsRow_nil _ _ _ _, Below.refl _ _⟩
  case round =>
    obtain ⟨k, rfl, hk, HO, HB⟩ := hrel
    have hsr := HB.out.size
    by_cases hlt : k < s.length
    · obtain ⟨a, rfl, ha, a0, a1⟩ := (HR1.out.below HB.out) k s[k] (List.getElem?_eq_getElem hlt)
      obtain ⟨g0, g1, g2⟩ := nf_at HNF.out (List.getElem?_eq_getElem hlt)
      unfold top at g2
      have HT := hid (show prt (s.take (k + 1)) = prt (s.take k) ++ ((if prt (s.take k) = [] then [] else [32]) ++ prI s[k]) by rw [List.take_succ_eq_append_getElem hlt, prt_snoc])
      have hpl := prt_len (s.take k)
      rw [List.length_take] at hpl
      obtain ⟨T, hTd⟩ : ∃ T, T = prt (s.take k) := ⟨_, rfl⟩
      have HE := hid (show T = [] ↔ k = 0 by
        rw [hTd, prt_nil_iff, List.take_eq_nil_iff]
        constructor
        · rintro (h | h)
          · exact h
          · rw [h] at hlt; simp at hlt
        · exact fun h => .inl h)
      rw [← hTd] at HO HT hpl
      have HPI := hid (show prI s[k] = cod s[k].1.toNat ++ if s[k].1 = s[k].2 then [] else 45 :: cod s[k].2.toNat from rfl)
      have HRD := hid (show ∀ W, Below w1.heap.size w1 W → W.cell? (a.add (k * 2)) = some (.int .i32 s[k].1) ∧ W.cell? ⟨(a.add (k * 2)).block, (a.add (k * 2)).off + 1, none⟩ = some (.int .i32 s[k].2) from fun W hW => by
        obtain ⟨a', e', _, b0, b1⟩ := (HR1.out.below hW) k s[k] (List.getElem?_eq_getElem hlt)
        cases e'
        exact ⟨b0, b1⟩)
      generalize s[k].1 = f0 at *
      generalize s[k].2 = f1 at *
      have hTl : T.length ≤ 1000000 := by omega
      obtain ⟨X0, hX0⟩ : ∃ X0, X0 = hex f0.toNat := ⟨_, rfl⟩
      obtain ⟨X1, hX1⟩ : ∃ X1, X1 = hex f1.toNat := ⟨_, rfl⟩
      have HH0 := hid (fun W => rhex_eq f0 X0 W (by omega) (by omega) hX0)
      have HH1 := hid (fun W => rhex_eq f1 X1 W (by omega) (by omega) hX1)
      have s0 : (⟨X0.toArray⟩ : ByteArray).size ≤ 6 := by show X0.toArray.size ≤ 6; rw [List.size_toArray, hX0]; unfold hex; rw [hxL_len]; exact (wdt_bd _).2
      have s1 : (⟨X1.toArray⟩ : ByteArray).size ≤ 6 := by show X1.toArray.size ≤ 6; rw [List.size_toArray, hX1]; unfold hex; rw [hxL_len]; exact (wdt_bd _).2
      have lx0 : X0.length ≤ 6 := by rw [hX0]; unfold hex; rw [hxL_len]; exact (wdt_bd _).2
      have lx1 : X1.length ≤ 6 := by rw [hX1]; unfold hex; rw [hxL_len]; exact (wdt_bd _).2
      have HC0 := hid (show (⟨#[85, 43]⟩ : ByteArray) ++ ⟨X0.toArray⟩ = ⟨(cod f0.toNat).toArray⟩ by rw [hX0]; apply ByteArray.ext; simp [cod])
      have HC1 := hid (show (⟨#[45, 85, 43]⟩ : ByteArray) ++ ⟨X1.toArray⟩ = ⟨(45 :: cod f1.toNat).toArray⟩ by rw [hX1]; apply ByteArray.ext; simp [cod])
      have z0 : ((⟨#[85, 43]⟩ : ByteArray) ++ ⟨X0.toArray⟩).size ≤ 8 := by rw [HC0.out]; show (cod f0.toNat).toArray.size ≤ 8; rw [List.size_toArray, cod_len]; have := wdt_bd f0.toNat; omega
      have z1 : ((⟨#[45, 85, 43]⟩ : ByteArray) ++ ⟨X1.toArray⟩).size ≤ 9 := by rw [HC1.out]; show (45 :: cod f1.toNat).toArray.size ≤ 9; rw [List.size_toArray, List.length_cons, cod_len]; have := wdt_bd f1.toNat; omega
      have hcl0 : (cod f0.toNat).length ≤ 8 := by rw [cod_len]; have := wdt_bd f0.toNat; omega
      clear hTd hX0 hX1
      by_cases hk0 : k = 0
      · have HTI := hid (show (if T = [] then ([] : List UInt8) else [32]) = [] by rw [if_pos (HE.out.2 hk0)])
        have tk : ¬ (0 : Int) < (k : Int) := by omega
        clear hk0
        obtain ⟨c0, c1⟩ := HRD.out wr HB.out
        have hsz2 := HB.out.size
        go_wp2_with fail
        refine (HH0.out _).mono ?_
        rintro e w' ⟨rfl, hw⟩
        obtain rfl := hw.symm
        go_wp2_with (at_builtin; refine Lib.wpList_append_own_string _ rfl _ _ 94 9 rfl w1.heap.size 5 i0 Tryz.underlying94 Tryz.underlying9 hi hz0 hz1 hz2 _ T.length (u8s T) rfl HO.out _ rfl (by unfold maxLen; (try simp only [List.length_append, List.length_cons, List.length_nil]); omega) (by (try simp only [List.length_append, List.length_cons, List.length_nil]); omega) (by omega) ?_; intro v2 w2 o2 gr2 _)
        have HO2 := hid (row_str HC0.out o2)
        have HB2 := hid (HB.out.grown gr2 (by omega) (fun j hj => (HO.out.lt j hj).1))
        have hs2 := HB2.out.size
        obtain ⟨d0, d1⟩ := HRD.out w2 HB2.out
        clear o2 gr2
        go_wp2_with fail
        by_cases hne : f0 = f1
        · have t1 : (f1 != f0) = false := by rw [hne]; simp
          have HTF := hid (show prt (s.take (k + 1)) = T ++ cod f0.toNat by rw [HT.out, HPI.out, if_pos hne, HTI.out]; simp)
          clear hne
          go_region
          go_wp2
          go_roundw
          case rel => exact ⟨k + 1, by go_num, by omega, by rw [HTF.out]; exact HO2.out.drew, HB2.out.drew⟩
          case measure => simp [intOf]; omega
        · have t1 : (f1 != f0) = true := bne_iff_ne.2 (fun h => hne h.symm)
          have HTF := hid (show prt (s.take (k + 1)) = (T ++ cod f0.toNat) ++ (45 :: cod f1.toNat) by rw [HT.out, HPI.out, if_neg hne, HTI.out]; simp)
          obtain ⟨T2, hT2⟩ : ∃ T2, T2 = T ++ cod f0.toNat := ⟨_, rfl⟩
          have hl2 : T2.length ≤ 1001000 := by rw [hT2, List.length_append]; omega
          rw [← hT2] at HO2 HTF
          clear hT2
          clear hne
          go_region
          go_wp2_with fail
          refine (HH1.out _).mono ?_
          rintro e w' ⟨rfl, hw⟩
          obtain rfl := hw.symm
          go_wp2_with (at_builtin; refine Lib.wpList_append_own_string _ rfl _ _ 94 9 rfl w1.heap.size 5 i0 Tryz.underlying94 Tryz.underlying9 hi hz0 hz1 hz2 _ T2.length (u8s T2) rfl HO2.out.drew _ rfl (by unfold maxLen; omega) (by omega) (by simp; omega) ?_; intro v3 w3 o3 gr3 _)
          have HO3 := hid (row_str HC1.out o3)
          have HB3 := hid (HB2.out.drew.grown gr3 (by simpa using hs2) (fun j hj => (HO2.out.drew.lt j hj).1))
          clear o3 gr3
          go_wp2
          go_roundw
          case rel => exact ⟨k + 1, by go_num, by omega, by rw [HTF.out]; exact HO3.out, HB3.out⟩
          case measure => simp [intOf]; omega
      · have HTI := hid (show (if T = [] then ([] : List UInt8) else [32]) = [32] by rw [if_neg (fun h => hk0 (HE.out.1 h))])
        have tk : (0 : Int) < (k : Int) := by omega
        clear hk0
        obtain ⟨T1, hT1⟩ : ∃ T1, T1 = T ++ [32] := ⟨_, rfl⟩
        have hT1l : T1.length ≤ 1000001 := by rw [hT1]; simp; omega
        have HT1 := hid hT1
        clear hT1
        go_wp2_with (at_builtin; refine wpList_append_own _ rfl _ _ 94 rfl w1.heap.size 5 i0 (.int .u8 0) 1 1 Tryz.underlying94 hi hz0 hz1 hz2 rfl (by decide) _ T.length (u8s T) rfl (HO.out.alloc _) ⟨wr.heap.size, 0, none⟩ 1 1 [.int .u8 32] rfl rfl (cell_one_new _ _ _) (by simp [Value.oneCell']) (by unfold maxLen; omega) (by omega) (by simp; omega) ?_; intro v0 w0 o0 gr0 _; have HO0 := hid (show w0.ownsRow w1.heap.size 5 1 v0 T1.length (u8s T1) by rw [HT1.out, u8s_app, List.length_append]; exact o0); have HBq := hid ((HB.out.alloc hsr (.cells #[.int .u8 32] 5)).grown gr0 (by simp; omega) (fun j hj => (HO.out.lt j hj).1)); obtain ⟨c0, c1⟩ := HRD.out w0 HBq.out; clear o0 gr0)
        have hsz2 := HBq.out.size
        refine (HH0.out _).mono ?_
        rintro e w' ⟨rfl, hw⟩
        obtain rfl := hw.symm
        go_wp2_with (at_builtin; refine Lib.wpList_append_own_string _ rfl _ _ 94 9 rfl w1.heap.size 5 i0 Tryz.underlying94 Tryz.underlying9 hi hz0 hz1 hz2 _ T1.length (u8s T1) rfl HO0.out _ rfl (by unfold maxLen; (try simp only [List.length_append, List.length_cons, List.length_nil]); omega) (by (try simp only [List.length_append, List.length_cons, List.length_nil]); omega) (by omega) ?_; intro v2 w2 o2 gr2 _)
        have HO2 := hid (row_str HC0.out o2)
        have HB2 := hid (HBq.out.grown gr2 (by omega) (fun j hj => (HO0.out.lt j hj).1))
        have hs2 := HB2.out.size
        obtain ⟨d0, d1⟩ := HRD.out w2 HB2.out
        clear o2 gr2
        go_wp2_with fail
        by_cases hne : f0 = f1
        · have t1 : (f1 != f0) = false := by rw [hne]; simp
          have HTF := hid (show prt (s.take (k + 1)) = T1 ++ cod f0.toNat by rw [HT.out, HPI.out, if_pos hne, HTI.out]; rw [HT1.out]; simp)
          clear hne
          go_region
          go_wp2
          go_roundw
          case rel => exact ⟨k + 1, by go_num, by omega, by rw [HTF.out]; exact HO2.out.drew, HB2.out.drew⟩
          case measure => simp [intOf]; omega
        · have t1 : (f1 != f0) = true := bne_iff_ne.2 (fun h => hne h.symm)
          have HTF := hid (show prt (s.take (k + 1)) = (T1 ++ cod f0.toNat) ++ (45 :: cod f1.toNat) by rw [HT.out, HPI.out, if_neg hne, HTI.out]; rw [HT1.out]; simp)
          obtain ⟨T2, hT2⟩ : ∃ T2, T2 = T1 ++ cod f0.toNat := ⟨_, rfl⟩
          have hl2 : T2.length ≤ 1001000 := by rw [hT2, List.length_append]; omega
          rw [← hT2] at HO2 HTF
          clear hT2
          clear hne
          go_region
          go_wp2_with fail
          refine (HH1.out _).mono ?_
          rintro e w' ⟨rfl, hw⟩
          obtain rfl := hw.symm
          go_wp2_with (at_builtin; refine Lib.wpList_append_own_string _ rfl _ _ 94 9 rfl w1.heap.size 5 i0 Tryz.underlying94 Tryz.underlying9 hi hz0 hz1 hz2 _ T2.length (u8s T2) rfl HO2.out.drew _ rfl (by unfold maxLen; omega) (by omega) (by simp; omega) ?_; intro v3 w3 o3 gr3 _)
          have HO3 := hid (row_str HC1.out o3)
          have HB3 := hid (HB2.out.drew.grown gr3 (by simpa using hs2) (fun j hj => (HO2.out.drew.lt j hj).1))
          clear o3 gr3
          go_wp2
          go_roundw
          case rel => exact ⟨k + 1, by go_num, by omega, by rw [HTF.out]; exact HO3.out, HB3.out⟩
          case measure => simp [intOf]; omega
    · have HTF := hid (show prt (s.take k) = prt s by rw [List.take_of_length_le (by omega)])
      have tk : ¬ (k : Int) < (s.length : Int) := by omega
      have hcv := conv_row wr w1.heap.size u4 (prt (s.take k)) HO.out
      rw [HTF.out] at hcv
      obtain ⟨P, hP⟩ : ∃ P, P = prt s := ⟨_, rfl⟩
      rw [← hP] at hcv
      have HP := hid hP
      clear hP
      go_wp2
      go_ret
      exact ⟨by rw [HP.out, HSD.out]; rfl, HB1.out.trans (HB.out.mono hs1)⟩
end Go.Proofs.YtohhokjlgihbgaaGreatDoor
