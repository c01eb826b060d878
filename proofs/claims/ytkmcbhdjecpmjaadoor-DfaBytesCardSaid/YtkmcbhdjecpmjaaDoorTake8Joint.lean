/- The contract of a reader's number (package dfa). -/
import Derived.Test.YtkmcbhdjecpmjaaDoorRdM
namespace Go.Proofs.YtkmcbhdjecpmjaaDoor
open Go.RowKit

set_option maxHeartbeats 4000000 in
set_option maxRecDepth 100000 in
theorem number_any (X : Nat) (bo : Option Addr) (bl bc : Nat) (b : List Nat) (bad : Bool) (most : Nat) (w : World) (hb : RdU w bo b) (h8 : ∀ c ∈ b, c < 256) (hbl : bl = b.length) (hc : bl ≤ bc) (hl : bl ≤ 1000000) (hx : w.heap[X]? = some (.cells #[.slice bo bl bc, .bool bad] 117)) (hm : most ≤ 16383) :
    Calls Tryd.prog 78 #[.pointer (some ⟨X, 0, none⟩), .int .i64 (most : Int)] w fun e w' => NumQ X bo b most w e w' := by
  have x0 : w.cell? ⟨X, 0, none⟩ = some (.slice bo bl bc) := by rw [cell_of_row w X 0 _ 117 (0, 0) hx]; rfl
  have x1 : w.cell? ⟨X, 1, none⟩ = some (.bool bad) := by rw [cell_of_row w X 1 _ 117 (0, 0) hx]; rfl
  have z0 := frozen_of_row w X 0 _ 117 hx
  have z1 := frozen_of_row w X 1 _ 117 hx
  have HR := hid hb
  have H8 := hid h8
  have HBL := hid hbl
  clear hx hb h8 hbl
  go_enter Tryd.func78, Tryd.ntmps78
  go_wp2
  go_loopw [5, 6] (fun x y wr => wr = w ∧ ((x = .int .i64 0 ∧ y = .int .i64 0) ∨ (∃ c : Nat, x = .int .i64 ((c : Int) % 128) ∧ y = .int .i64 1 ∧ Hid (b[0]? = some c) ∧ 128 ≤ c) ∨ (y = .int .i64 2 ∧ Hid (NoN most b)))) (fun _ y _ => 2 - (intOf y).toNat)
  case atStart => exact ⟨rfl, .inl ⟨rfl, rfl⟩⟩
  case round =>
    obtain ⟨hw, hrel⟩ := hrel
    obtain rfl := hw.symm
    rcases hrel with ⟨rfl, rfl⟩ | ⟨c, rfl, rfl, HC, hc1⟩ | ⟨rfl, HN⟩
    · by_cases h0 : bl = 0
      · have HN := hid (show NoN most b by have hn : b = [] := List.eq_nil_of_length_eq_zero (by have := HBL.out; omega); rw [hn]; exact noN_nil most)
        have i0 : ((0 : Int) == (bl : Int)) = true := by rw [h0]; rfl
        go_wp2
        go_ret
        exact .inr ⟨HN.out, rfl, rfl⟩
      · have i0 : ((0 : Int) == (bl : Int)) = false := beq_eq_false_iff_ne.2 (by omega)
        have hb0 : 0 < b.length := by have := HBL.out; omega
        obtain ⟨c, hc0⟩ : ∃ c, b[0]? = some c := ⟨_, List.getElem?_eq_getElem hb0⟩
        obtain ⟨a, rfl, ha, a0⟩ := HR.out 0 c hc0
        have h256 := H8.out c (List.mem_of_getElem? hc0)
        rw [add_nil] at a0
        have HC0 := hid hc0
        have i1 : (0 : Int) < (bl : Int) := by omega
        clear hc0 hb0 ha
        obtain ⟨r, hbr⟩ : ∃ r, b = c :: r := by
          cases b with
          | nil => simp at HC0; cases HC0.out
          | cons d r => have := HC0.out; simp at this; exact ⟨r, by rw [this]⟩
        have HBR := hid hbr
        have HRL := hid (show r.length = bl - 1 by have := HBL.out; rw [hbr] at this; simp at this; omega)
        clear hbr
        by_cases hcl : c < 128
        · have hcl' : (c : Int) < 128 := by omega
          have eo : bits .or .i64 0 ((c : Int) % 128) = (c : Int) := by
            have h := i64_or_nat 0 c (by omega) (by omega)
            rw [show (c : Int) % 128 = (c : Int) by omega]
            simpa using h
          by_cases hmc : most < c
          · have hmc' : (most : Int) < (c : Int) := by omega
            have HN := hid (show NoN most b by rw [HBR.out]; exact noN_one hcl hmc)
            go_wp2
            go_ret
            exact .inr ⟨HN.out, rfl, rfl⟩
          · have hmc' : ¬ (most : Int) < (c : Int) := by omega
            have hmc'' : (c : Int) ≤ (most : Int) := by omega
            have HV := hid (show b = vn c ++ r by rw [HBR.out, vn_last c (by omega)]; rfl)
            have HLF := hid (show ∀ W, RdU W (some a) b → RdU W (if bc = 1 then some a else some (a.add 1)) r from fun W h => by
              have h1 := left_rd (k := 1) h (by have := HBL.out; omega) (show b.length ≤ bc by rw [← HBL.out]; exact hc)
              rw [show b.drop 1 = r by rw [HBR.out]; rfl] at h1
              exact h1)
            by_cases hb1 : bc = 1
            · have HLF2 := hid (show ∀ W, RdU W (some a) b → RdU W (some a) r from fun W h => by have h1 := HLF.out W h; rw [if_pos hb1] at h1; exact h1)
              go_wp2
              go_ret
              exact .inl ⟨c, r, some a, bl - 1, _, HV.out, by omega, rfl, rfl, HRL.out.symm, by omega, HLF2.out⟩
            · have HLF2 := hid (show ∀ W, RdU W (some a) b → RdU W (some ⟨a.block, a.off + 1, none⟩) r from fun W h => by have h1 := HLF.out W h; rw [if_neg hb1, add_more, add_nil] at h1; exact h1)
              go_wp2
              go_ret
              exact .inl ⟨c, r, _, bl - 1, _, HV.out, by omega, rfl, rfl, HRL.out.symm, by omega, HLF2.out⟩
        · have hcl' : ¬ (c : Int) < 128 := by omega
          have eo : bits .or .i64 0 ((c : Int) % 128) = (c : Int) % 128 := by
            have h := i64_or_nat 0 (c % 128) (by omega) (by omega)
            rw [show (c : Int) % 128 = ((c % 128 : Nat) : Int) by omega]
            simpa using h
          go_wp2
          go_roundw
          case rel => exact ⟨trivial, .inr (.inl ⟨c, rfl, rfl, HC0, by omega⟩)⟩
          case measure => simp [intOf]
    · by_cases h0 : bl = 1
      · have HN := hid (show NoN most b by
          have h1 := HC.out
          have h2 := HBL.out
          match b, h1, h2 with
          | [d], h1, _ => (have e : d = c := by simpa using h1); subst e; exact noN_cut hc1
          | [], h1, _ => cases h1
          | _ :: _ :: _, _, h2 => simp at h2; omega)
        have i0 : ((1 : Int) == (bl : Int)) = true := by rw [h0]; rfl
        go_wp2
        go_ret
        exact .inr ⟨HN.out, rfl, rfl⟩
      · have i0 : ((1 : Int) == (bl : Int)) = false := beq_eq_false_iff_ne.2 (by omega)
        have hb0 : 1 < b.length := by
          have h1 := (List.getElem?_eq_some_iff.1 HC.out).1
          have h2 := HBL.out
          omega
        obtain ⟨d, hd0⟩ : ∃ d, b[1]? = some d := ⟨_, List.getElem?_eq_getElem hb0⟩
        obtain ⟨a, rfl, ha, a0⟩ := HR.out 1 d hd0
        have h256 := H8.out d (List.mem_of_getElem? hd0)
        have hc256 := H8.out c (List.mem_of_getElem? HC.out)
        rw [add_more, add_nil] at a0
        have i1 : (1 : Int) < (bl : Int) := by have := HBL.out; omega
        obtain ⟨r, hbr⟩ : ∃ r, b = c :: d :: r := by
          have h1 := HC.out
          match b, h1, hd0 with
          | [], h1, _ => cases h1
          | [_], _, h2 => simp at h2
          | x :: y :: r, h1, h2 => exact ⟨r, by simp at h1 h2; rw [h1, h2]⟩
        have HBR := hid hbr
        have HRL := hid (show r.length = bl - 2 by have := HBL.out; rw [hbr] at this; simp at this; omega)
        clear hbr hd0 hb0 ha
        by_cases hcl : d < 128
        · have hcl' : (d : Int) < 128 := by omega
          obtain ⟨q, hq⟩ : ∃ q, q = c % 128 + d * 128 := ⟨_, rfl⟩
          have eo : bits .or .i64 ((c : Int) % 128) ((d : Int) % 128 * 128) = (q : Int) := by
            have h := or_add (c % 128) d 7 (by omega) (by omega) (by omega)
            rw [show (c : Int) % 128 = ((c % 128 : Nat) : Int) by omega, show (d : Int) % 128 * 128 = ((d * 2 ^ 7 : Nat) : Int) by omega, h, hq]
          have HQ := hid hq
          clear hq
          by_cases hmq : most < q
          · have hmq' : (most : Int) < (q : Int) := by omega
            have HN := hid (show NoN most b by rw [HBR.out]; exact noN_two hc1 hc256 hcl (by rw [← HQ.out]; exact hmq))
            go_wp2
            go_ret
            exact .inr ⟨HN.out, rfl, rfl⟩
          · have hmq' : ¬ (most : Int) < (q : Int) := by omega
            have hmq'' : (q : Int) ≤ (most : Int) := by omega
            by_cases hd0 : d = 0
            · have hd0' : ((d : Int) == 0) = true := by rw [hd0]; rfl
              have HN := hid (show NoN most b by rw [HBR.out, hd0]; exact noN_zero hc1)
              clear hd0
              go_wp2
              go_ret
              exact .inr ⟨HN.out, rfl, rfl⟩
            · have hd0' : ((d : Int) == 0) = false := beq_eq_false_iff_ne.2 (by omega)
              have HV := hid (show b = vn q ++ r by rw [HBR.out, HQ.out]; exact vn_two hc1 hc256 hcl hd0)
              have HLF := hid (show ∀ W, RdU W (some a) b → RdU W (if bc = 2 then some a else some (a.add 2)) r from fun W h => by
                have h1 := left_rd (k := 2) h (by have := HBL.out; omega) (show b.length ≤ bc by rw [← HBL.out]; exact hc)
                rw [show b.drop 2 = r by rw [HBR.out]; rfl] at h1
                exact h1)
              by_cases hb1 : bc = 2
              · have HLF2 := hid (show ∀ W, RdU W (some a) b → RdU W (some a) r from fun W h => by have h1 := HLF.out W h; rw [if_pos hb1] at h1; exact h1)
                go_wp2
                go_ret
                exact .inl ⟨q, r, some a, bl - 2, _, HV.out, by omega, rfl, rfl, HRL.out.symm, by omega, HLF2.out⟩
              · have HLF2 := hid (show ∀ W, RdU W (some a) b → RdU W (some ⟨a.block, a.off + 2, none⟩) r from fun W h => by have h1 := HLF.out W h; rw [if_neg hb1, add_more, add_more, add_nil] at h1; exact h1)
                go_wp2
                go_ret
                exact .inl ⟨q, r, _, bl - 2, _, HV.out, by omega, rfl, rfl, HRL.out.symm, by omega, HLF2.out⟩
        · have hcl' : ¬ (d : Int) < 128 := by omega
          have HN := hid (show NoN most b by rw [HBR.out]; exact noN_long hm hc1 (by omega))
          go_wp2
          go_roundw
          case rel => exact ⟨trivial, .inr (.inr ⟨rfl, HN⟩)⟩
          case measure => simp [intOf]
    · go_wp2
      go_ret
      exact .inr ⟨HN.out, rfl, rfl⟩
end Go.Proofs.YtkmcbhdjecpmjaaDoor
/- The contract of take (the document's reader of bytes). -/
namespace Go.Proofs.YtkmcbhdjecpmjaaDoor
open Go.RowKit

theorem vn_three {c d x : Nat} {r : List Nat} (hc : 128 ≤ c) (hc2 : c < 256) (hd : 128 ≤ d) (hd2 : d < 256) (hx : x < 128) (h0 : x ≠ 0) : c :: d :: x :: r = vn (c % 128 + d % 128 * 128 + x * 16384) ++ r := by
  rw [vn_more _ (by omega), vn_more _ (by omega), vn_last _ (by omega), show (c % 128 + d % 128 * 128 + x * 16384) % 128 + 128 = c by omega, show (c % 128 + d % 128 * 128 + x * 16384) / 128 % 128 + 128 = d by omega, show (c % 128 + d % 128 * 128 + x * 16384) / 128 / 128 = x by omega]
  rfl
/-- All stays but one block, which keeps its place. -/
structure Only (X : Nat) (w w' : World) : Prop where
  os : w'.os = w.os
  tape : w'.tape = w.tape
  output : w'.output = w.output
  size : w'.heap.size = w.heap.size
  block : ∀ k, k ≠ X → w'.heap[k]? = w.heap[k]?
theorem Only.refl (X : Nat) (w : World) : Only X w w := ⟨rfl, rfl, rfl, rfl, fun _ _ => rfl⟩
theorem Only.trans {X : Nat} {w w' w'' : World} (h : Only X w w') (g : Only X w' w'') : Only X w w'' := ⟨g.os.trans h.os, g.tape.trans h.tape, g.output.trans h.output, g.size.trans h.size, fun k hk => (g.block k hk).trans (h.block k hk)⟩
theorem Only.set {X i : Nat} {w w' : World} {v : Value} (h : Only X w w') : Only X w (w'.setCell ⟨X, i, none⟩ v) := h.trans ⟨rfl, rfl, rfl, by simp, fun k hk => heap_setCell_other w' ⟨X, i, none⟩ k _ (fun e => hk e)⟩
theorem Only.drN {X : Nat} {w w' : World} (h : Only X w w') (n : Nat) : Only X w (w'.drewN n) := h.trans ⟨rfl, rfl, rfl, rfl, fun _ _ => rfl⟩
theorem Only.rdu {X : Nat} {w w' : World} {bo : Option Addr} {b : List Nat} (h : Only X w w') (hb : RdU w bo b) (hX : ∀ a, bo = some a → b ≠ [] → a.block ≠ X) : RdU w' bo b := fun k z hk => by
  obtain ⟨a, h1, h2, h3⟩ := hb k z hk
  exact ⟨a, h1, by rw [h.size]; exact h2, (World.cell?_of_block (h.block _ (by rw [add_blk]; exact hX a h1 (fun e => by rw [e] at hk; simp at hk)))).trans h3⟩
/-- The document's reader in memory. -/
def Rdr (X : Nat) (bo : Option Addr) (bl bc p : Nat) (ok : Bool) (w : World) : Prop := w.heap[X]? = some (.cells #[.slice bo bl bc, .int .i64 (p : Int), .bool ok] 121)
theorem Rdr.cells {X : Nat} {bo : Option Addr} {bl bc p : Nat} {ok : Bool} {w : World} (h : Rdr X bo bl bc p ok w) : (w.cell? ⟨X, 0, none⟩ = some (.slice bo bl bc) ∧ w.cell? ⟨X, 1, none⟩ = some (.int .i64 (p : Int)) ∧ w.cell? ⟨X, 2, none⟩ = some (.bool ok)) ∧ w.frozen? ⟨X, 1, none⟩ = false ∧ w.frozen? ⟨X, 2, none⟩ = false := by
  have h' : w.heap[X]? = some (.cells #[.slice bo bl bc, .int .i64 (p : Int), .bool ok] 121) := h
  exact ⟨⟨by rw [cell_of_row w X 0 _ 121 (0, 0) h']; rfl, by rw [cell_of_row w X 1 _ 121 (0, 0) h']; rfl, by rw [cell_of_row w X 2 _ 121 (0, 0) h']; rfl⟩, frozen_of_row w X 1 _ 121 h', frozen_of_row w X 2 _ 121 h'⟩
theorem Rdr.pos {X : Nat} {bo : Option Addr} {bl bc p : Nat} {ok : Bool} {w : World} (h : Rdr X bo bl bc p ok w) (q : Nat) : Rdr X bo bl bc q ok (w.setCell ⟨X, 1, none⟩ (.int .i64 (q : Int))) := heap_setCell_same w X 1 _ 121 _ h
theorem Rdr.sets {X : Nat} {bo : Option Addr} {bl bc p : Nat} {ok : Bool} {w : World} (h : Rdr X bo bl bc p ok w) (o : Bool) : Rdr X bo bl bc p o (w.setCell ⟨X, 2, none⟩ (.bool o)) := heap_setCell_same w X 2 _ 121 _ h
theorem Rdr.drN {X : Nat} {bo : Option Addr} {bl bc p : Nat} {ok : Bool} {w : World} (h : Rdr X bo bl bc p ok w) (n : Nat) : Rdr X bo bl bc p ok (w.drewN n) := h
/-- What take leaves. -/
def TakQ (X : Nat) (bo : Option Addr) (bl bc p : Nat) (b : List Nat) (w : World) (e : Ending) (w' : World) : Prop :=
  Only X w w' ∧ ((∃ (n q : Nat), n ≤ 2097151 ∧ p ≤ q ∧ q ≤ bl ∧ b.drop p = vn n ++ b.drop q ∧ e = .returned (.int .i64 (n : Int)) ∧ Rdr X bo bl bc q true w') ∨
    (∃ (n q : Nat), n ≤ 2097151 ∧ q ≤ bl ∧ NoN 16383 (b.drop p) ∧ e = .returned (.int .i64 (n : Int)) ∧ Rdr X bo bl bc q false w'))
/-- What has been read of a number: i bytes, all with more behind; s: the sum so far. -/
def TkI (D : List Nat) (i s : Nat) : Prop :=
  (i = 0 ∧ s = 0) ∨ (∃ c r, i = 1 ∧ D = c :: r ∧ 128 ≤ c ∧ s = c % 128) ∨ (∃ c d r, i = 2 ∧ D = c :: d :: r ∧ 128 ≤ c ∧ 128 ≤ d ∧ s = c % 128 + d % 128 * 128) ∨ (∃ c d r, i = 3 ∧ D = c :: d :: r ∧ 128 ≤ c ∧ 128 ≤ d)
theorem TkI.none {D : List Nat} {i s : Nat} (h : TkI D i s) (hl : D.length ≤ i) : NoN 16383 D := by
  rcases h with ⟨rfl, _⟩ | ⟨c, r, rfl, rfl, hc, _⟩ | ⟨c, d, r, rfl, rfl, hc, hd, _⟩ | ⟨c, d, r, rfl, rfl, hc, hd⟩
  · have hn : D = [] := List.eq_nil_of_length_eq_zero (by omega)
    rw [hn]; exact noN_nil _
  · have : r = [] := List.eq_nil_of_length_eq_zero (by rw [List.length_cons] at hl; omega)
    subst this
    exact noN_cut hc
  · exact noN_long (Nat.le_refl _) hc hd
  · exact noN_long (Nat.le_refl _) hc hd
theorem TkI.three {D : List Nat} {s : Nat} (h : TkI D 3 s) : NoN 16383 D := by
  rcases h with ⟨h, _⟩ | ⟨c, r, h, _⟩ | ⟨c, d, r, h, _⟩ | ⟨c, d, r, _, rfl, hc, hd⟩
  · omega
  · omega
  · omega
  · exact noN_long (Nat.le_refl _) hc hd
theorem TkI.le {D : List Nat} {i s : Nat} (h : TkI D i s) (h3 : i < 3) : s < 128 ^ i := by
  rcases h with ⟨rfl, rfl⟩ | ⟨c, r, rfl, rfl, hc, rfl⟩ | ⟨c, d, r, rfl, rfl, hc, hd, rfl⟩ | ⟨c, d, r, rfl, rfl, hc, hd⟩
  · simp
  · simp; omega
  · simp; omega
  · omega
/-- A byte with more behind. -/
theorem TkI.more {D : List Nat} {i s x : Nat} (h : TkI D i s) (h3 : i < 3) (hx : D[i]? = some x) (h1 : 128 ≤ x) : TkI D (i + 1) (s + x % 128 * 128 ^ i) := by
  rcases h with ⟨rfl, rfl⟩ | ⟨c, r, rfl, rfl, hc, rfl⟩ | ⟨c, d, r, rfl, rfl, hc, hd, rfl⟩ | ⟨c, d, r, rfl, rfl, hc, hd⟩
  · cases D with
    | nil => cases hx
    | cons y r => (have e : y = x := by simpa using hx); subst e; exact .inr (.inl ⟨y, r, rfl, rfl, h1, by simp⟩)
  · cases r with
    | nil => simp at hx
    | cons y r => (have e : y = x := by simpa using hx); subst e; exact .inr (.inr (.inl ⟨c, y, r, rfl, rfl, hc, h1, by simp⟩))
  · exact .inr (.inr (.inr ⟨c, d, r, rfl, rfl, hc, hd⟩))
  · omega
/-- The last byte. -/
theorem TkI.last {D : List Nat} {i s x : Nat} (h : TkI D i s) (h3 : i < 3) (hx : D[i]? = some x) (h1 : x < 128) (h8 : ∀ c ∈ D, c < 256) : if i = 0 ∨ 0 < x then D = vn (s + x % 128 * 128 ^ i) ++ D.drop (i + 1) else NoN 16383 D := by
  rcases h with ⟨rfl, rfl⟩ | ⟨c, r, rfl, rfl, hc, rfl⟩ | ⟨c, d, r, rfl, rfl, hc, hd, rfl⟩ | ⟨c, d, r, rfl, rfl, hc, hd⟩
  · rw [if_pos (.inl rfl)]
    cases D with
    | nil => cases hx
    | cons y r => (have e : y = x := by simpa using hx); subst e; rw [show 0 + y % 128 * 128 ^ 0 = y by simp; omega, vn_last y (by omega)]; rfl
  · cases r with
    | nil => simp at hx
    | cons y r =>
      have e : y = x := by simpa using hx
      subst e
      have hc2 := h8 c (by simp)
      split
      · rename_i h0
        have h := vn_two (r := r) hc hc2 h1 (by omega)
        rw [show c % 128 + y % 128 * 128 ^ 1 = c % 128 + y * 128 by omega]
        exact h
      · rename_i h0
        have e0 : y = 0 := by omega
        subst e0
        exact noN_zero hc
  · cases r with
    | nil => simp at hx
    | cons y r =>
      have e : y = x := by simpa using hx
      subst e
      have hc2 := h8 c (by simp)
      have hd2 := h8 d (by simp)
      split
      · rename_i h0
        have h := vn_three (r := r) hc hc2 hd hd2 h1 (by omega)
        rw [show c % 128 + d % 128 * 128 + y % 128 * 128 ^ 2 = c % 128 + d % 128 * 128 + y * 16384 by omega]
        exact h
      · exact noN_long (Nat.le_refl _) hc hd
  · omega
end Go.Proofs.YtkmcbhdjecpmjaaDoor
/- The contract of take (the document's reader of bytes): the walk. -/
namespace Go.Proofs.YtkmcbhdjecpmjaaDoor
open Go.RowKit

theorem drop_at {b : List Nat} {p i : Nat} : (b.drop p)[i]? = b[p + i]? := List.getElem?_drop
theorem fin_of {b : List Nat} {p i t q : Nat} (h : b.drop p = vn t ++ (b.drop p).drop (i + 1)) (hq : q = p + i) : b.drop p = vn t ++ b.drop (q + 1) := by
  rw [List.drop_drop] at h
  rw [hq, show p + i + 1 = p + (i + 1) by omega]
  exact h
theorem Rdr.pos1 {X : Nat} {bo : Option Addr} {bl bc p q p' : Nat} {ok : Bool} {w : World} (h : Rdr X bo bl bc p ok w) (hq : p' = q + 1) : Rdr X bo bl bc p' ok (w.setCell ⟨X, 1, none⟩ (.int .i64 ((q : Int) + 1))) := by
  have e : ((q + 1 : Nat) : Int) = (q : Int) + 1 := by omega
  rw [← e, hq]
  exact h.pos (q + 1)
theorem take_no (X : Nat) (bo : Option Addr) (bl bc p : Nat) (w : World) (hx : Rdr X bo bl bc p false w) :
    Calls Tryd.prog 79 #[.pointer (some ⟨X, 0, none⟩)] w fun e w' => e = .returned (.int .i64 0) ∧ Only X w w' ∧ Rdr X bo bl bc p false w' := by
  obtain ⟨⟨x0, x1, x2⟩, z1, z2⟩ := hx.cells
  have HX := hid hx
  clear hx
  go_enter Tryd.func79, Tryd.ntmps79
  go_wp2
  go_loopw [4] (fun x wr => x = .int .i64 0 ∧ wr = w) (fun _ _ => 0)
  case atStart => exact ⟨rfl, rfl⟩
  case round =>
    obtain ⟨rfl, hw⟩ := hrel
    obtain rfl := hw.symm
    go_wp2
    go_ret
    exact ⟨rfl, (Only.refl _ _).set, HX.out.sets false⟩
set_option maxHeartbeats 4000000 in
set_option maxRecDepth 100000 in
theorem take_any (X : Nat) (bo : Option Addr) (bl bc p : Nat) (b : List Nat) (w : World) (hb : RdU w bo b) (hX : ∀ a, bo = some a → b ≠ [] → a.block ≠ X) (h8 : ∀ c ∈ b, c < 256) (hbl : bl = b.length) (hl : bl ≤ 1000000) (hp : p ≤ bl) (hx : Rdr X bo bl bc p true w) :
    Calls Tryd.prog 79 #[.pointer (some ⟨X, 0, none⟩)] w fun e w' => TakQ X bo bl bc p b w e w' := by
  have HR := hid hb
  have HX := hid hX
  have H8 := hid h8
  have HBL := hid hbl
  have HRD := hid hx
  clear hb h8 hbl hx hX
  go_enter Tryd.func79, Tryd.ntmps79
  go_wp2
  go_loopw [3, 4] (fun x y wr => ∃ (i s : Nat), x = .int .i64 (s : Int) ∧ y = .int .i64 (i : Int) ∧ i ≤ 3 ∧ p + i ≤ bl ∧ Hid (TkI (b.drop p) i s) ∧ Hid (Rdr X bo bl bc (p + i) true wr) ∧ Hid (Only X w wr)) (fun _ y _ => 3 - (intOf y).toNat)
  case atStart => exact ⟨0, 0, rfl, rfl, by omega, by omega, .inl ⟨rfl, rfl⟩, HRD, Only.refl _ _⟩
  case round =>
    obtain ⟨i, s, rfl, rfl, hi, hpi, HI, HD, HO⟩ := hrel
    obtain ⟨⟨x0, x1, x2⟩, z1, z2⟩ := HD.out.cells
    by_cases h3 : i < 3
    · have i3 : (i : Int) < 3 := by omega
      by_cases he : p + i = bl
      · have i4 : (bl : Int) ≤ ((p + i : Nat) : Int) := by omega
        have HN := hid (HI.out.none (by rw [List.length_drop, ← HBL.out]; omega))
        go_wp2_with fail
        go_quiet (fail)
        go_wp2
        go_ret
        exact ⟨(HO.out.drN _).set, .inr ⟨0, p + i, by omega, by omega, HN.out, rfl, (HD.out.drN _).sets false⟩⟩
      · have i4 : ¬ (bl : Int) ≤ ((p + i : Nat) : Int) := by omega
        have i5 : ((p + i : Nat) : Int) < (bl : Int) := by omega
        have i6 : (0 : Int) ≤ ((p + i : Nat) : Int) := by omega
        have hpl : p + i < b.length := by have := HBL.out; omega
        obtain ⟨x, hx⟩ : ∃ x, b[p + i]? = some x := ⟨_, List.getElem?_eq_getElem hpl⟩
        have HXI := hid (show (b.drop p)[i]? = some x from drop_at.trans hx)
        have h256 := H8.out x (List.mem_of_getElem? hx)
        obtain ⟨a, rfl, ha, a0⟩ := HO.out.rdu HR.out HX.out (p + i) x hx
        clear hx hpl ha
        obtain ⟨q, hq⟩ : ∃ q, q = p + i := ⟨_, rfl⟩
        have HQ := hid hq
        rw [← hq] at x1 a0 i5 i6 i4
        have HDQ := hid (show Rdr X (some a) bl bc q true wr by rw [hq]; exact HD.out)
        have hql : q < bl := by omega
        have eq1 : IntKind.i64.wrap ((q : Int) + 1) = ((q + 1 : Nat) : Int) := by rw [IntKind.wrap_i64]; omega
        clear hq HD he hpi
        have H8D := hid (show ∀ c ∈ b.drop p, c < 256 from fun c h => H8.out c (List.mem_of_mem_drop h))
        have hs := HI.out.le h3
        have hi3 : i = 0 ∨ i = 1 ∨ i = 2 := by omega
        rcases hi3 with rfl | rfl | rfl
        · have hs' : s < 1 := by simpa using hs
          have es : (s : Int) + (x : Int) % 128 = ((s + x % 128 * 128 ^ 0 : Nat) : Int) := by omega
          obtain ⟨t, ht⟩ : ∃ t, t = s + x % 128 * 128 ^ 0 := ⟨_, rfl⟩
          rw [← ht] at es
          have htl : t ≤ 2097151 := by omega
          by_cases hx1 : x < 128
          · have hx1' : (x : Int) < 128 := by omega
            have HLA := hid (show if (0 : Nat) = 0 ∨ 0 < x then b.drop p = vn t ++ (b.drop p).drop (0 + 1) else NoN 16383 (b.drop p) by rw [ht]; exact HI.out.last h3 HXI.out hx1 H8D.out)
            have HT := hid ht
            clear ht hs hs'
            have HL2 := hid (show b.drop p = vn t ++ (b.drop p).drop (0 + 1) by have h := HLA.out; rw [if_pos (.inl rfl)] at h; exact h)
            clear HLA
            go_wp2_with fail
            go_quiet (fail)
            go_wp2_with fail
            go_quiet (fail)
            go_wp2
            go_ret
            exact ⟨((HO.out.drN _).set).set, .inl ⟨t, q + 1, htl, by have := HQ.out; omega, by omega, fin_of HL2.out HQ.out, rfl, ((HDQ.out.drN _).pos1 (q := q) rfl).sets true⟩⟩
          · have hx1' : ¬ (x : Int) < 128 := by omega
            have HMO := hid (show TkI (b.drop p) (0 + 1) t by rw [ht]; exact HI.out.more h3 HXI.out (by omega))
            have HT := hid ht
            clear ht hs hs'
            go_wp2_with fail
            go_quiet (fail)
            go_wp2_with fail
            go_quiet (fail)
            go_wp2
            go_roundw
            case rel => exact ⟨1, t, rfl, rfl, by omega, by have := HQ.out; omega, HMO, (HDQ.out.drN _).pos1 (q := q) (by have := HQ.out; omega), (HO.out.drN _).set⟩
            case measure => simp [intOf]
        · have hs' : s < 128 := by simpa using hs
          have es : (s : Int) + (x : Int) % 128 * 128 = ((s + x % 128 * 128 ^ 1 : Nat) : Int) := by omega
          obtain ⟨t, ht⟩ : ∃ t, t = s + x % 128 * 128 ^ 1 := ⟨_, rfl⟩
          rw [← ht] at es
          have htl : t ≤ 2097151 := by omega
          by_cases hx1 : x < 128
          · have hx1' : (x : Int) < 128 := by omega
            have HLA := hid (show if (1 : Nat) = 0 ∨ 0 < x then b.drop p = vn t ++ (b.drop p).drop (1 + 1) else NoN 16383 (b.drop p) by rw [ht]; exact HI.out.last h3 HXI.out hx1 H8D.out)
            have HT := hid ht
            clear ht hs hs'
            by_cases hx0 : 0 < x
            · have HL2 := hid (show b.drop p = vn t ++ (b.drop p).drop (1 + 1) by have h := HLA.out; rw [if_pos (.inr hx0)] at h; exact h)
              have hx0' : (0 : Int) < (x : Int) := by omega
              clear HLA
              go_wp2_with fail
              go_quiet (fail)
              go_wp2_with fail
              go_quiet (fail)
              go_wp2
              go_ret
              exact ⟨((HO.out.drN _).set).set, .inl ⟨t, q + 1, htl, by have := HQ.out; omega, by omega, fin_of HL2.out HQ.out, rfl, ((HDQ.out.drN _).pos1 (q := q) rfl).sets true⟩⟩
            · have HN := hid (show NoN 16383 (b.drop p) by have h := HLA.out; rw [if_neg (by omega)] at h; exact h)
              have hx0' : ¬ (0 : Int) < (x : Int) := by omega
              clear HLA
              go_wp2_with fail
              go_quiet (fail)
              go_wp2_with fail
              go_quiet (fail)
              go_wp2
              go_ret
              exact ⟨((HO.out.drN _).set).set, .inr ⟨t, q + 1, htl, by omega, HN.out, rfl, ((HDQ.out.drN _).pos1 (q := q) rfl).sets false⟩⟩
          · have hx1' : ¬ (x : Int) < 128 := by omega
            have HMO := hid (show TkI (b.drop p) (1 + 1) t by rw [ht]; exact HI.out.more h3 HXI.out (by omega))
            have HT := hid ht
            clear ht hs hs'
            go_wp2_with fail
            go_quiet (fail)
            go_wp2_with fail
            go_quiet (fail)
            go_wp2
            go_roundw
            case rel => exact ⟨2, t, rfl, rfl, by omega, by have := HQ.out; omega, HMO, (HDQ.out.drN _).pos1 (q := q) (by have := HQ.out; omega), (HO.out.drN _).set⟩
            case measure => simp [intOf]
        · have hs' : s < 16384 := by simpa using hs
          have es : (s : Int) + (x : Int) % 128 * 16384 = ((s + x % 128 * 128 ^ 2 : Nat) : Int) := by omega
          obtain ⟨t, ht⟩ : ∃ t, t = s + x % 128 * 128 ^ 2 := ⟨_, rfl⟩
          rw [← ht] at es
          have htl : t ≤ 2097151 := by omega
          by_cases hx1 : x < 128
          · have hx1' : (x : Int) < 128 := by omega
            have HLA := hid (show if (2 : Nat) = 0 ∨ 0 < x then b.drop p = vn t ++ (b.drop p).drop (2 + 1) else NoN 16383 (b.drop p) by rw [ht]; exact HI.out.last h3 HXI.out hx1 H8D.out)
            have HT := hid ht
            clear ht hs hs'
            by_cases hx0 : 0 < x
            · have HL2 := hid (show b.drop p = vn t ++ (b.drop p).drop (2 + 1) by have h := HLA.out; rw [if_pos (.inr hx0)] at h; exact h)
              have hx0' : (0 : Int) < (x : Int) := by omega
              clear HLA
              go_wp2_with fail
              go_quiet (fail)
              go_wp2_with fail
              go_quiet (fail)
              go_wp2
              go_ret
              exact ⟨((HO.out.drN _).set).set, .inl ⟨t, q + 1, htl, by have := HQ.out; omega, by omega, fin_of HL2.out HQ.out, rfl, ((HDQ.out.drN _).pos1 (q := q) rfl).sets true⟩⟩
            · have HN := hid (show NoN 16383 (b.drop p) by have h := HLA.out; rw [if_neg (by omega)] at h; exact h)
              have hx0' : ¬ (0 : Int) < (x : Int) := by omega
              clear HLA
              go_wp2_with fail
              go_quiet (fail)
              go_wp2_with fail
              go_quiet (fail)
              go_wp2
              go_ret
              exact ⟨((HO.out.drN _).set).set, .inr ⟨t, q + 1, htl, by omega, HN.out, rfl, ((HDQ.out.drN _).pos1 (q := q) rfl).sets false⟩⟩
          · have hx1' : ¬ (x : Int) < 128 := by omega
            have HMO := hid (show TkI (b.drop p) (2 + 1) t by rw [ht]; exact HI.out.more h3 HXI.out (by omega))
            have HT := hid ht
            clear ht hs hs'
            go_wp2_with fail
            go_quiet (fail)
            go_wp2_with fail
            go_quiet (fail)
            go_wp2
            go_roundw
            case rel => exact ⟨3, t, rfl, rfl, by omega, by have := HQ.out; omega, HMO, (HDQ.out.drN _).pos1 (q := q) (by have := HQ.out; omega), (HO.out.drN _).set⟩
            case measure => simp [intOf]
    · have e3 : i = 3 := by omega
      subst e3
      have HN := hid HI.out.three
      go_wp2
      go_ret
      exact ⟨HO.out.set, .inr ⟨0, p + 3, by omega, by omega, HN.out, rfl, HD.out.sets false⟩⟩
/-- The document's reader at X: the bytes that lay in w, the place, and whether all went well. -/
def RD (X : Nat) (w : World) (b : List Nat) (p : Nat) (ok : Bool) (wr : World) : Prop :=
  ∃ (bo : Option Addr) (bl bc : Nat), Rdr X bo bl bc p ok wr ∧ RdU w bo b ∧ bl = b.length ∧ p ≤ bl ∧ bl ≤ 1000000 ∧ ∀ c ∈ b, c < 256
/-- What a number leaves. -/
def TakS (X : Nat) (w : World) (b : List Nat) (p : Nat) (wr : World) (e : Ending) (w' : World) : Prop :=
  ∃ (n q : Nat) (ok : Bool), e = .returned (.int .i64 (n : Int)) ∧ n ≤ 2097151 ∧ RD X w b q ok w' ∧ Only X wr w' ∧ ((ok = true ∧ b.drop p = vn n ++ b.drop q) ∨ (ok = false ∧ NoN 16383 (b.drop p)))
theorem take_step {X p : Nat} {w wr : World} {b : List Nat} (h : RD X w b p true wr) (hb : Below w.heap.size w wr) (hX : w.heap.size ≤ X) :
    Calls Tryd.prog 79 #[.pointer (some ⟨X, 0, none⟩)] wr fun e w' => TakS X w b p wr e w' := by
  obtain ⟨bo, bl, bc, h1, h2, h3, h4, h5, h6⟩ := h
  refine (take_any X bo bl bc p b wr (h2.below hb) (fun a ha hne => ?_) h6 h3 h5 h4 h1).mono fun e w' hq => ?_
  · cases b with
    | nil => exact absurd rfl hne
    | cons c r =>
      obtain ⟨a', e, hl, _⟩ := h2 0 c rfl
      rw [ha] at e
      cases e
      omega
  · obtain ⟨ho, hq⟩ := hq
    rcases hq with ⟨n, q, g1, g2, g3, g4, g5, g6⟩ | ⟨n, q, g1, g2, g3, g4, g5⟩
    · exact ⟨n, q, true, g5, g1, ⟨bo, bl, bc, g6, h2, h3, g3, h5, h6⟩, ho, .inl ⟨rfl, g4⟩⟩
    · exact ⟨n, q, false, g4, g1, ⟨bo, bl, bc, g5, h2, h3, g2, h5, h6⟩, ho, .inr ⟨rfl, g3⟩⟩
theorem take_stop {X p : Nat} {w wr : World} {b : List Nat} (h : RD X w b p false wr) :
    Calls Tryd.prog 79 #[.pointer (some ⟨X, 0, none⟩)] wr fun e w' => e = .returned (.int .i64 0) ∧ RD X w b p false w' ∧ Only X wr w' := by
  obtain ⟨bo, bl, bc, h1, h2⟩ := h
  exact (take_no X bo bl bc p wr h1).mono fun e w' ⟨g1, g2, g3⟩ => ⟨g1, ⟨bo, bl, bc, g3, h2⟩, g2⟩
theorem RD.keep {X : Nat} {w W W' : World} {b : List Nat} {p : Nat} {ok : Bool} (h : RD X w b p ok W) (hk : W'.heap[X]? = W.heap[X]?) : RD X w b p ok W' := by
  obtain ⟨ro, rl, rc, h1, h2⟩ := h
  exact ⟨ro, rl, rc, hk.trans h1, h2⟩
theorem RD.lt {X : Nat} {w W : World} {b : List Nat} {p : Nat} {ok : Bool} (h : RD X w b p ok W) : X < W.heap.size := by
  obtain ⟨ro, rl, rc, h1, h2⟩ := h
  exact (Array.getElem?_eq_some_iff.1 h1).1
end Go.Proofs.YtkmcbhdjecpmjaaDoor
