/- The contract of Load (package kerfref03): what it takes is what rl takes. -/
import Derived.Test.YtljlhlcoaajggaaRTakeAll
import Derived.Test.YtljlhlcoaajggaaRGet
namespace Go.Proofs.Ytljlhlcoaajggaa
open Go.RowKit

theorem tkF_is (t : Nat) : ∀ (f i n : Nat) (bs : List Nat), match tkq f bs with
    | none => (tkF t f i n bs).2.2 = false
    | some (v, r) => if i = 0 ∨ 0 < v then tkF t f i n bs = (n + v * 2 ^ (7 * i), t + i + (bs.length - r.length), true) else (tkF t f i n bs).2.2 = false
  | 0, i, n, bs => rfl
  | f + 1, i, n, [] => rfl
  | f + 1, i, n, c :: rs => by
    by_cases hc : c < 128
    · have e1 : tkq (f + 1) (c :: rs) = some (c, rs) := by unfold tkq; rw [if_pos hc]
      have e2 : tkF t (f + 1) i n (c :: rs) = (n + c % 128 * 2 ^ (7 * i), t + i + 1, decide (i = 0) || decide (0 < c)) := by unfold tkF; rw [if_pos hc]
      rw [e1]
      dsimp only
      rw [e2, Nat.mod_eq_of_lt hc]
      split
      · rename_i h
        have h5 : (decide (i = 0) || decide (0 < c)) = true := by simpa using h
        rw [h5, List.length_cons, show rs.length + 1 - rs.length = 1 by omega]
      · rename_i h
        show (decide (i = 0) || decide (0 < c)) = false
        rw [← Bool.not_eq_true]
        intro h5
        exact h (by simpa using h5)
    · have e2 : tkF t (f + 1) i n (c :: rs) = tkF t f (i + 1) (n + c % 128 * 2 ^ (7 * i)) rs := by
        conv => lhs; unfold tkF
        rw [if_neg hc]
      have ih := tkF_is t f (i + 1) (n + c % 128 * 2 ^ (7 * i)) rs
      rw [e2]
      cases hq : tkq f rs with
      | none =>
        have e1 : tkq (f + 1) (c :: rs) = none := by unfold tkq; rw [if_neg hc, hq]
        rw [hq] at ih
        rw [e1]
        exact ih
      | some y =>
        obtain ⟨v, r⟩ := y
        rw [hq] at ih
        dsimp only at ih
        by_cases hv : v = 0
        · have e1 : tkq (f + 1) (c :: rs) = none := by unfold tkq; rw [if_neg hc, hq]; dsimp only; rw [if_pos hv]
          rw [e1]
          dsimp only
          rw [if_neg (by omega)] at ih
          exact ih
        · have e1 : tkq (f + 1) (c :: rs) = some (c % 128 + 128 * v, r) := by unfold tkq; rw [if_neg hc, hq]; dsimp only; rw [if_neg hv]
          rw [e1]
          dsimp only
          rw [if_pos (by omega)] at ih
          obtain ⟨_, k, k1, k2, k3⟩ := tkq_lt f rs v r hq
          have hl : r.length ≤ rs.length := by rw [k3, List.length_drop]; omega
          rw [if_pos (by omega), ih, List.length_cons]
          have p1 : 2 ^ (7 * (i + 1)) = 2 ^ (7 * i) * 128 := by rw [show 7 * (i + 1) = 7 * i + 7 by omega, Nat.pow_add]
          rw [p1]
          have p2 : v * (2 ^ (7 * i) * 128) = 128 * v * 2 ^ (7 * i) := by rw [Nat.mul_comm (2 ^ (7 * i)) 128, ← Nat.mul_assoc, Nat.mul_comm v 128]
          rw [p2, Nat.add_mul, Nat.add_assoc, show t + (i + 1) + (rs.length - r.length) = t + i + (rs.length + 1 - r.length) by omega]
theorem tkR_cases (b : List Nat) (t : Nat) (ht : t ≤ b.length) : (tk (b.drop t) = none ∧ (tkR b t).2.2 = false) ∨ ∃ v t', tk (b.drop t) = some (v, b.drop t') ∧ tkR b t = (v, t', true) ∧ t < t' ∧ t' ≤ b.length ∧ v < 268435456 := by
  have h := tkF_is t 4 0 0 (b.drop t)
  cases hq : tkq 4 (b.drop t) with
  | none => rw [hq] at h; exact .inl ⟨hq, h⟩
  | some y =>
    obtain ⟨v, r⟩ := y
    rw [hq] at h
    dsimp only at h
    rw [if_pos (.inl rfl)] at h
    obtain ⟨h1, k, k1, k2, k3⟩ := tkq_lt 4 (b.drop t) v r hq
    rw [List.length_drop] at k2
    have hr : r = b.drop (t + k) := by rw [k3, List.drop_drop]
    refine .inr ⟨v, t + k, by show tkq 4 _ = _; rw [hq, hr], ?_, by omega, by omega, h1⟩
    show tkF t 4 0 0 (b.drop t) = _
    rw [h, k3]
    simp only [List.length_drop]
    rw [show t + 0 + (b.length - t - (b.length - t - k)) = t + k by omega]
    simp
theorem take_c (ao : Option Addr) (ac : Nat) (b : List Nat) (t : Nat) (w : World) (hb : RdU w ao b) (h8 : ∀ c ∈ b, c < 256) (hl : b.length ≤ 1000000000) (ht : t ≤ b.length) :
    Calls Try.prog 59 #[.slice ao b.length ac, .int .i64 (t : Int)] w fun e w' => w' = w ∧ ((tk (b.drop t) = none ∧ ∃ x y : Nat, e = .returned (.tuple #[.int .i64 (x : Int), .int .i64 (y : Int), .bool false])) ∨ ∃ v t' : Nat, tk (b.drop t) = some (v, b.drop t') ∧ e = .returned (.tuple #[.int .i64 (v : Int), .int .i64 (t' : Int), .bool true]) ∧ t < t' ∧ t' ≤ b.length ∧ v < 268435456) := by
  refine (take_any ao ac b t w hb h8 hl (by omega)).mono ?_
  rintro e w' ⟨rfl, rfl⟩
  refine ⟨rfl, ?_⟩
  rcases tkR_cases b t ht with ⟨h1, h2⟩ | ⟨v, t', h1, h2, h3, h4, h5⟩
  · exact .inl ⟨h1, _, _, by unfold tkV; rw [h2]⟩
  · exact .inr ⟨v, t', h1, by rw [h2]; rfl, h3, h4, h5⟩

theorem rdL_n1 {r n nx : Nat} {p : Option Nat} {c : List Nat} (h : tk c = none) : rdL r (n + 1) nx p c = none := by unfold rdL; rw [h]
theorem rdL_n2 {r n nx g : Nat} {p : Option Nat} {c c1 : List Nat} (h : tk c = some (g, c1)) (h2 : tk c1 = none) : rdL r (n + 1) nx p c = none := by unfold rdL; rw [h]; dsimp only; rw [h2]
theorem rdL_n3 {r n nx g m : Nat} {p : Option Nat} {c c1 c2 : List Nat} (h : tk c = some (g, c1)) (h2 : tk c1 = some (m, c2)) (h3 : c2 = []) : rdL r (n + 1) nx p c = none := by unfold rdL; rw [h]; dsimp only; rw [h2]; dsimp only; rw [h3]
theorem rdL_go {r n nx g m k : Nat} {p : Option Nat} {c c1 c2 c3 : List Nat} (h : tk c = some (g, c1)) (h2 : tk c1 = some (m, c2)) (h3 : c2 = k :: c3) : rdL r (n + 1) nx p c = if 1114111 < nx + g + m then none else if k = r ∨ (g = 0 ∧ p = some k) then none else (rdL r n (nx + g + m + 1) (some k) c3).map ((nx + g, nx + g + m, k) :: ·) := by
  conv => lhs; unfold rdL
  rw [h]; dsimp only; rw [h2]; dsimp only; rw [h3]
theorem map_none' {L : List Tr} {o q : Option (List Tr)} (h : o.map (L ++ ·) = q) (ho : o = none) : q = none := by rw [← h, ho]; rfl
theorem map_go {L : List Tr} {x : Tr} {o o' q : Option (List Tr)} (h : o.map (L ++ ·) = q) (ho : o = o'.map (x :: ·)) : o'.map ((L ++ [x]) ++ ·) = q := by
  rw [← h, ho, Option.map_map]
  congr 1
  funext y
  simp
theorem QAt.set {P : Nat} {v c : Value} {w : World} (h : w.heap[P]? = some (.cells #[v, c] 74 (0, 0))) (u : Value) : (w.setCell ⟨P, 0, none⟩ u).heap[P]? = some (.cells #[u, c] 74 (0, 0)) ∧ Sx P w (w.setCell ⟨P, 0, none⟩ u) := by
  refine ⟨?_, ?_⟩
  · have := heap_setCell_same w P 0 #[v, c] 74 u h
    exact this
  · have hb := (Below.refl P w).setCell (p := ⟨P, 0, none⟩) (Nat.le_refl P) u
    refine ⟨hb.os, hb.tape, hb.output, ?_, fun k hk => ?_⟩
    · exact World.size_setCell _ _ _
    · exact Below.heap_setCell w _ _ _ (by show k ≠ P; exact hk)
/-- The document's table, its rows above it. -/
def QtAt (P : Nat) (L : List Tr) (r : Nat) (w : World) : Prop := ∃ v, w.heap[P]? = some (.cells #[v, .int .i64 (r : Int)] 74 (0, 0)) ∧ w.ownsRow (P + 1) 36 3 v L.length (rks L)
theorem QtAt.rt {P r : Nat} {L : List Tr} {w : World} (h : QtAt P L r w) : RtAt P P L r w := by
  obtain ⟨v, h1, h2⟩ := h
  refine ⟨v, h1, h2.1, ?_⟩
  rcases h2.2 with h' | ⟨q, cap, cur, hv, hB, rest⟩
  · exact .inl h'
  · exact .inr ⟨q, cap, cur, hv, by omega, rest⟩
set_option maxHeartbeats 6000000 in
set_option maxRecDepth 100000 in
theorem rload_any (ao : Option Addr) (ac : Nat) (b : List Nat) (w : World) (hb : RdU w ao b) (h8 : ∀ c ∈ b, c < 256) (hl : b.length ≤ 100000000) :
    Calls Try.prog 29 #[.slice ao b.length ac] w fun e w' => Below w.heap.size w w' ∧
      ((rl b = none ∧ e = .returned (.tuple #[.pointer none, .int .i64 31])) ∨
       (∃ P L, rl b = some L ∧ e = .returned (.tuple #[.pointer (some ⟨P, 0, none⟩), .int .i64 0]) ∧ w.heap.size ≤ P ∧ RtAt w.heap.size P L (ldr b) w')) := by
  obtain ⟨i0, hi36, hz0, hz1, hz2⟩ := info_parts Try.info36
  by_cases hbn : b = []
  · subst hbn
    have HZ := hid (show rl [] = none from rfl)
    clear hb h8 hl
    go_enter Try.func29, Try.ntmps29
    go_wp2
    go_ret2
    exact ⟨Below.refl _ _, .inl ⟨HZ.out, rfl⟩⟩
  · have hrr : ∃ r, b[0]? = some r ∧ r < 256 ∧ ldr b = r ∧ rl b = match tk (b.drop 1) with | none => none | some (n, c1) => rdL r n 0 none c1 := by
      cases b with
      | nil => exact absurd rfl hbn
      | cons r c => exact ⟨r, rfl, h8 r (by simp), rfl, rfl⟩
    obtain ⟨r, hr0, hr, hlr, hrl⟩ := hrr
    have HLR := hid hlr
    have HRL := hid hrl
    have hn1 : 1 ≤ b.length := by
      cases b with
      | nil => exact absurd rfl hbn
      | cons r c => simp
    have HRB := hid hb
    have HTK := hid (fun (t : Nat) (W : World) (hW : RdU W ao b) (ht : t ≤ b.length) => take_c ao ac b t W hW h8 (by omega) ht)
    obtain ⟨a, rfl, ha, a0⟩ := hb 0 r hr0
    rw [add_nil] at a0
    obtain ⟨n, hn⟩ : ∃ n, n = b.length := ⟨_, rfl⟩
    rw [← hn] at hl hn1 HTK ⊢
    have HN := hid hn
    obtain ⟨P, hP⟩ : ∃ P, P = w.heap.size := ⟨_, rfl⟩
    have HPE := hid hP
    have H8 := hid h8
    have HRA := hid (show ∀ W, Below P w W → RdU W (some a) b from fun W hW => HRB.out.below (by rw [← hP]; exact hW))
    rw [← hP]
    have e1 : IntKind.i64.wrap (r : Int) = (r : Int) := by rw [IntKind.wrap_i64]; omega
    have n0 : ((n : Int) == 0) = false := by simp; omega
    have n1 : (0 : Int) < (n : Int) := by omega
    clear hb h8 hr0 hlr hrl hbn hn
    go_enter Try.func29, Try.ntmps29
    go_wp2_with fail
    refine (HTK.out 1 w HRB.out hn1).mono ?_
    rintro e w' ⟨hw, hcs⟩
    obtain rfl := hw.symm
    have HBA := hid (show Below P w (w.alloc (.cells #[.slice none 0 0, .int .i64 (r : Int)] 74)) by rw [hP]; exact (Below.refl _ _).alloc (Nat.le_refl _) _)
    have HPA := hid (show QtAt P [] r (w.alloc (.cells #[.slice none 0 0, .int .i64 (r : Int)] 74)) from ⟨_, by rw [hP]; exact heap_alloc_new w _, World.ownsRow_nil _ _ _ _⟩)
    have HSA := hid (show P < (w.alloc (.cells #[.slice none 0 0, .int .i64 (r : Int)] 74)).heap.size by rw [hP]; simp)
    clear hP
    rcases hcs with ⟨hk, xv, yv, rfl⟩ | ⟨v, t1, hk, rfl, hk1, hk2, hk3⟩
    · have HNO := hid (show rl b = none by rw [HRL.out, hk])
      clear hk
      go_wp2
      rw [← HPE.out]
      go_loopw [5, 6, 8, 9] (fun x y z u wr => x = .int .i64 (yv : Int) ∧ y = .bool false ∧ z = .int .i64 0 ∧ u = .int .i64 0 ∧ Hid (Below P w wr)) (fun _ _ _ _ _ => 0)
      case atStart => exact ⟨rfl, rfl, rfl, rfl, HBA⟩
      case round =>
        obtain ⟨rfl, rfl, rfl, rfl, HB⟩ := hrel
        by_cases hx : 0 < xv
        · have hx' : (0 : Int) < (xv : Int) := by omega
          go_wp2
          go_ret2
          exact ⟨HB.out, .inl ⟨HNO.out, rfl⟩⟩
        · have hx' : ¬ (0 : Int) < (xv : Int) := by omega
          go_wp2
          go_ret2
          exact ⟨HB.out, .inl ⟨HNO.out, rfl⟩⟩
    · have HR1 := hid (show (rdL r (v - 0) 0 (lcl []) (b.drop t1)).map (([] : List Tr) ++ ·) = rl b by
        rw [HRL.out, hk]; simp [lcl])
      clear hk
      go_wp2
      rw [← HPE.out]
      go_loopw [5, 6, 8, 9] (fun x y z u wr => ∃ (t i nx : Nat) (L : List Tr), x = .int .i64 (t : Int) ∧ y = .bool true ∧ z = .int .i64 (nx : Int) ∧ u = .int .i64 (i : Int) ∧ i ≤ v ∧ t ≤ n ∧ nx ≤ 1114112 ∧ i ≤ nx ∧ Hid (L.length = i) ∧ Hid ((rdL r (v - i) nx (lcl L) (b.drop t)).map (L ++ ·) = rl b) ∧ Hid (QtAt P L r wr) ∧ Hid (Below P w wr) ∧ Hid (P < wr.heap.size)) (fun _ _ _ u _ => v - (intOf u).toNat)
      case atStart => exact ⟨t1, 0, 0, [], rfl, rfl, rfl, rfl, by omega, hk2, by omega, by omega, rfl, HR1, HPA, HBA, HSA⟩
      case round =>
        obtain ⟨t, i, nx, L, rfl, rfl, rfl, rfl, hi, ht, hnx, hinx, HLI, HLD, HPT, HB, HS⟩ := hrel
        by_cases hlt : i < v
        · have i3 : (i : Int) < (v : Int) := by omega
          obtain ⟨f, hf⟩ : ∃ f, v - i = f + 1 := ⟨v - i - 1, by omega⟩
          rw [hf] at HLD
          have HF := hid (show v - (i + 1) = f by omega)
          clear hf
          go_wp2_with fail
          refine (HTK.out t wr (HRA.out wr HB.out) ht).mono ?_
          rintro e w' ⟨hw, hcs⟩
          obtain rfl := hw.symm
          rcases hcs with ⟨hk, xv, yv, rfl⟩ | ⟨g, t2, hk, rfl, hk4, hk5, hk6⟩
          · have HNO := hid (map_none' HLD.out (rdL_n1 hk))
            clear hk
            go_wp2
            go_ret2
            exact ⟨HB.out, .inl ⟨HNO.out, rfl⟩⟩
          · have HK1 := hid hk
            clear hk
            go_wp2_with fail
            refine (HTK.out t2 wr (HRA.out wr HB.out) hk5).mono ?_
            rintro e w' ⟨hw, hcs⟩
            obtain rfl := hw.symm
            rcases hcs with ⟨hk, xv, yv, rfl⟩ | ⟨m, t3, hk, rfl, hk7, hk8, hk9⟩
            · have HNO := hid (map_none' HLD.out (rdL_n2 HK1.out hk))
              clear hk
              go_wp2
              go_ret2
              exact ⟨HB.out, .inl ⟨HNO.out, rfl⟩⟩
            · have HK2 := hid hk
              clear hk
              by_cases hte : t3 < n
              · have hte' : ¬ (n : Int) ≤ (t3 : Int) := by omega
                have hte2 : (t3 : Int) < (n : Int) := by omega
                have hte3 : (0 : Int) ≤ (t3 : Int) := by omega
                have hib : t3 < b.length := by have h5 := HN.out; omega
                have HDR := hid (show b.drop t3 = b[t3] :: b.drop (t3 + 1) from List.drop_eq_getElem_cons hib)
                obtain ⟨a', ea, _, b0⟩ := HRA.out wr HB.out t3 b[t3] (List.getElem?_eq_getElem hib)
                cases ea
                have hk256 := H8.out b[t3] (List.getElem_mem hib)
                obtain ⟨k, hk⟩ : ∃ k, k = b[t3] := ⟨_, rfl⟩
                rw [← hk] at HDR b0 hk256
                have HGO := hid (rdL_go (r := r) (n := f) (nx := nx) (p := lcl L) HK1.out HK2.out HDR.out)
                obtain ⟨lo, hlo⟩ : ∃ lo, lo = nx + g := ⟨_, rfl⟩
                obtain ⟨hh, hhh⟩ : ∃ hh, hh = lo + m := ⟨_, rfl⟩
                rw [← hlo, ← hhh] at HGO
                have q1 : IntKind.i64.wrap ((nx : Int) + (g : Int)) = (lo : Int) := by rw [IntKind.wrap_i64]; omega
                have q2 : IntKind.i64.wrap ((lo : Int) + (m : Int)) = (hh : Int) := by rw [IntKind.wrap_i64]; omega
                have q3 : IntKind.i64.wrap (k : Int) = (k : Int) := by rw [IntKind.wrap_i64]; omega
                have hnl : nx ≤ lo := by omega
                have hlh : lo ≤ hh := by omega
                have HGZ := hid (show g = 0 ↔ lo = nx by omega)
                have hg28 : g < 268435456 := hk6
                clear hk hlo hhh hib
                by_cases hM : 1114111 < hh
                · have hM' : (1114111 : Int) < (hh : Int) := by omega
                  have HNO := hid (map_none' HLD.out (HGO.out.trans (if_pos hM)))
                  go_wp2
                  go_ret2
                  exact ⟨HB.out, .inl ⟨HNO.out, rfl⟩⟩
                · have hM' : ¬ (1114111 : Int) < (hh : Int) := by omega
                  rw [if_neg hM] at HGO
                  have q4 : IntKind.i32.wrap (lo : Int) = (lo : Int) := by rw [IntKind.wrap_i32]; omega
                  have q5 : IntKind.i32.wrap (hh : Int) = (hh : Int) := by rw [IntKind.wrap_i32]; omega
                  have q6 : IntKind.i64.wrap ((t3 : Int) + 1) = ((t3 + 1 : Nat) : Int) := by rw [IntKind.wrap_i64]; omega
                  have q7 : IntKind.i64.wrap ((hh : Int) + 1) = ((hh + 1 : Nat) : Int) := by rw [IntKind.wrap_i64]; omega
                  obtain ⟨vv, p0, o0⟩ := HPT.out
                  obtain ⟨vo, vc, rfl⟩ := own_form o0
                  have hps := HS.out
                  have p1 : wr.cell? ⟨P, 0, none⟩ = some (.slice vo L.length vc) := by rw [cell_of_row wr P 0 _ 74 (0, 0) p0]; rfl
                  have p2 : wr.cell? ⟨P, 1, none⟩ = some (.int .i64 (r : Int)) := by rw [cell_of_row wr P 1 _ 74 (0, 0) p0]; rfl
                  obtain ⟨X, hX⟩ : ∃ X, X = wr.heap.size := ⟨_, rfl⟩
                  have HXE := hid hX
                  obtain ⟨ml, hml⟩ : ∃ ml, ml = L.length := ⟨_, rfl⟩
                  rw [← hml] at p0 o0 p1
                  have hmi : ml ≤ 1114112 := by have h5 := HLI.out; omega
                  have HML := hid hml.symm
                  have HXN := hid (show (Value.slice vo ml vc).ownBlock ≠ some X from fun e => by have := (o0.lt X e).2; omega)
                  have HPA1 := hid (show (wr.alloc (.cells #[.int .i32 (lo : Int), .int .i32 (hh : Int), .int .i64 (k : Int)] 36)).heap[P]? = some (.cells #[.slice vo ml vc, .int .i64 (r : Int)] 74 (0, 0)) by show (wr.heap.push _)[P]? = _; rw [Array.getElem?_push, if_neg (by omega)]; exact p0)
                  have HXA1 := hid (show (wr.alloc (.cells #[.int .i32 (lo : Int), .int .i32 (hh : Int), .int .i64 (k : Int)] 36)).heap[X]? = some (.cells #[.int .i32 (lo : Int), .int .i32 (hh : Int), .int .i64 (k : Int)] 36 (0, 0)) by rw [hX]; exact heap_alloc_new wr _)
                  have HOA1 := hid (o0.alloc (.cells #[.int .i32 (lo : Int), .int .i32 (hh : Int), .int .i64 (k : Int)] 36))
                  have HBA1 := hid (HB.out.alloc (Nat.le_of_lt hps) (.cells #[.int .i32 (lo : Int), .int .i32 (hh : Int), .int .i64 (k : Int)] 36))
                  have hXA1 : X < (wr.alloc (.cells #[.int .i32 (lo : Int), .int .i32 (hh : Int), .int .i64 (k : Int)] 36)).heap.size := by rw [hX]; simp
                  have hPX : P < X := by omega
                  have HO0 := hid o0
                  clear hX hml p0 o0 HPT
                  by_cases hkr : k = r
                  · have tt1 : ((k : Int) == (r : Int)) = true := by simp; omega
                    have HNO := hid (map_none' HLD.out (HGO.out.trans (if_pos (.inl hkr))))
                    have HBF := hid (show ∀ q, Below P w ((wr.alloc (.cells #[.int .i32 (lo : Int), .int .i32 (hh : Int), .int .i64 (k : Int)] 36)).drewN q) from fun q => HBA1.out.trans (below_drewN P _ q))
                    clear hkr
                    go_wp2_with fail
                    go_quiet (fail)
                    go_wp2
                    go_ret2
                    exact ⟨HBF.out _, .inl ⟨HNO.out, rfl⟩⟩
                  · have tt1 : ((k : Int) == (r : Int)) = false := by simp; omega
                    have HKR := hid hkr
                    clear hkr
                    rcases List.eq_nil_or_concat L with hL0 | ⟨Q, z, hL0⟩
                    · have HG2 := hid (HGO.out.trans (if_neg (fun h => h.elim HKR.out (fun h => by rw [hL0] at h; simp [lcl] at h))))
                      have hm0 : ml = 0 := by have h5 := HML.out; rw [hL0] at h5; exact h5.symm
                      subst hm0
                      clear hL0
                      go_wp2_with fail
                      go_quiet (fail)

                      have HPW := hid (show ((wr.alloc (.cells #[.int .i32 (lo : Int), .int .i32 (hh : Int), .int .i64 (k : Int)] 36)).drewN nq).heap[P]? = some (.cells #[.slice vo 0 vc, .int .i64 (r : Int)] 74 (0, 0)) from HPA1.out)
                      have HXW := hid (show ((wr.alloc (.cells #[.int .i32 (lo : Int), .int .i32 (hh : Int), .int .i64 (k : Int)] 36)).drewN nq).heap[X]? = some (.cells #[.int .i32 (lo : Int), .int .i32 (hh : Int), .int .i64 (k : Int)] 36 (0, 0)) from HXA1.out)
                      have HOW := hid (show ((wr.alloc (.cells #[.int .i32 (lo : Int), .int .i32 (hh : Int), .int .i64 (k : Int)] 36)).drewN nq).ownsRow (P + 1) 36 3 (.slice vo 0 vc) 0 (rks L) from HOA1.out)
                      have HBW := hid (HBA1.out.trans (below_drewN P (wr.alloc (.cells #[.int .i32 (lo : Int), .int .i32 (hh : Int), .int .i64 (k : Int)] 36)) nq))
                      have hXW : X < ((wr.alloc (.cells #[.int .i32 (lo : Int), .int .i32 (hh : Int), .int .i64 (k : Int)] 36)).drewN nq).heap.size := hXA1
                      obtain ⟨W, hW⟩ : ∃ W, W = (wr.alloc (.cells #[.int .i32 (lo : Int), .int .i32 (hh : Int), .int .i64 (k : Int)] 36)).drewN nq := ⟨_, rfl⟩
                      rw [← hW] at HPW HXW HOW HBW hXW ⊢
                      rw [← HXE.out]
                      have x0 : W.cell? ⟨P, 0, none⟩ = some (.slice vo 0 vc) := by rw [cell_of_row W P 0 _ 74 (0, 0) HPW.out]; rfl
                      have x1 : W.cell? ⟨X, 0, none⟩ = some (.int .i32 (lo : Int)) := by rw [cell_of_row W X 0 _ 36 (0, 0) HXW.out]; rfl
                      have x2 : W.cell? ⟨X, 1, none⟩ = some (.int .i32 (hh : Int)) := by rw [cell_of_row W X 1 _ 36 (0, 0) HXW.out]; rfl
                      have x3 : W.cell? ⟨X, 2, none⟩ = some (.int .i64 (k : Int)) := by rw [cell_of_row W X 2 _ 36 (0, 0) HXW.out]; rfl
                      clear hW p1 p2 HPA1 HXA1 HOA1 HBA1 hXA1

                      go_wp2_with fail
                      refine wp_region_noPanic ?_
                      refine wp_region_holdG 6 (fun w' => w'.cell? ⟨P, 0, none⟩ = some (.slice vo 0 vc) ∧ w'.cell? ⟨X, 0, none⟩ = some (.int .i32 (lo : Int)) ∧ w'.cell? ⟨X, 1, none⟩ = some (.int .i32 (hh : Int)) ∧ w'.cell? ⟨X, 2, none⟩ = some (.int .i64 (k : Int))) (fun j => j == 10) (by kernel_rfl) (by kernel_rfl) (by decide) (fun j hj => by rcases (show j = 10 by simpa using hj) with rfl; decide) (by kernel_rfl) (fun _ _ _ _ _ h => h) ⟨x0, x1, x2, x3⟩ ?_
                      dsimp only [List.take, List.drop]
                      iterate 6 (refine wpHold_step ?_ rfl (fun w' hS => ?_) ?_; (rotate_left; (obtain ⟨s1, s2, s3, s4⟩ := hS; go_simp; with_reducible rfl); rotate_left))
                      simp only [Act.put, List.setIfInBounds_toArray, List.set_cons_zero, List.set_cons_succ]
                      show wpTailG _ _ _ _ _ _ _ _ _
                      have HPD := hid (show W.drew.heap[P]? = some (.cells #[.slice vo 0 vc, .int .i64 (r : Int)] 74 (0, 0)) from HPW.out)
                      have HXD := hid (show W.drew.heap[X]? = some (.cells #[.int .i32 (lo : Int), .int .i32 (hh : Int), .int .i64 (k : Int)] 36 (0, 0)) from HXW.out)
                      have HOD := hid (show W.drew.ownsRow (P + 1) 36 3 (.slice vo 0 vc) 0 (rks L) from HOW.out)
                      have HBD := hid (HBW.out.trans (show Below P W W.drew from ⟨rfl, rfl, rfl, Nat.le_refl _, fun _ _ => rfl⟩))
                      have hXD : X < W.drew.heap.size := hXW
                      obtain ⟨V, hV⟩ : ∃ V, V = W.drew := ⟨_, rfl⟩
                      rw [← hV] at HPD HXD HOD HBD hXD ⊢
                      clear hV x0 x1 x2 x3 HPW HXW HOW HBW hXW
                      refine tailG_yes (by kernel_rfl) fun KK hKK => ?_
                      go_simp
                      have HKS := hid (show ∀ V' : World, V'.heap[P]? = some (.cells #[.slice vo 0 vc, .int .i64 (r : Int)] 74 (0, 0)) → V'.heap[X]? = some (.cells #[.int .i32 (lo : Int), .int .i32 (hh : Int), .int .i64 (k : Int)] 36 (0, 0)) → (V'.cell? ⟨P, 0, none⟩ = some (.slice vo 0 vc) ∧ V'.cell? ⟨X, 0, none⟩ = some (.int .i32 (lo : Int)) ∧ V'.cell? ⟨X, 1, none⟩ = some (.int .i32 (hh : Int)) ∧ V'.cell? ⟨X, 2, none⟩ = some (.int .i64 (k : Int))) from fun V' h1 h2 => ⟨by rw [cell_of_row V' P 0 _ 74 (0, 0) h1]; rfl, by rw [cell_of_row V' X 0 _ 36 (0, 0) h2]; rfl, by rw [cell_of_row V' X 1 _ 36 (0, 0) h2]; rfl, by rw [cell_of_row V' X 2 _ 36 (0, 0) h2]; rfl⟩)
                      have HBA2 := hid (HBD.out.alloc (by omega) (.cells #[.int .i32 (lo : Int), .int .i32 (hh : Int), .int .i64 (k : Int)] 36))
                      have HPA2 := hid (show (V.alloc (.cells #[.int .i32 (lo : Int), .int .i32 (hh : Int), .int .i64 (k : Int)] 36)).heap[P]? = some (.cells #[.slice vo 0 vc, .int .i64 (r : Int)] 74 (0, 0)) by show (V.heap.push _)[P]? = _; rw [Array.getElem?_push, if_neg (by omega)]; exact HPD.out)
                      have HXA2 := hid (show (V.alloc (.cells #[.int .i32 (lo : Int), .int .i32 (hh : Int), .int .i64 (k : Int)] 36)).heap[X]? = some (.cells #[.int .i32 (lo : Int), .int .i32 (hh : Int), .int .i64 (k : Int)] 36 (0, 0)) by show (V.heap.push _)[X]? = _; rw [Array.getElem?_push, if_neg (by omega)]; exact HXD.out)
                      refine hKK _ _ (fun _ => HKS.out _ HPA2.out HXA2.out) ?_
                      clear hKK KK
                      try simp only [Act.put, List.setIfInBounds_toArray, List.set_cons_zero, List.set_cons_succ]
                      refine tailG_yes (by kernel_rfl) fun KK hKK => ?_
                      refine wp_append_lies _ _ _ 25 rfl (P + 1) 36 i0 (.agg #[.int .i32 0, .int .i32 0, .int .i64 0]) 3 16 Try.underlying25 hi36 hz0 hz1 hz2 rfl (by decide) _ 0 (rks L) rfl (HOD.out.alloc _) ⟨V.heap.size, 0, none⟩ 1 1 (rkc ((lo : Int), (hh : Int), (k : Int))) rfl rfl (news_k V ((lo : Int), (hh : Int), (k : Int)) 36) (rkc_one _) (by decide) (by unfold maxLen; omega) (by omega) (by simp; omega) (V.heap.size + 1) (by simp) ?_
                      intro q2 cc2 w2 o2 gr2 hl2 hlt2
                      have HB2 := hid (HBA2.out.grown gr2 (by simp; omega) (fun k hk => by have := (HOD.out.lt k hk).1; omega))
                      have HP2 := hid ((gr2.block P (by simp; omega) (fun e => by have := (HOD.out.lt P e.symm).1; omega)).trans HPA2.out)
                      have HX2 := hid ((gr2.block X (by simp; omega) (fun e => HXN.out e.symm)).trans HXA2.out)
                      have HO2 := hid (show w2.ownsRow (P + 1) 36 3 (.slice (some ⟨q2, 0, none⟩) (0 + 1) cc2) (L ++ [(lo, hh, k)]).length (rks (L ++ [(lo, hh, k)])) by rw [show rks (L ++ [(lo, hh, k)]) = rks L ++ rkc ((lo : Int), (hh : Int), (k : Int)) by simp [rks, rkT], List.length_append, HML.out]; exact o2)
                      have hps2 : P < w2.heap.size := lt_of_heap HP2.out
                      have fz2 : w2.frozen? ⟨P, 0, none⟩ = false := frozen_of_row w2 P 0 _ 74 HP2.out
                      refine hKK _ _ (fun _ => HKS.out _ HP2.out HX2.out) ?_
                      clear hKK KK o2 gr2 hl2 hlt2
                      try simp only [Act.put, List.setIfInBounds_toArray, List.set_cons_zero, List.set_cons_succ]
                      refine tailG_yes (by kernel_rfl) fun KK hKK => ?_
                      go_simp
                      refine hKK _ _ (fun _ => HKS.out _ HP2.out HX2.out) ?_
                      clear hKK KK
                      try simp only [Act.put, List.setIfInBounds_toArray, List.set_cons_zero, List.set_cons_succ]
                      refine tailG_yes (by kernel_rfl) fun KK hKK => ?_
                      go_simp
                      refine hKK _ _ (fun _ => HKS.out _ HP2.out HX2.out) ?_
                      clear hKK KK
                      try simp only [Act.put, List.setIfInBounds_toArray, List.set_cons_zero, List.set_cons_succ]
                      have c2 : w2.cell? ⟨P, 0, none⟩ = some (.slice vo 0 vc) := by rw [cell_of_row w2 P 0 _ 74 (0, 0) HP2.out]; rfl
                      refine tailG_yes (by kernel_rfl) fun KK hKK => ?_
                      go_simp
                      refine hKK _ _ (fun h => by cases h) ?_
                      clear hKK KK
                      try simp only [Act.put, List.setIfInBounds_toArray, List.set_cons_zero, List.set_cons_succ]
                      refine tailG_nil (NoPanic.normal ?_)
                      obtain ⟨s1, s2⟩ := QAt.set HP2.out (.slice (some ⟨q2, 0, none⟩) (0 + 1) cc2)
                      have HQ3 := hid (show QtAt P (L ++ [(lo, hh, k)]) r (w2.setCell ⟨P, 0, none⟩ (.slice (some ⟨q2, 0, none⟩) (0 + 1) cc2)) from ⟨_, s1, s2.own HO2.out (Nat.lt_succ_self P)⟩)
                      have HB3 := hid (s2.below HB2.out)
                      have HS3 := hid (show P < (w2.setCell ⟨P, 0, none⟩ (.slice (some ⟨q2, 0, none⟩) (0 + 1) cc2)).heap.size by rw [s2.size]; exact hps2)
                      have HLI3 := hid (show (L ++ [(lo, hh, k)]).length = i + 1 by rw [List.length_append, HLI.out]; rfl)
                      have HLD3 := hid (show (rdL r (v - (i + 1)) (hh + 1) (lcl (L ++ [(lo, hh, k)])) (b.drop (t3 + 1))).map ((L ++ [(lo, hh, k)]) ++ ·) = rl b by rw [HF.out, show lcl (L ++ [(lo, hh, k)]) = some k by simp [lcl]]; exact map_go HLD.out HG2.out)
                      clear s1 s2 HPD HXD HOD HBD HBA2 HPA2 HXA2 HP2 HX2 HO2 c2 fz2
                      go_wp2
                      go_roundw
                      case rel => exact ⟨t3 + 1, i + 1, hh + 1, L ++ [(lo, hh, k)], rfl, rfl, rfl, by go_num, by omega, by omega, by omega, by omega, HLI3, HLD3, HQ3, HB3, HS3⟩
                      case measure => simp [intOf]; omega

                    · rw [List.concat_eq_append] at hL0
                      have hmQ : ml = Q.length + 1 := by have h5 := HML.out; rw [hL0] at h5; simp at h5; omega
                      have HLC := hid (show lcl L = some z.2.2 by rw [hL0]; simp [lcl])
                      obtain ⟨kq, hkq⟩ : ∃ kq, kq = Q.length := ⟨_, rfl⟩
                      obtain ⟨q, cap', hve, hqB, hqw⟩ := HO0.out.form (by omega)
                      cases hve
                      have e2 : wr.cell? ⟨q, kq * 3 + 2, none⟩ = some (.int .i64 (z.2.2 : Int)) := by rw [hkq, HO0.out.cellAt _ (by omega), hL0]; exact rks_at Q z 2 _ rfl
                      have k0 : (0 : Int) < (ml : Int) := by omega
                      have kN : 0 < ml := by omega
                      have k1 : (ml : Int) - 1 = (kq : Int) := by omega
                      have k2 : IntKind.i64.wrap (kq : Int) = (kq : Int) := by rw [IntKind.wrap_i64]; omega
                      have k3 : (kq : Int) < (ml : Int) := by omega
                      have k4 : (0 : Int) ≤ (kq : Int) := by omega
                      obtain ⟨zc, hzc⟩ : ∃ zc, zc = z.2.2 := ⟨_, rfl⟩
                      rw [← hzc] at e2 HLC
                      clear hL0 hmQ hkq hzc
                      by_cases hg0 : g = 0
                      · have g0 : ((g : Int) == 0) = true := by simp; omega
                        by_cases hzk : zc = k
                        · have tt2 : ((zc : Int) == (k : Int)) = true := by simp; omega
                          have HNO := hid (map_none' HLD.out (HGO.out.trans (if_pos (.inr ⟨hg0, by rw [HLC.out, hzk]⟩))))
                          have HBF := hid (show ∀ q, Below P w ((wr.alloc (.cells #[.int .i32 (lo : Int), .int .i32 (hh : Int), .int .i64 (k : Int)] 36)).drewN q) from fun q => HBA1.out.trans (below_drewN P _ q))
                          clear hzk hg0
                          go_wp2_with fail
                          go_quiet (fail)
                          go_wp2
                          go_ret2
                          exact ⟨HBF.out _, .inl ⟨HNO.out, rfl⟩⟩
                        · have tt2 : ((zc : Int) == (k : Int)) = false := by simp; omega
                          have HG2 := hid (HGO.out.trans (if_neg (fun h => h.elim HKR.out (fun h => hzk (by have h5 := h.2; rw [HLC.out] at h5; exact Option.some.inj h5)))))
                          clear hzk hg0
                          go_wp2_with fail
                          go_quiet (fail)

                          have HPW := hid (show ((wr.alloc (.cells #[.int .i32 (lo : Int), .int .i32 (hh : Int), .int .i64 (k : Int)] 36)).drewN nq).heap[P]? = some (.cells #[.slice (some ⟨q, 0, none⟩) ml vc, .int .i64 (r : Int)] 74 (0, 0)) from HPA1.out)
                          have HXW := hid (show ((wr.alloc (.cells #[.int .i32 (lo : Int), .int .i32 (hh : Int), .int .i64 (k : Int)] 36)).drewN nq).heap[X]? = some (.cells #[.int .i32 (lo : Int), .int .i32 (hh : Int), .int .i64 (k : Int)] 36 (0, 0)) from HXA1.out)
                          have HOW := hid (show ((wr.alloc (.cells #[.int .i32 (lo : Int), .int .i32 (hh : Int), .int .i64 (k : Int)] 36)).drewN nq).ownsRow (P + 1) 36 3 (.slice (some ⟨q, 0, none⟩) ml vc) ml (rks L) from HOA1.out)
                          have HBW := hid (HBA1.out.trans (below_drewN P (wr.alloc (.cells #[.int .i32 (lo : Int), .int .i32 (hh : Int), .int .i64 (k : Int)] 36)) nq))
                          have hXW : X < ((wr.alloc (.cells #[.int .i32 (lo : Int), .int .i32 (hh : Int), .int .i64 (k : Int)] 36)).drewN nq).heap.size := hXA1
                          obtain ⟨W, hW⟩ : ∃ W, W = (wr.alloc (.cells #[.int .i32 (lo : Int), .int .i32 (hh : Int), .int .i64 (k : Int)] 36)).drewN nq := ⟨_, rfl⟩
                          rw [← hW] at HPW HXW HOW HBW hXW ⊢
                          rw [← HXE.out]
                          have x0 : W.cell? ⟨P, 0, none⟩ = some (.slice (some ⟨q, 0, none⟩) ml vc) := by rw [cell_of_row W P 0 _ 74 (0, 0) HPW.out]; rfl
                          have x1 : W.cell? ⟨X, 0, none⟩ = some (.int .i32 (lo : Int)) := by rw [cell_of_row W X 0 _ 36 (0, 0) HXW.out]; rfl
                          have x2 : W.cell? ⟨X, 1, none⟩ = some (.int .i32 (hh : Int)) := by rw [cell_of_row W X 1 _ 36 (0, 0) HXW.out]; rfl
                          have x3 : W.cell? ⟨X, 2, none⟩ = some (.int .i64 (k : Int)) := by rw [cell_of_row W X 2 _ 36 (0, 0) HXW.out]; rfl
                          clear hW e2 p1 p2 HPA1 HXA1 HOA1 HBA1 hXA1

                          go_wp2_with fail
                          refine wp_region_noPanic ?_
                          refine wp_region_holdG 6 (fun w' => w'.cell? ⟨P, 0, none⟩ = some (.slice (some ⟨q, 0, none⟩) ml vc) ∧ w'.cell? ⟨X, 0, none⟩ = some (.int .i32 (lo : Int)) ∧ w'.cell? ⟨X, 1, none⟩ = some (.int .i32 (hh : Int)) ∧ w'.cell? ⟨X, 2, none⟩ = some (.int .i64 (k : Int))) (fun j => j == 10) (by kernel_rfl) (by kernel_rfl) (by decide) (fun j hj => by rcases (show j = 10 by simpa using hj) with rfl; decide) (by kernel_rfl) (fun _ _ _ _ _ h => h) ⟨x0, x1, x2, x3⟩ ?_
                          dsimp only [List.take, List.drop]
                          iterate 6 (refine wpHold_step ?_ rfl (fun w' hS => ?_) ?_; (rotate_left; (obtain ⟨s1, s2, s3, s4⟩ := hS; go_simp; with_reducible rfl); rotate_left))
                          simp only [Act.put, List.setIfInBounds_toArray, List.set_cons_zero, List.set_cons_succ]
                          show wpTailG _ _ _ _ _ _ _ _ _
                          have HPD := hid (show W.drew.heap[P]? = some (.cells #[.slice (some ⟨q, 0, none⟩) ml vc, .int .i64 (r : Int)] 74 (0, 0)) from HPW.out)
                          have HXD := hid (show W.drew.heap[X]? = some (.cells #[.int .i32 (lo : Int), .int .i32 (hh : Int), .int .i64 (k : Int)] 36 (0, 0)) from HXW.out)
                          have HOD := hid (show W.drew.ownsRow (P + 1) 36 3 (.slice (some ⟨q, 0, none⟩) ml vc) ml (rks L) from HOW.out)
                          have HBD := hid (HBW.out.trans (show Below P W W.drew from ⟨rfl, rfl, rfl, Nat.le_refl _, fun _ _ => rfl⟩))
                          have hXD : X < W.drew.heap.size := hXW
                          obtain ⟨V, hV⟩ : ∃ V, V = W.drew := ⟨_, rfl⟩
                          rw [← hV] at HPD HXD HOD HBD hXD ⊢
                          clear hV x0 x1 x2 x3 HPW HXW HOW HBW hXW
                          refine tailG_yes (by kernel_rfl) fun KK hKK => ?_
                          go_simp
                          have HKS := hid (show ∀ V' : World, V'.heap[P]? = some (.cells #[.slice (some ⟨q, 0, none⟩) ml vc, .int .i64 (r : Int)] 74 (0, 0)) → V'.heap[X]? = some (.cells #[.int .i32 (lo : Int), .int .i32 (hh : Int), .int .i64 (k : Int)] 36 (0, 0)) → (V'.cell? ⟨P, 0, none⟩ = some (.slice (some ⟨q, 0, none⟩) ml vc) ∧ V'.cell? ⟨X, 0, none⟩ = some (.int .i32 (lo : Int)) ∧ V'.cell? ⟨X, 1, none⟩ = some (.int .i32 (hh : Int)) ∧ V'.cell? ⟨X, 2, none⟩ = some (.int .i64 (k : Int))) from fun V' h1 h2 => ⟨by rw [cell_of_row V' P 0 _ 74 (0, 0) h1]; rfl, by rw [cell_of_row V' X 0 _ 36 (0, 0) h2]; rfl, by rw [cell_of_row V' X 1 _ 36 (0, 0) h2]; rfl, by rw [cell_of_row V' X 2 _ 36 (0, 0) h2]; rfl⟩)
                          have HBA2 := hid (HBD.out.alloc (by omega) (.cells #[.int .i32 (lo : Int), .int .i32 (hh : Int), .int .i64 (k : Int)] 36))
                          have HPA2 := hid (show (V.alloc (.cells #[.int .i32 (lo : Int), .int .i32 (hh : Int), .int .i64 (k : Int)] 36)).heap[P]? = some (.cells #[.slice (some ⟨q, 0, none⟩) ml vc, .int .i64 (r : Int)] 74 (0, 0)) by show (V.heap.push _)[P]? = _; rw [Array.getElem?_push, if_neg (by omega)]; exact HPD.out)
                          have HXA2 := hid (show (V.alloc (.cells #[.int .i32 (lo : Int), .int .i32 (hh : Int), .int .i64 (k : Int)] 36)).heap[X]? = some (.cells #[.int .i32 (lo : Int), .int .i32 (hh : Int), .int .i64 (k : Int)] 36 (0, 0)) by show (V.heap.push _)[X]? = _; rw [Array.getElem?_push, if_neg (by omega)]; exact HXD.out)
                          refine hKK _ _ (fun _ => HKS.out _ HPA2.out HXA2.out) ?_
                          clear hKK KK
                          try simp only [Act.put, List.setIfInBounds_toArray, List.set_cons_zero, List.set_cons_succ]
                          refine tailG_yes (by kernel_rfl) fun KK hKK => ?_
                          refine wp_append_lies _ _ _ 25 rfl (P + 1) 36 i0 (.agg #[.int .i32 0, .int .i32 0, .int .i64 0]) 3 16 Try.underlying25 hi36 hz0 hz1 hz2 rfl (by decide) _ ml (rks L) rfl (HOD.out.alloc _) ⟨V.heap.size, 0, none⟩ 1 1 (rkc ((lo : Int), (hh : Int), (k : Int))) rfl rfl (news_k V ((lo : Int), (hh : Int), (k : Int)) 36) (rkc_one _) (by decide) (by unfold maxLen; omega) (by omega) (by simp; omega) (V.heap.size + 1) (by simp) ?_
                          intro q2 cc2 w2 o2 gr2 hl2 hlt2
                          have HB2 := hid (HBA2.out.grown gr2 (by simp; omega) (fun k hk => by have := (HOD.out.lt k hk).1; omega))
                          have HP2 := hid ((gr2.block P (by simp; omega) (fun e => by have := (HOD.out.lt P e.symm).1; omega)).trans HPA2.out)
                          have HX2 := hid ((gr2.block X (by simp; omega) (fun e => HXN.out e.symm)).trans HXA2.out)
                          have HO2 := hid (show w2.ownsRow (P + 1) 36 3 (.slice (some ⟨q2, 0, none⟩) (ml + 1) cc2) (L ++ [(lo, hh, k)]).length (rks (L ++ [(lo, hh, k)])) by rw [show rks (L ++ [(lo, hh, k)]) = rks L ++ rkc ((lo : Int), (hh : Int), (k : Int)) by simp [rks, rkT], List.length_append, HML.out]; exact o2)
                          have hps2 : P < w2.heap.size := lt_of_heap HP2.out
                          have fz2 : w2.frozen? ⟨P, 0, none⟩ = false := frozen_of_row w2 P 0 _ 74 HP2.out
                          refine hKK _ _ (fun _ => HKS.out _ HP2.out HX2.out) ?_
                          clear hKK KK o2 gr2 hl2 hlt2
                          try simp only [Act.put, List.setIfInBounds_toArray, List.set_cons_zero, List.set_cons_succ]
                          refine tailG_yes (by kernel_rfl) fun KK hKK => ?_
                          go_simp
                          refine hKK _ _ (fun _ => HKS.out _ HP2.out HX2.out) ?_
                          clear hKK KK
                          try simp only [Act.put, List.setIfInBounds_toArray, List.set_cons_zero, List.set_cons_succ]
                          refine tailG_yes (by kernel_rfl) fun KK hKK => ?_
                          go_simp
                          refine hKK _ _ (fun _ => HKS.out _ HP2.out HX2.out) ?_
                          clear hKK KK
                          try simp only [Act.put, List.setIfInBounds_toArray, List.set_cons_zero, List.set_cons_succ]
                          have c2 : w2.cell? ⟨P, 0, none⟩ = some (.slice (some ⟨q, 0, none⟩) ml vc) := by rw [cell_of_row w2 P 0 _ 74 (0, 0) HP2.out]; rfl
                          refine tailG_yes (by kernel_rfl) fun KK hKK => ?_
                          go_simp
                          refine hKK _ _ (fun h => by cases h) ?_
                          clear hKK KK
                          try simp only [Act.put, List.setIfInBounds_toArray, List.set_cons_zero, List.set_cons_succ]
                          refine tailG_nil (NoPanic.normal ?_)
                          obtain ⟨s1, s2⟩ := QAt.set HP2.out (.slice (some ⟨q2, 0, none⟩) (ml + 1) cc2)
                          have HQ3 := hid (show QtAt P (L ++ [(lo, hh, k)]) r (w2.setCell ⟨P, 0, none⟩ (.slice (some ⟨q2, 0, none⟩) (ml + 1) cc2)) from ⟨_, s1, s2.own HO2.out (Nat.lt_succ_self P)⟩)
                          have HB3 := hid (s2.below HB2.out)
                          have HS3 := hid (show P < (w2.setCell ⟨P, 0, none⟩ (.slice (some ⟨q2, 0, none⟩) (ml + 1) cc2)).heap.size by rw [s2.size]; exact hps2)
                          have HLI3 := hid (show (L ++ [(lo, hh, k)]).length = i + 1 by rw [List.length_append, HLI.out]; rfl)
                          have HLD3 := hid (show (rdL r (v - (i + 1)) (hh + 1) (lcl (L ++ [(lo, hh, k)])) (b.drop (t3 + 1))).map ((L ++ [(lo, hh, k)]) ++ ·) = rl b by rw [HF.out, show lcl (L ++ [(lo, hh, k)]) = some k by simp [lcl]]; exact map_go HLD.out HG2.out)
                          clear s1 s2 HPD HXD HOD HBD HBA2 HPA2 HXA2 HP2 HX2 HO2 c2 fz2
                          go_wp2
                          go_roundw
                          case rel => exact ⟨t3 + 1, i + 1, hh + 1, L ++ [(lo, hh, k)], rfl, rfl, rfl, by go_num, by omega, by omega, by omega, by omega, HLI3, HLD3, HQ3, HB3, HS3⟩
                          case measure => simp [intOf]; omega

                      · have g0 : ((g : Int) == 0) = false := by simp; omega
                        have HG2 := hid (HGO.out.trans (if_neg (fun h => h.elim HKR.out (fun h => hg0 h.1))))
                        clear hg0
                        go_wp2_with fail
                        go_quiet (fail)

                        have HPW := hid (show ((wr.alloc (.cells #[.int .i32 (lo : Int), .int .i32 (hh : Int), .int .i64 (k : Int)] 36)).drewN nq).heap[P]? = some (.cells #[.slice (some ⟨q, 0, none⟩) ml vc, .int .i64 (r : Int)] 74 (0, 0)) from HPA1.out)
                        have HXW := hid (show ((wr.alloc (.cells #[.int .i32 (lo : Int), .int .i32 (hh : Int), .int .i64 (k : Int)] 36)).drewN nq).heap[X]? = some (.cells #[.int .i32 (lo : Int), .int .i32 (hh : Int), .int .i64 (k : Int)] 36 (0, 0)) from HXA1.out)
                        have HOW := hid (show ((wr.alloc (.cells #[.int .i32 (lo : Int), .int .i32 (hh : Int), .int .i64 (k : Int)] 36)).drewN nq).ownsRow (P + 1) 36 3 (.slice (some ⟨q, 0, none⟩) ml vc) ml (rks L) from HOA1.out)
                        have HBW := hid (HBA1.out.trans (below_drewN P (wr.alloc (.cells #[.int .i32 (lo : Int), .int .i32 (hh : Int), .int .i64 (k : Int)] 36)) nq))
                        have hXW : X < ((wr.alloc (.cells #[.int .i32 (lo : Int), .int .i32 (hh : Int), .int .i64 (k : Int)] 36)).drewN nq).heap.size := hXA1
                        obtain ⟨W, hW⟩ : ∃ W, W = (wr.alloc (.cells #[.int .i32 (lo : Int), .int .i32 (hh : Int), .int .i64 (k : Int)] 36)).drewN nq := ⟨_, rfl⟩
                        rw [← hW] at HPW HXW HOW HBW hXW ⊢
                        rw [← HXE.out]
                        have x0 : W.cell? ⟨P, 0, none⟩ = some (.slice (some ⟨q, 0, none⟩) ml vc) := by rw [cell_of_row W P 0 _ 74 (0, 0) HPW.out]; rfl
                        have x1 : W.cell? ⟨X, 0, none⟩ = some (.int .i32 (lo : Int)) := by rw [cell_of_row W X 0 _ 36 (0, 0) HXW.out]; rfl
                        have x2 : W.cell? ⟨X, 1, none⟩ = some (.int .i32 (hh : Int)) := by rw [cell_of_row W X 1 _ 36 (0, 0) HXW.out]; rfl
                        have x3 : W.cell? ⟨X, 2, none⟩ = some (.int .i64 (k : Int)) := by rw [cell_of_row W X 2 _ 36 (0, 0) HXW.out]; rfl
                        clear hW e2 p1 p2 HPA1 HXA1 HOA1 HBA1 hXA1

                        go_wp2_with fail
                        refine wp_region_noPanic ?_
                        refine wp_region_holdG 6 (fun w' => w'.cell? ⟨P, 0, none⟩ = some (.slice (some ⟨q, 0, none⟩) ml vc) ∧ w'.cell? ⟨X, 0, none⟩ = some (.int .i32 (lo : Int)) ∧ w'.cell? ⟨X, 1, none⟩ = some (.int .i32 (hh : Int)) ∧ w'.cell? ⟨X, 2, none⟩ = some (.int .i64 (k : Int))) (fun j => j == 10) (by kernel_rfl) (by kernel_rfl) (by decide) (fun j hj => by rcases (show j = 10 by simpa using hj) with rfl; decide) (by kernel_rfl) (fun _ _ _ _ _ h => h) ⟨x0, x1, x2, x3⟩ ?_
                        dsimp only [List.take, List.drop]
                        iterate 6 (refine wpHold_step ?_ rfl (fun w' hS => ?_) ?_; (rotate_left; (obtain ⟨s1, s2, s3, s4⟩ := hS; go_simp; with_reducible rfl); rotate_left))
                        simp only [Act.put, List.setIfInBounds_toArray, List.set_cons_zero, List.set_cons_succ]
                        show wpTailG _ _ _ _ _ _ _ _ _
                        have HPD := hid (show W.drew.heap[P]? = some (.cells #[.slice (some ⟨q, 0, none⟩) ml vc, .int .i64 (r : Int)] 74 (0, 0)) from HPW.out)
                        have HXD := hid (show W.drew.heap[X]? = some (.cells #[.int .i32 (lo : Int), .int .i32 (hh : Int), .int .i64 (k : Int)] 36 (0, 0)) from HXW.out)
                        have HOD := hid (show W.drew.ownsRow (P + 1) 36 3 (.slice (some ⟨q, 0, none⟩) ml vc) ml (rks L) from HOW.out)
                        have HBD := hid (HBW.out.trans (show Below P W W.drew from ⟨rfl, rfl, rfl, Nat.le_refl _, fun _ _ => rfl⟩))
                        have hXD : X < W.drew.heap.size := hXW
                        obtain ⟨V, hV⟩ : ∃ V, V = W.drew := ⟨_, rfl⟩
                        rw [← hV] at HPD HXD HOD HBD hXD ⊢
                        clear hV x0 x1 x2 x3 HPW HXW HOW HBW hXW
                        refine tailG_yes (by kernel_rfl) fun KK hKK => ?_
                        go_simp
                        have HKS := hid (show ∀ V' : World, V'.heap[P]? = some (.cells #[.slice (some ⟨q, 0, none⟩) ml vc, .int .i64 (r : Int)] 74 (0, 0)) → V'.heap[X]? = some (.cells #[.int .i32 (lo : Int), .int .i32 (hh : Int), .int .i64 (k : Int)] 36 (0, 0)) → (V'.cell? ⟨P, 0, none⟩ = some (.slice (some ⟨q, 0, none⟩) ml vc) ∧ V'.cell? ⟨X, 0, none⟩ = some (.int .i32 (lo : Int)) ∧ V'.cell? ⟨X, 1, none⟩ = some (.int .i32 (hh : Int)) ∧ V'.cell? ⟨X, 2, none⟩ = some (.int .i64 (k : Int))) from fun V' h1 h2 => ⟨by rw [cell_of_row V' P 0 _ 74 (0, 0) h1]; rfl, by rw [cell_of_row V' X 0 _ 36 (0, 0) h2]; rfl, by rw [cell_of_row V' X 1 _ 36 (0, 0) h2]; rfl, by rw [cell_of_row V' X 2 _ 36 (0, 0) h2]; rfl⟩)
                        have HBA2 := hid (HBD.out.alloc (by omega) (.cells #[.int .i32 (lo : Int), .int .i32 (hh : Int), .int .i64 (k : Int)] 36))
                        have HPA2 := hid (show (V.alloc (.cells #[.int .i32 (lo : Int), .int .i32 (hh : Int), .int .i64 (k : Int)] 36)).heap[P]? = some (.cells #[.slice (some ⟨q, 0, none⟩) ml vc, .int .i64 (r : Int)] 74 (0, 0)) by show (V.heap.push _)[P]? = _; rw [Array.getElem?_push, if_neg (by omega)]; exact HPD.out)
                        have HXA2 := hid (show (V.alloc (.cells #[.int .i32 (lo : Int), .int .i32 (hh : Int), .int .i64 (k : Int)] 36)).heap[X]? = some (.cells #[.int .i32 (lo : Int), .int .i32 (hh : Int), .int .i64 (k : Int)] 36 (0, 0)) by show (V.heap.push _)[X]? = _; rw [Array.getElem?_push, if_neg (by omega)]; exact HXD.out)
                        refine hKK _ _ (fun _ => HKS.out _ HPA2.out HXA2.out) ?_
                        clear hKK KK
                        try simp only [Act.put, List.setIfInBounds_toArray, List.set_cons_zero, List.set_cons_succ]
                        refine tailG_yes (by kernel_rfl) fun KK hKK => ?_
                        refine wp_append_lies _ _ _ 25 rfl (P + 1) 36 i0 (.agg #[.int .i32 0, .int .i32 0, .int .i64 0]) 3 16 Try.underlying25 hi36 hz0 hz1 hz2 rfl (by decide) _ ml (rks L) rfl (HOD.out.alloc _) ⟨V.heap.size, 0, none⟩ 1 1 (rkc ((lo : Int), (hh : Int), (k : Int))) rfl rfl (news_k V ((lo : Int), (hh : Int), (k : Int)) 36) (rkc_one _) (by decide) (by unfold maxLen; omega) (by omega) (by simp; omega) (V.heap.size + 1) (by simp) ?_
                        intro q2 cc2 w2 o2 gr2 hl2 hlt2
                        have HB2 := hid (HBA2.out.grown gr2 (by simp; omega) (fun k hk => by have := (HOD.out.lt k hk).1; omega))
                        have HP2 := hid ((gr2.block P (by simp; omega) (fun e => by have := (HOD.out.lt P e.symm).1; omega)).trans HPA2.out)
                        have HX2 := hid ((gr2.block X (by simp; omega) (fun e => HXN.out e.symm)).trans HXA2.out)
                        have HO2 := hid (show w2.ownsRow (P + 1) 36 3 (.slice (some ⟨q2, 0, none⟩) (ml + 1) cc2) (L ++ [(lo, hh, k)]).length (rks (L ++ [(lo, hh, k)])) by rw [show rks (L ++ [(lo, hh, k)]) = rks L ++ rkc ((lo : Int), (hh : Int), (k : Int)) by simp [rks, rkT], List.length_append, HML.out]; exact o2)
                        have hps2 : P < w2.heap.size := lt_of_heap HP2.out
                        have fz2 : w2.frozen? ⟨P, 0, none⟩ = false := frozen_of_row w2 P 0 _ 74 HP2.out
                        refine hKK _ _ (fun _ => HKS.out _ HP2.out HX2.out) ?_
                        clear hKK KK o2 gr2 hl2 hlt2
                        try simp only [Act.put, List.setIfInBounds_toArray, List.set_cons_zero, List.set_cons_succ]
                        refine tailG_yes (by kernel_rfl) fun KK hKK => ?_
                        go_simp
                        refine hKK _ _ (fun _ => HKS.out _ HP2.out HX2.out) ?_
                        clear hKK KK
                        try simp only [Act.put, List.setIfInBounds_toArray, List.set_cons_zero, List.set_cons_succ]
                        refine tailG_yes (by kernel_rfl) fun KK hKK => ?_
                        go_simp
                        refine hKK _ _ (fun _ => HKS.out _ HP2.out HX2.out) ?_
                        clear hKK KK
                        try simp only [Act.put, List.setIfInBounds_toArray, List.set_cons_zero, List.set_cons_succ]
                        have c2 : w2.cell? ⟨P, 0, none⟩ = some (.slice (some ⟨q, 0, none⟩) ml vc) := by rw [cell_of_row w2 P 0 _ 74 (0, 0) HP2.out]; rfl
                        refine tailG_yes (by kernel_rfl) fun KK hKK => ?_
                        go_simp
                        refine hKK _ _ (fun h => by cases h) ?_
                        clear hKK KK
                        try simp only [Act.put, List.setIfInBounds_toArray, List.set_cons_zero, List.set_cons_succ]
                        refine tailG_nil (NoPanic.normal ?_)
                        obtain ⟨s1, s2⟩ := QAt.set HP2.out (.slice (some ⟨q2, 0, none⟩) (ml + 1) cc2)
                        have HQ3 := hid (show QtAt P (L ++ [(lo, hh, k)]) r (w2.setCell ⟨P, 0, none⟩ (.slice (some ⟨q2, 0, none⟩) (ml + 1) cc2)) from ⟨_, s1, s2.own HO2.out (Nat.lt_succ_self P)⟩)
                        have HB3 := hid (s2.below HB2.out)
                        have HS3 := hid (show P < (w2.setCell ⟨P, 0, none⟩ (.slice (some ⟨q2, 0, none⟩) (ml + 1) cc2)).heap.size by rw [s2.size]; exact hps2)
                        have HLI3 := hid (show (L ++ [(lo, hh, k)]).length = i + 1 by rw [List.length_append, HLI.out]; rfl)
                        have HLD3 := hid (show (rdL r (v - (i + 1)) (hh + 1) (lcl (L ++ [(lo, hh, k)])) (b.drop (t3 + 1))).map ((L ++ [(lo, hh, k)]) ++ ·) = rl b by rw [HF.out, show lcl (L ++ [(lo, hh, k)]) = some k by simp [lcl]]; exact map_go HLD.out HG2.out)
                        clear s1 s2 HPD HXD HOD HBD HBA2 HPA2 HXA2 HP2 HX2 HO2 c2 fz2
                        go_wp2
                        go_roundw
                        case rel => exact ⟨t3 + 1, i + 1, hh + 1, L ++ [(lo, hh, k)], rfl, rfl, rfl, by go_num, by omega, by omega, by omega, by omega, HLI3, HLD3, HQ3, HB3, HS3⟩
                        case measure => simp [intOf]; omega
              · have hte' : (n : Int) ≤ (t3 : Int) := by omega
                have HNO := hid (map_none' HLD.out (rdL_n3 HK1.out HK2.out (List.drop_of_length_le (by have h5 := HN.out; omega))))
                go_wp2
                go_ret2
                exact ⟨HB.out, .inl ⟨HNO.out, rfl⟩⟩
        · have i3 : ¬ (i : Int) < (v : Int) := by omega
          rw [show v - i = 0 by omega] at HLD
          by_cases hte : t = n
          · have HE := hid (show rl b = some L by
              rw [← HLD.out, List.drop_of_length_le (by have h5 := HN.out; omega)]; simp [rdL])
            have hte' : ((t : Int) != (n : Int)) = false := by simp; omega
            clear hte
            go_wp2
            go_ret2
            exact ⟨HB.out, .inr ⟨P, L, HE.out, rfl, Nat.le_refl _, by rw [HLR.out]; exact HPT.out.rt⟩⟩
          · have HE := hid (show rl b = none from map_none' HLD.out (by
              show (if b.drop t = [] then some [] else none) = none
              rw [if_neg]
              intro h5
              have h6 := congrArg List.length h5
              rw [List.length_drop] at h6
              have h7 := HN.out
              simp at h6; omega))
            have hte' : ((t : Int) != (n : Int)) = true := by simp; omega
            go_wp2
            go_ret2
            exact ⟨HB.out, .inl ⟨HE.out, rfl⟩⟩
end Go.Proofs.Ytljlhlcoaajggaa
