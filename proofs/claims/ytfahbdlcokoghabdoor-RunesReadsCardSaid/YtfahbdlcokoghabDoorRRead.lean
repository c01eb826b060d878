/- The contracts of the document's digit, First, Quoted and spelling. -/
import Derived.Test.YtfahbdlcokoghabDoorReadMath
namespace Go.Proofs.YtfahbdlcokoghabDoor
open Go.RowKit

set_option maxHeartbeats 400000 in
theorem digit_any (c : UInt8) (w : World) :
    Calls Tryd.prog 32 #[.int .u8 (c.toNat : Int)] w fun e w' => e = .returned (.tuple #[.int .i64 (dgv c : Nat), .bool (isHx c)]) ∧ w' = w := by
  have hc : c.toNat < 256 := c.toNat_lt
  by_cases h1 : 48 ≤ c.toNat ∧ c.toNat ≤ 57
  · have hi : isHx c = true := (isHx_iff c).2 (.inl h1)
    have HD := hid (show ((dgv c : Nat) : Int) = (c.toNat : Int) - 48 by unfold dgv; rw [if_pos hi]; unfold hxV; rw [if_pos h1.2]; omega)
    have HI := hid hi
    clear hi
    obtain ⟨a1, a2⟩ := h1
    generalize c.toNat = m at *
    go_enter Tryd.func32, Tryd.ntmps32
    go_wp2
    go_ret2
    exact ⟨by rw [HD.out, HI.out]; go_num, rfl⟩
  · by_cases h2 : 65 ≤ c.toNat ∧ c.toNat ≤ 70
    · have hi : isHx c = true := (isHx_iff c).2 (.inr h2)
      have HD := hid (show ((dgv c : Nat) : Int) = (c.toNat : Int) - 65 + 10 by unfold dgv; rw [if_pos hi]; unfold hxV; rw [if_neg (by omega)]; omega)
      have HI := hid hi
      clear hi
      obtain ⟨a1, a2⟩ := h2
      have a3 : ¬ (c.toNat : Int) ≤ 57 := by omega
      have a4 : (48 : Int) ≤ (c.toNat : Int) := by omega
      clear h1
      generalize c.toNat = m at *
      go_enter Tryd.func32, Tryd.ntmps32
      go_wp2
      go_ret2
      exact ⟨by rw [HD.out, HI.out]; go_num, rfl⟩
    · have hi : isHx c = false := by
        cases h : isHx c with
        | false => rfl
        | true => exact absurd ((isHx_iff c).1 h) (by rintro (h | h); exact h1 h; exact h2 h)
      have HD := hid (show dgv c = 0 by unfold dgv; rw [if_neg (by rw [hi]; decide)])
      have HI := hid hi
      clear hi
      generalize c.toNat = m at *
      go_enter Tryd.func32, Tryd.ntmps32
      go_wp2
      all_goals go_ret2
      all_goals exact ⟨by rw [HD.out, HI.out]; rfl, rfl⟩

set_option maxHeartbeats 400000 in
theorem first_any (l : List UInt8) (w : World) (hl : l.length ≤ 1000000) :
    Calls Tryd.prog 41 #[.string ⟨l.toArray⟩] w fun e w' => e = .returned (.tuple #[.int .i32 ((dec l).1 : Nat), .int .i64 ((dec l).2 : Nat)]) ∧ Below w.heap.size w w' := by
  have HR := hid (rrunes_rd l w hl)
  by_cases h : l = []
  · subst h
    rw [txt_nil] at HR
    go_enter Tryd.func41, Tryd.ntmps41
    go_wp2_with fail
    refine HR.out.mono ?_
    rintro e w1 ⟨xo, xc, rfl, _, hb⟩
    have HB := hid hb
    clear hb
    go_wp2
    go_ret2
    exact ⟨rfl, HB.out⟩
  · obtain ⟨f1, f2⟩ := txt_first l h
    have HF := hid f1
    obtain ⟨m, hm⟩ : ∃ m, m = (txt l).length := ⟨_, rfl⟩
    rw [← hm] at f2 HR
    have HM := hid hm
    clear f1 hm h
    have t1 : ((m : Int) == 0) = false := beq_eq_false_iff_ne.2 (by omega)
    have t2 : (0 : Int) < (m : Int) := by omega
    go_enter Tryd.func41, Tryd.ntmps41
    go_wp2_with fail
    refine HR.out.mono ?_
    rintro e w1 ⟨xo, xc, rfl, hr, hb⟩
    have HB := hid hb
    obtain ⟨g, rfl, _, c0, c1, c2⟩ := hr 0 _ HF.out
    rw [Nat.zero_mul] at c0 c1 c2
    rw [Nat.zero_add] at c1 c2
    dsimp only at c0 c1 c2
    obtain ⟨r, her⟩ : ∃ r, r = (dec l).1 := ⟨_, rfl⟩
    obtain ⟨k, hek⟩ : ∃ k, k = (dec l).2 := ⟨_, rfl⟩
    rw [← her] at c0
    rw [← hek] at c2
    have HER := hid her
    have HEK := hid hek
    clear hb hr her hek
    go_wp2_with fail
    go_region
    go_wp2
    go_ret2
    exact ⟨by rw [← HER.out, ← HEK.out]; rfl, HB.out.drew⟩
theorem first_eq2 (s : ByteArray) (l : List UInt8) (r : Int) (k : Nat) (w : World) (hs : s = ⟨l.toArray⟩) (hl : l.length ≤ 1000000) (hr : r = ((dec l).1 : Nat)) (hk : k = (dec l).2) :
    Calls Tryd.prog 41 #[.string s] w fun e w' => e = .returned (.tuple #[.int .i32 r, .int .i64 (k : Nat)]) ∧ Below w.heap.size w w' := by
  subst hs hr hk; exact first_any l w hl

/-- What Quoted answers. -/
def qdv (x : Int × Nat × Bool) : Value := .tuple #[.int .i32 x.1, .int .i64 (x.2.1 : Nat), .bool x.2.2]
theorem pre_one {l : List UInt8} {p : Nat} (h : p < l.length) : pre (l.drop p) [39] = decide (l[p] = 39) := by
  have e : (l.drop p).take 1 = [l[p]] := by rw [List.drop_eq_getElem_cons h]; rfl
  show decide ((l.drop p).take 1 = [39]) = _
  rw [e]
  exact Bool.eq_iff_iff.2 (by rw [decide_eq_true_iff, decide_eq_true_iff]; exact ⟨fun h => by injection h, fun h => by rw [h]⟩)
set_option maxHeartbeats 1000000 in
theorem rquoted_any (l : List UInt8) (p : Nat) (w : World) (hp : p ≤ l.length) (hl : l.length ≤ 100000) :
    Calls Tryd.prog 33 #[.string ⟨l.toArray⟩, .int .i64 p] w fun e w' => e = .returned (qdv (qdd l p)) ∧ Below w.heap.size w w' := by
  have HSZ := hid (show (⟨l.toArray⟩ : ByteArray).size = l.length by show l.toArray.size = _; simp)
  by_cases c0 : p < l.length
  · have hq := pre_one c0
    have hszp : p < (⟨l.toArray⟩ : ByteArray).size := by rw [HSZ.out]; exact c0
    have hb : (⟨l.toArray⟩ : ByteArray)[p]'hszp = l[p] := rfl
    obtain ⟨c, hc⟩ : ∃ c, c = l[p] := ⟨_, rfl⟩
    rw [← hc] at hq hb
    by_cases c1 : c = 39
    · subst c1
      rw [decide_eq_true rfl] at hq
      have hin := dec_in (l.drop (p + 1))
      rw [List.length_drop] at hin
      obtain ⟨n, hn⟩ : ∃ n, n = (dec (l.drop (p + 1))).2 := ⟨_, rfl⟩
      obtain ⟨r, hr⟩ : ∃ r : Int, r = ((dec (l.drop (p + 1))).1 : Nat) := ⟨_, rfl⟩
      have HQ := hid (show qdd l p = if n ≠ 0 ∧ p + 1 + n < l.length ∧ l.getD (p + 1 + n) 0 = 39 then (r, n, true) else (0, 0, false) by
        unfold qdd; rw [hq, ← hn, ← hr]; simp only [true_and])
      rw [← hn] at hin
      have HF1 := hid (show ¬ l.length < p + 6 → ∀ W, Calls Tryd.prog 41 #[.string ((⟨l.toArray⟩ : ByteArray).extract (p + 1) (p + 6))] W fun e w' => e = .returned (.tuple #[.int .i32 r, .int .i64 (n : Nat)]) ∧ Below W.heap.size W w' from fun _ W =>
        first_eq2 _ ((l.drop (p + 1)).take 5) r n W (ext_mid l (p + 1) 5) (by rw [List.length_take]; omega) (by rw [dec_take4 _ 5 (by omega)]; exact hr) (by rw [dec_take4 _ 5 (by omega)]; exact hn))
      have HF2 := hid (show ∀ W, Calls Tryd.prog 41 #[.string ((⟨l.toArray⟩ : ByteArray).extract (p + 1) l.length)] W fun e w' => e = .returned (.tuple #[.int .i32 r, .int .i64 (n : Nat)]) ∧ Below W.heap.size W w' from fun W =>
        first_eq2 _ (l.drop (p + 1)) r n W (ext_drop l (p + 1)) (by rw [List.length_drop]; omega) hr hn)
      clear hn hr hq hc
      have key : ∀ (w1 : World), Below w.heap.size w w1 → True := fun _ _ => trivial
      clear key
      by_cases c2 : l.length < p + 6
      · have c2' : ((l.length : Int) < (p : Int) + 6) := by omega
        go_enter Tryd.func33, Tryd.ntmps33
        go_wp2_with fail
        refine (HF2.out _).mono ?_
        rintro e w1 ⟨rfl, hb1⟩
        have HB1 := hid hb1
        clear hb1 HF1 HF2
        by_cases d1 : n = 0
        · have HC := hid (show qdd l p = (0, 0, false) by rw [HQ.out, if_neg (by simp [d1])])
          subst d1
          go_wp2
          go_ret3
          exact ⟨by rw [HC.out]; rfl, HB1.out⟩
        · have d1' : ((n : Int) == 0) = false := beq_eq_false_iff_ne.2 (by omega)
          by_cases d2 : p + 1 + n < l.length
          · have hszn : p + 1 + n < (⟨l.toArray⟩ : ByteArray).size := by rw [HSZ.out]; exact d2
            have hbn : (⟨l.toArray⟩ : ByteArray)[p + 1 + n]'hszn = l[p + 1 + n] := rfl
            have hgn : l.getD (p + 1 + n) 0 = l[p + 1 + n] := by simp [List.getD, List.getElem?_eq_getElem d2]
            rw [hgn] at HQ
            have d2' : ¬ (l.length : Int) ≤ (p : Int) + 1 + n := by omega
            generalize l[p + 1 + n] = d at *
            by_cases d3 : d = 39
            · subst d3
              have HC := hid (show qdd l p = (r, n, true) by rw [HQ.out, if_pos ⟨d1, d2, rfl⟩])
              clear HQ
              go_wp2
              go_ret3
              exact ⟨by rw [HC.out]; rfl, HB1.out⟩
            · have HC := hid (show qdd l p = (0, 0, false) by rw [HQ.out, if_neg (by simp [d3])])
              have d3' : ((d.toNat : Int) != 39) = true := bne_iff_ne.2 (fun e => d3 (UInt8.toNat_inj.1 (by show d.toNat = 39; omega)))
              clear HQ d3
              go_wp2
              go_ret3
              exact ⟨by rw [HC.out]; rfl, HB1.out⟩
          · have HC := hid (show qdd l p = (0, 0, false) by rw [HQ.out, if_neg (by simp [d2])])
            have d2' : (l.length : Int) ≤ (p : Int) + 1 + n := by omega
            go_wp2
            go_ret3
            exact ⟨by rw [HC.out]; rfl, HB1.out⟩
      · have c2' : ¬ ((l.length : Int) < (p : Int) + 6) := by omega
        have HF3 := hid (HF1.out c2)
        go_enter Tryd.func33, Tryd.ntmps33
        go_wp2_with fail
        refine (HF3.out _).mono ?_
        rintro e w1 ⟨rfl, hb1⟩
        have HB1 := hid hb1
        clear hb1 HF1 HF2 HF3
        by_cases d1 : n = 0
        · have HC := hid (show qdd l p = (0, 0, false) by rw [HQ.out, if_neg (by simp [d1])])
          subst d1
          go_wp2
          go_ret3
          exact ⟨by rw [HC.out]; rfl, HB1.out⟩
        · have d1' : ((n : Int) == 0) = false := beq_eq_false_iff_ne.2 (by omega)
          by_cases d2 : p + 1 + n < l.length
          · have hszn : p + 1 + n < (⟨l.toArray⟩ : ByteArray).size := by rw [HSZ.out]; exact d2
            have hbn : (⟨l.toArray⟩ : ByteArray)[p + 1 + n]'hszn = l[p + 1 + n] := rfl
            have hgn : l.getD (p + 1 + n) 0 = l[p + 1 + n] := by simp [List.getD, List.getElem?_eq_getElem d2]
            rw [hgn] at HQ
            have d2' : ¬ (l.length : Int) ≤ (p : Int) + 1 + n := by omega
            generalize l[p + 1 + n] = d at *
            by_cases d3 : d = 39
            · subst d3
              have HC := hid (show qdd l p = (r, n, true) by rw [HQ.out, if_pos ⟨d1, d2, rfl⟩])
              clear HQ
              go_wp2
              go_ret3
              exact ⟨by rw [HC.out]; rfl, HB1.out⟩
            · have HC := hid (show qdd l p = (0, 0, false) by rw [HQ.out, if_neg (by simp [d3])])
              have d3' : ((d.toNat : Int) != 39) = true := bne_iff_ne.2 (fun e => d3 (UInt8.toNat_inj.1 (by show d.toNat = 39; omega)))
              clear HQ d3
              go_wp2
              go_ret3
              exact ⟨by rw [HC.out]; rfl, HB1.out⟩
          · have HC := hid (show qdd l p = (0, 0, false) by rw [HQ.out, if_neg (by simp [d2])])
            have d2' : (l.length : Int) ≤ (p : Int) + 1 + n := by omega
            go_wp2
            go_ret3
            exact ⟨by rw [HC.out]; rfl, HB1.out⟩
    · rw [decide_eq_false c1] at hq
      have HC := hid (show qdd l p = (0, 0, false) by unfold qdd; rw [if_neg (by rw [hq]; simp)])
      have c1' : ((c.toNat : Int) != 39) = true := bne_iff_ne.2 (fun e => c1 (UInt8.toNat_inj.1 (by show c.toNat = 39; omega)))
      clear hq hc c1
      go_enter Tryd.func33, Tryd.ntmps33
      go_wp2
      go_ret3
      exact ⟨by rw [HC.out]; rfl, Below.refl _ _⟩
  · have HC := hid (show qdd l p = (0, 0, false) by
      unfold qdd
      rw [if_neg]
      rintro ⟨h, _⟩
      have := pre_len h
      rw [List.length_drop] at this
      simp only [List.length_cons, List.length_nil] at this
      omega)
    have c0' : (l.length : Int) ≤ (p : Int) := by omega
    go_enter Tryd.func33, Tryd.ntmps33
    go_wp2
    go_ret3
    exact ⟨by rw [HC.out]; rfl, Below.refl _ _⟩

/-- What the document's spelling answers. -/
def rsv (x : Int × Nat × Int × Nat) : Value := .tuple #[.int .i32 x.1, .int .i64 (x.2.1 : Nat), .int .i64 x.2.2.1, .int .i64 (x.2.2.2 : Nat)]
theorem digit_eq (c : UInt8) (v : Nat) (b : Bool) (w : World) (hv : v = dgv c) (hb : b = isHx c) :
    Calls Tryd.prog 32 #[.int .u8 (c.toNat : Int)] w fun e w' => e = .returned (.tuple #[.int .i64 (v : Nat), .bool b]) ∧ w' = w := by
  subst hv hb; exact digit_any c w
theorem pre_two {l : List UInt8} {p : Nat} (h : p + 1 < l.length) : pre (l.drop p) [85, 43] = decide (l[p] = 85 ∧ l[p + 1] = 43) := by
  have e : (l.drop p).take 2 = [l[p], l[p + 1]] := by rw [List.drop_eq_getElem_cons (by omega : p < l.length), List.drop_eq_getElem_cons h]; rfl
  show decide ((l.drop p).take 2 = [85, 43]) = _
  rw [e]
  exact Bool.eq_iff_iff.2 (by rw [decide_eq_true_iff, decide_eq_true_iff]; exact ⟨fun h => by injection h with h1 h2; injection h2 with h2; exact ⟨h1, h2⟩, fun h => by rw [h.1, h.2]⟩)
theorem results_tmp4 {fn : Func} {t u v x : Tmp} (h : fn.results = #[.tmp t, .tmp u, .tmp v, .tmp x]) (tmps : Array Value) (P : Program) (w : World) :
    (results fn tmps).run P w = .ok (.tuple #[tmps.getD t undef, tmps.getD u undef, tmps.getD v undef, tmps.getD x undef]) w := by
  simp [results, h]
theorem quoted_eq2 (l : List UInt8) (p : Nat) (r : Int) (n : Nat) (b : Bool) (w : World) (hp : p ≤ l.length) (hl : l.length ≤ 100000) (h : qdd l p = (r, n, b)) :
    Calls Tryd.prog 33 #[.string ⟨l.toArray⟩, .int .i64 p] w fun e w' => e = .returned (.tuple #[.int .i32 r, .int .i64 (n : Nat), .bool b]) ∧ Below w.heap.size w w' := by
  have := rquoted_any l p w hp hl
  rw [h] at this
  exact this
end Go.Proofs.YtfahbdlcokoghabDoor
