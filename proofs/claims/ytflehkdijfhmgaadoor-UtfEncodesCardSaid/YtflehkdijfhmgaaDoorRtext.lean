/- The contracts of the document's Text and Clean. -/
import Derived.Test.YtflehkdijfhmgaaDoorRenc
import Derived.Test.YtflehkdijfhmgaaDoorRunesRef
import Derived.Lib.AppendStr
import Derived.Lib.BufferRead
namespace Go.Proofs.YtflehkdijfhmgaaDoor
open Go.RowKit

theorem row_below {w w' : World} {base : Nat} {e : TypeId} {size : Nat} {v : Value} {n : Nat} {xs : List Value} (h : w.ownsRow base e size v n xs) (hb : Below w.heap.size w w') : w'.ownsRow base e size v n xs := by
  refine ⟨h.1, ?_⟩
  rcases h.2 with h0 | ⟨g, cap, cur, hv, hbg, hg, hr⟩
  · exact .inl h0
  · exact .inr ⟨g, cap, cur, hv, hbg, (hb.block g (Array.getElem?_eq_some_iff.1 hg).1).trans hg, hr⟩

theorem encN_len (c : Nat) : (encN c).length ≤ 4 := by
  unfold encN
  repeat' split
  all_goals simp
theorem enc_len (r : Int) : (enc r).length ≤ 4 := by
  cases h : isR r with
  | false => rw [enc_other r h]; exact encN_len _
  | true =>
    have hh := (isR_iff r).1 h
    obtain ⟨c, rfl⟩ : ∃ c : Nat, r = c := ⟨r.toNat, by omega⟩
    rw [enc_rune c h]; exact encN_len _

/-- The bytes of a list, as values. -/
def u8s (l : List UInt8) : List Value := l.map fun b => Value.int .u8 (b.toNat : Int)
theorem u8s_app (a b : List UInt8) : u8s (a ++ b) = u8s a ++ u8s b := by simp [u8s]
theorem strCells_list (l : List UInt8) : Lib.strCells ⟨l.toArray⟩ = u8s l := by simp [Lib.strCells, u8s]
theorem txt_succ (E : List Int) (k : Nat) (h : k < E.length) : txt (E.take (k + 1)) = txt (E.take k) ++ enc E[k] := by
  unfold txt
  rw [List.take_succ_eq_append_getElem h, List.flatMap_append]; simp

/-- Bytes that lie in a row of their own, as a string. -/
theorem conv_row (w : World) (B : Nat) (v : Value) (l : List UInt8) (h : w.ownsRow B 5 1 v l.length (u8s l)) :
    (convert 53 9 v).run Tryd.prog w = .ok (.string ⟨l.toArray⟩) w := by
  rcases h.2 with ⟨rfl, h0⟩ | ⟨g, cap, cur, rfl, _⟩
  · have : l = [] := List.eq_nil_of_length_eq_zero h0
    subst this
    exact Lib.run_convert_nil_bytes w 53 9 5 0 Tryd.underlying53 Tryd.underlying5 Tryd.underlying9
  · exact run_convert_bytes_back w 53 9 5 ⟨g, 0, none⟩ cap l Tryd.underlying53 Tryd.underlying5 Tryd.underlying9 (fun j hj => h.cells (g := g) rfl j _ (by simp [u8s, hj]))

theorem renc_eq (r : Int) (S : List UInt8) (hS : enc r = S) (w : World) :
    Calls Tryd.prog 32 #[.int .i32 r] w fun e w' => e = .returned (.string ⟨S.toArray⟩) ∧ Below w.heap.size w w' := by
  subst hS; exact renc_any r w

set_option maxHeartbeats 1000000 in
theorem rtext_any (v : Value) (E : List Int) (w : World) (hE : E.length ≤ 1000000000000) (hv : Reads .i32 w v E) :
    Calls Tryd.prog 33 #[v] w fun e w' => e = .returned (.string ⟨(txt E).toArray⟩) ∧ Below w.heap.size w w' := by
  obtain ⟨i0, hi, hz0, hz1, hz2⟩ := info_parts Tryd.info5
  obtain ⟨ao, cap, rfl, hcell⟩ := hv
  have HC := hid hcell
  clear hcell
  go_enter Tryd.func33, Tryd.ntmps33
  go_wp2
  go_loopw [3, 4] (fun b i wr => ∃ (k : Nat) (T : List UInt8), i = .int .i64 k ∧ k ≤ E.length ∧ Hid (T = txt (E.take k)) ∧ T.length ≤ 4 * k ∧ wr.ownsRow w.heap.size 5 1 b T.length (u8s T) ∧ Below w.heap.size w wr) (fun _ i _ => E.length - (intOf i).toNat)
  case atStart => exact ⟨0, [], rfl, by omega, rfl, by simp, World.ownsRow_nil _ _ _ _, Below.refl _ _⟩
  case round =>
    obtain ⟨k, T, rfl, hk, HT, hT4, hown, hB⟩ := hrel
    have hs := hB.size
    by_cases hlt : k < E.length
    · obtain ⟨g, o, rfl, hg, hc⟩ := HC.out k E[k] (List.getElem?_eq_getElem hlt)
      have hcw := (hB.cell (p := ⟨g, o + k, none⟩) hg).trans hc
      have hel := enc_len E[k]
      have HS := hid (txt_succ E k hlt)
      obtain ⟨z, hz⟩ : ∃ z, z = E[k] := ⟨_, rfl⟩
      rw [← hz] at hcw hel HS
      obtain ⟨S, hS⟩ : ∃ S, enc z = S := ⟨_, rfl⟩
      rw [hS] at hel HS
      have HE := hid hS
      clear hz hc hS
      go_wp2_with fail
      refine (renc_eq z S HE.out _).mono ?_
      rintro e w1 ⟨rfl, hb1⟩
      have hown1 := row_below hown hb1
      have hB1 : Below w.heap.size w w1 := hB.trans (hb1.mono hB.size)
      have hs1 := hB1.size
      have hsz : (⟨S.toArray⟩ : ByteArray).size = S.length := by show S.toArray.size = _; simp
      clear hb1 hown hB hcw
      go_wp2_with (at_builtin; refine Lib.wpList_append_own_string _ rfl _ _ 53 9 rfl w.heap.size 5 i0 Tryd.underlying53 Tryd.underlying9 hi hz0 hz1 hz2 _ _ _ rfl hown1 ⟨S.toArray⟩ rfl (by unfold maxLen; omega) (by omega) (by omega) ?_)
      intro v' w2 hown' hgrow _
      have hB2 : Below w.heap.size w w2 := hB1.grown hgrow hB1.size (fun k hk => (hown1.lt k hk).1)
      have hown2 : w2.ownsRow w.heap.size 5 1 v' (T ++ S).length (u8s (T ++ S)) := by
        rw [u8s_app, List.length_append, ← strCells_list S, ← hsz]; exact hown'
      have HT2 := hid (show T ++ S = txt (E.take (k + 1)) by rw [HS.out, HT.out])
      clear hown' hgrow hown1 hB1 hsz HS HT HE
      go_wp2
      go_roundw
      case rel => exact ⟨k + 1, T ++ S, by go_num, by omega, HT2, by simp; omega, hown2, hB2⟩
      case measure => simp [intOf]; omega
    · have HTE := hid (show T = txt E by rw [HT.out, List.take_of_length_le (by omega)])
      have hcv := conv_row wr _ _ T hown
      clear hown
      go_wp2
      go_ret
      exact ⟨by rw [← HTE.out]; rfl, hB⟩

set_option maxHeartbeats 400000 in
theorem rclean_any (l : List UInt8) (w : World) (hl : l.length ≤ 1000000000000) :
    Calls Tryd.prog 25 #[.string ⟨l.toArray⟩] w fun e w' => e = .returned (.string ⟨(cln l).toArray⟩) ∧ Below w.heap.size w w' := by
  have hrl : (rns l).length ≤ l.length := by unfold rns; simpa using mks_le l
  go_enter Tryd.func25, Tryd.ntmps25
  go_wp2_with fail
  refine (rrunes_any l _ hl).mono ?_
  rintro e w1 ⟨v, rfl, hown, hb1⟩
  have HR := hid (Reads.of_row hown)
  clear hown
  go_wp2_with fail
  refine (rtext_any v (rns l) _ (by omega) HR.out).mono ?_
  rintro e w2 ⟨rfl, hb2⟩
  have HB := hid (hb1.trans (hb2.mono hb1.size))
  clear hb1 hb2
  go_wp2
  go_ret
  exact ⟨rfl, HB.out⟩
end Go.Proofs.YtflehkdijfhmgaaDoor
