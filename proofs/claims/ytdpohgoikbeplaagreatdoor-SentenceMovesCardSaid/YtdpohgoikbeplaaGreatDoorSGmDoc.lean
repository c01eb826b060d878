/- GmDoc: parts of the proof, joined. -/
import Derived.Test.YtdpohgoikbeplaaGreatDoorSPtFun1
import Derived.Test.YtdpohgoikbeplaaGreatDoorSBase
namespace Go.Proofs.YtdpohgoikbeplaaGreatDoor.Br
open Go.RowKit
theorem abv_step {D : List Nat} {i x : Nat} {z : Int} {d : Nat} (h : D[i]? = some x) (hx : ¬ z < (x : Int)) : abv z d (D.drop i) = abv z d (D.drop (i + 1)) := by
 obtain ⟨h1, h2⟩ := List.getElem?_eq_some_iff.1 h
 rw [List.drop_eq_getElem_cons h1, h2, abv, if_neg hx]
theorem abv_here {D : List Nat} {i x : Nat} {z : Int} {d : Nat} (h : D[i]? = some x) (hx : z < (x : Int)) : abv z d (D.drop i) = x := by
 obtain ⟨h1, h2⟩ := List.getElem?_eq_some_iff.1 h
 rw [List.drop_eq_getElem_cons h1, h2, abv, if_pos hx]
theorem rdi_nat {w : World} {ao : Option Addr} {D : List Nat} (h : Pt.RdI w ao (D.map fun (x : Nat) => (x : Int))) {i : Nat} (hi : i < D.length) : ∃ a : Addr, ao = some a /\ w.cell? (a.add i) = some (.int .i64 (D[i] : Nat)) := by
 obtain ⟨a, h1, _, h3⟩ := h i (D[i] : Int) (by rw [List.getElem?_map, List.getElem?_eq_getElem hi]; rfl)
 exact ⟨a, h1, h3⟩
set_option maxHeartbeats 1000000 in
set_option maxRecDepth 100000 in
theorem above_any (ao : Option Addr) (n ac : Nat) (D : List Nat) (z : Int) (d : Nat) (w : World) (ha : Pt.RdI w ao (D.map fun (x : Nat) => (x : Int))) (hn : n = D.length) (hn9 : n <= 100000) :
  Calls Tryz.prog 22 #[.slice ao n ac, .int .i64 z, .int .i64 d] w fun e w' => e = .returned (.int .i64 (abv z d D : Nat)) /\ w' = w := by
 have HA := hid ha
 have HN := hid hn
 clear ha hn
 go_enter Tryz.func22, Tryz.ntmps22
 go_wp2
 go_loopw [7] (fun y wr => ∃ i : Nat, y = .int .i64 i /\ i <= n /\ wr = w /\ Hid (abv z d D = abv z d (D.drop i))) (fun y _ => n - (intOf y).toNat)
 case atStart => exact ⟨0, rfl, Nat.zero_le _, rfl, hid rfl⟩
 case round =>
  obtain ⟨i, rfl, hi, rfl, HE⟩ := hrel
  by_cases hlt : i < n
  ·have i0 : (0 : Int) <= (i : Int) := by omega
   have i1 : (i : Int) < (n : Int) := by omega
   have hil : i < D.length := by have := HN.out; omega
   obtain ⟨a, rfl, c1⟩ := rdi_nat HA.out hil
   obtain ⟨x, hx⟩ : ∃ x, x = D[i] := ⟨_, rfl⟩
   have HX := hid (show D[i]? = some x by rw [hx]; exact List.getElem?_eq_getElem hil)
   rw [<- hx] at c1
   clear hx hil
   by_cases hz : z < (x : Int)
   ·have HR := hid (HE.out.trans (abv_here HX.out hz))
    go_wp2
    go_ret; exact ⟨by rw [HR.out]; rfl, rfl⟩
   ·have HR := hid (HE.out.trans (abv_step HX.out hz))
    go_wp2
    go_roundw
    case rel => exact ⟨i + 1, by go_num, by omega, trivial, HR⟩
    case measure => simp [intOf]; omega
  ·have i1 : ¬ (i : Int) < (n : Int) := by omega
   have HR := hid (show abv z d D = d by rw [HE.out, List.drop_of_length_le (by have := HN.out; omega)]; rfl)
   go_wp2
   go_ret; exact ⟨by rw [HR.out]; rfl, rfl⟩
theorem blw_step {D : List Nat} {i x : Nat} {z : Int} {b : Nat} (h : D[i]? = some x) : blw z b (D.drop i) = if (x : Int) < z then blw z x (D.drop (i + 1)) else blw z b (D.drop (i + 1)) := by
 obtain ⟨h1, h2⟩ := List.getElem?_eq_some_iff.1 h
 rw [List.drop_eq_getElem_cons h1, h2, blw]
set_option maxHeartbeats 1000000 in
set_option maxRecDepth 100000 in
theorem below_any (ao : Option Addr) (n ac : Nat) (D : List Nat) (z : Int) (w : World) (ha : Pt.RdI w ao (D.map fun (x : Nat) => (x : Int))) (hn : n = D.length) (hn9 : n <= 100000) :
  Calls Tryz.prog 24 #[.slice ao n ac, .int .i64 z] w fun e w' => e = .returned (.int .i64 (blw z 0 D : Nat)) /\ w' = w := by
 have HA := hid ha
 have HN := hid hn
 clear ha hn
 go_enter Tryz.func24, Tryz.ntmps24
 go_wp2
 go_loopw [5, 6] (fun v y wr => ∃ i b : Nat, v = .int .i64 b /\ y = .int .i64 i /\ i <= n /\ wr = w /\ Hid (blw z 0 D = blw z b (D.drop i))) (fun _ y _ => n - (intOf y).toNat)
 case atStart => exact ⟨0, 0, rfl, rfl, Nat.zero_le _, rfl, hid rfl⟩
 case round =>
  obtain ⟨i, b, rfl, rfl, hi, rfl, HE⟩ := hrel
  by_cases hlt : i < n
  ·have i0 : (0 : Int) <= (i : Int) := by omega
   have i1 : (i : Int) < (n : Int) := by omega
   have hil : i < D.length := by have := HN.out; omega
   obtain ⟨a, rfl, c1⟩ := rdi_nat HA.out hil
   obtain ⟨x, hx⟩ : ∃ x, x = D[i] := ⟨_, rfl⟩
   have HX := hid (show D[i]? = some x by rw [hx]; exact List.getElem?_eq_getElem hil)
   rw [<- hx] at c1
   clear hx hil
   by_cases hz : (x : Int) < z
   ·have HR := hid (HE.out.trans ((blw_step HX.out).trans (if_pos hz)))
    go_wp2
    go_roundw
    case rel => exact ⟨i + 1, x, rfl, by go_num, by omega, trivial, HR⟩
    case measure => simp [intOf]; omega
   ·have HR := hid (HE.out.trans ((blw_step HX.out).trans (if_neg hz)))
    go_wp2
    go_roundw
    case rel => exact ⟨i + 1, b, rfl, by go_num, by omega, trivial, HR⟩
    case measure => simp [intOf]; omega
  ·have i1 : ¬ (i : Int) < (n : Int) := by omega
   have HR := hid (show blw z 0 D = b by rw [HE.out, List.drop_of_length_le (by have := HN.out; omega)]; rfl)
   go_wp2
   go_ret; exact ⟨by rw [HR.out]; rfl, rfl⟩
theorem arn_step {D : List Nat} {i x y : Nat} {z : Int} (h : D[i]? = some x) (h2 : D[i + 1]? = some y) : arn z (D.drop i) = if (x : Int) <= z /\ z < (y : Int) then (x, y) else arn z (D.drop (i + 1)) := by
 obtain ⟨k1, k2⟩ := List.getElem?_eq_some_iff.1 h
 obtain ⟨k3, k4⟩ := List.getElem?_eq_some_iff.1 h2
 rw [List.drop_eq_getElem_cons k1, List.drop_eq_getElem_cons k3, k2, k4, arn]
theorem arn_short {D : List Nat} {i : Nat} {z : Int} (h : D.length <= i + 1) : arn z (D.drop i) = (0, 0) := by
 have hl : (D.drop i).length <= 1 := by rw [List.length_drop]; omega
 generalize D.drop i = E at hl
 match E, hl with
 | [], _ => rfl
 | [_], _ => rfl
 | _ :: _ :: _, h => simp at h
set_option maxHeartbeats 2000000 in
set_option maxRecDepth 100000 in
theorem around_any (ao : Option Addr) (n ac : Nat) (D : List Nat) (z : Int) (w : World) (ha : Pt.RdI w ao (D.map fun (x : Nat) => (x : Int))) (hn : n = D.length) (hn9 : n <= 100000) (h0 : n = 0 \/ ∃ g, ao = some ⟨g, 0, none⟩) :
  Calls Tryz.prog 19 #[.slice ao n ac, .int .i64 z] w fun e w' => e = .returned (.tuple #[.int .i64 ((arn z D).1 : Nat), .int .i64 ((arn z D).2 : Nat)]) /\ Below w.heap.size w w' := by
 have HA := hid ha
 have HN := hid hn
 have H0 := hid h0
 clear ha hn h0
 go_enter Tryz.func19, Tryz.ntmps19
 go_wp2
 go_loopw [6] (fun y wr => ∃ i : Nat, y = .int .i64 i /\ i <= n /\ wr = w /\ Hid (arn z D = arn z (D.drop i))) (fun y _ => n - (intOf y).toNat)
 case atStart => exact ⟨0, rfl, Nat.zero_le _, rfl, hid rfl⟩
 case round =>
  obtain ⟨i, rfl, hi, rfl, HE⟩ := hrel
  have j0 : (0 : Int) <= (i : Int) + 1 := by omega
  by_cases hlt : i + 1 < n
  ·have i0 : (0 : Int) <= (i : Int) := by omega
   have i1 : (i : Int) + 1 < (n : Int) := by omega
   have i2 : (i : Int) < (n : Int) := by omega
   have i3 : ((i : Int) + 1).toNat = i + 1 := by omega
   have hil : i < D.length := by have := HN.out; omega
   have hil2 : i + 1 < D.length := by have := HN.out; omega
   obtain ⟨a, rfl, c1⟩ := rdi_nat HA.out hil
   obtain ⟨a2, ha2, c2⟩ := rdi_nat HA.out hil2
   cases ha2
   obtain ⟨g, hg⟩ : ∃ g, a = ⟨g, 0, none⟩ := by
    rcases H0.out with h | ⟨g, h⟩
    ·omega
    ·cases h; exact ⟨g, rfl⟩
   subst hg; rw [Addr.add_lit, Nat.zero_add] at c1 c2
   obtain ⟨x, hx⟩ : ∃ x, x = D[i] := ⟨_, rfl⟩
   obtain ⟨y, hy⟩ : ∃ y, y = D[i + 1] := ⟨_, rfl⟩
   have HX := hid (show D[i]? = some x by rw [hx]; exact List.getElem?_eq_getElem hil)
   have HY := hid (show D[i + 1]? = some y by rw [hy]; exact List.getElem?_eq_getElem hil2)
   rw [<- hx] at c1
   rw [<- hy] at c2
   clear hx hil hy hil2
   by_cases hz : (x : Int) <= z
   ·by_cases hz2 : z < (y : Int)
    ·have HR := hid (HE.out.trans ((arn_step HX.out HY.out).trans (if_pos ⟨hz, hz2⟩)))
     go_wp2_with fail
     go_quiet (fail)
     go_wp2
     go_ret2; rw [HR.out]; exact ⟨rfl, ⟨rfl, rfl, rfl, Nat.le_refl _, fun _ _ => rfl⟩⟩
    ·have HR := hid (HE.out.trans ((arn_step HX.out HY.out).trans (if_neg (fun h => hz2 h.2))))
     go_wp2
     go_roundw
     case rel => exact ⟨i + 1, by go_num, by omega, trivial, HR⟩
     case measure => simp [intOf]; omega
   ·have HR := hid (HE.out.trans ((arn_step HX.out HY.out).trans (if_neg (fun h => hz h.1))))
    go_wp2
    go_roundw
    case rel => exact ⟨i + 1, by go_num, by omega, trivial, HR⟩
    case measure => simp [intOf]; omega
  ·have i1 : ¬ (i : Int) + 1 < (n : Int) := by omega
   have HR := hid (show arn z D = (0, 0) by rw [HE.out]; exact arn_short (by have := HN.out; omega))
   go_wp2
   go_ret2; rw [HR.out]; exact ⟨rfl, Below.refl _ _⟩
end Go.Proofs.YtdpohgoikbeplaaGreatDoor.Br
