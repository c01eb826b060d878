/- The contracts of the document's Encode and of the program's Encode and Text. -/
import Derived.Test.YtflehkdijfhmgaaDoorValid
import Derived.Test.YtflehkdijfhmgaaDoorRef
import Derived.Laws.IdiomStrings
namespace Go.Proofs.YtflehkdijfhmgaaDoor
open Go.RowKit

set_option maxHeartbeats 400000 in
theorem six0 (c : Nat) (w : World) (_hc : c ≤ 1114111) :
    Calls Tryd.prog 54 #[.int .i32 c, .int .i64 0] w fun e w' => e = .returned (.int .u8 (128 + (c : Int) % 64)) ∧ w = w' := by
  go_enter Tryd.func54, Tryd.ntmps54
  go_wp2
  go_ret
  exact ⟨rfl, rfl⟩
set_option maxHeartbeats 400000 in
theorem six6 (c : Nat) (w : World) (_hc : c ≤ 1114111) :
    Calls Tryd.prog 54 #[.int .i32 c, .int .i64 6] w fun e w' => e = .returned (.int .u8 (128 + (c : Int) / 64 % 64)) ∧ w = w' := by
  go_enter Tryd.func54, Tryd.ntmps54
  go_wp2
  go_ret
  exact ⟨rfl, rfl⟩
set_option maxHeartbeats 400000 in
theorem six12 (c : Nat) (w : World) (_hc : c ≤ 1114111) :
    Calls Tryd.prog 54 #[.int .i32 c, .int .i64 12] w fun e w' => e = .returned (.int .u8 (128 + (c : Int) / 4096 % 64)) ∧ w = w' := by
  go_enter Tryd.func54, Tryd.ntmps54
  go_wp2
  go_ret
  exact ⟨rfl, rfl⟩
/-- Six bits of a rune, as a byte of a sequence's rest. -/
def sixv (c : Nat) (u : Int) : Int := if u = 0 then 128 + (c : Int) % 64 else if u = 6 then 128 + (c : Int) / 64 % 64 else 128 + (c : Int) / 4096 % 64
theorem six_any (c : Nat) (u : Int) (w : World) (hc : c ≤ 1114111) (hu : u = 0 ∨ u = 6 ∨ u = 12) :
    Calls Tryd.prog 54 #[.int .i32 c, .int .i64 u] w fun e w' => e = .returned (.int .u8 (sixv c u)) ∧ w = w' := by
  rcases hu with rfl | rfl | rfl
  · exact six0 c w hc
  · exact six6 c w hc
  · exact six12 c w hc
theorem rune_eqb (r : Int) (b : Bool) (h : isR r = b) (w : World) : Calls Tryd.prog 34 #[.int .i32 r] w fun e w' => e = .returned (.bool b) ∧ w = w' := by
  subst h; exact (rune_any r w).mono fun e w' ⟨a, b⟩ => ⟨a, b.symm⟩
theorem width_eqn (r n : Int) (h : widI r = n) (w : World) : Calls Tryd.prog 30 #[.int .i32 r] w fun e w' => e = .returned (.int .i64 n) ∧ w = w' := by
  subst h; exact (width_any r w).mono fun e w' ⟨a, b⟩ => ⟨a, b.symm⟩

theorem conv_list (w : World) (l : List UInt8) (zs : Array Value) (n : Nat) (hn : l.length = n) (hz : zs.toList = l.map (fun b => Value.int .u8 (b.toNat : Int))) :
    (convert 53 9 (.slice (some ⟨w.heap.size, 0, none⟩) n n)).run Tryd.prog (w.alloc (.cells zs 5)) = .ok (.string ⟨l.toArray⟩) (w.alloc (.cells zs 5)) := by
  subst hn
  refine run_convert_bytes_back _ 53 9 5 ⟨w.heap.size, 0, none⟩ l.length l Tryd.underlying53 Tryd.underlying5 Tryd.underlying9 (fun j hj => ?_)
  rw [show (⟨w.heap.size, 0, none⟩ : Addr).add j = ⟨w.heap.size, j, none⟩ by unfold Addr.add; split <;> simp_all]
  rw [cell_of_row _ w.heap.size j zs 5 (0, 0) (World.alloc_heap_new w _)]
  have : zs[j]? = (l.map (fun b => Value.int .u8 (b.toNat : Int)))[j]? := by rw [← hz]; simp
  rw [this]; simp [hj]
theorem nat_of (n : Nat) (h : n < 256) : ((UInt8.ofNat n).toNat : Int) = n := by
  have : (UInt8.ofNat n).toNat = n := by simp [UInt8.toNat_ofNat']; omega
  omega

theorem renc1_bytes (c : Nat) (h2 : c < 128) : (encN c).length = 1 ∧ (#[.int .u8 ((c : Int))] : Array Value).toList = (encN c).map (fun b => Value.int .u8 (b.toNat : Int)) := by
  have e : encN c = [UInt8.ofNat (c)] := by unfold encN; rw [if_pos (by omega)]
  rw [e]
  refine ⟨rfl, ?_⟩
  simp only [List.map_cons, List.map_nil]
  rw [nat_of (c) (by omega)]
set_option maxHeartbeats 400000 in
theorem renc1 (c : Nat) (w : World) (h2 : c < 128) :
    Calls Tryd.prog 32 #[.int .i32 c] w fun e w' => e = .returned (.string ⟨(encN c).toArray⟩) ∧ Below w.heap.size w w' := by
  have HR := hid (show isR c = true by rw [isR_iff]; omega)
  have HW := hid (show widI c = 1 by rw [widI_val, if_pos (by omega), if_pos (by omega)])
  have hb := renc1_bytes c h2
  have hcv := conv_list w (encN c) #[.int .u8 ((c : Int))] 1 hb.1 hb.2
  clear hb
  go_enter Tryd.func32, Tryd.ntmps32
  go_wp2_with (first | (go_at_call 34; refine (rune_eqb c true HR.out _).mono ?_; rintro e w1 ⟨rfl, rfl⟩) | (go_at_call 30; refine (width_eqn c 1 HW.out _).mono ?_; rintro e w1 ⟨rfl, rfl⟩))
  go_ret
  exact ⟨rfl, (Below.refl _ _).alloc (Nat.le_refl _) _⟩

theorem renc2_bytes (c : Nat) (h1 : 128 ≤ c) (h2 : c < 2048) : (encN c).length = 2 ∧ (#[.int .u8 (192 + (c : Int) / 64), .int .u8 (sixv c 0)] : Array Value).toList = (encN c).map (fun b => Value.int .u8 (b.toNat : Int)) := by
  have e : encN c = [UInt8.ofNat (192 + c / 64), UInt8.ofNat (128 + c % 64)] := by unfold encN; rw [if_neg (by omega), if_pos (by omega)]
  rw [e]
  refine ⟨rfl, ?_⟩
  simp only [List.map_cons, List.map_nil]
  rw [nat_of (192 + c / 64) (by omega), nat_of (128 + c % 64) (by omega)]
  simp [sixv]
set_option maxHeartbeats 400000 in
theorem renc2 (c : Nat) (w : World) (h1 : 128 ≤ c) (h2 : c < 2048) :
    Calls Tryd.prog 32 #[.int .i32 c] w fun e w' => e = .returned (.string ⟨(encN c).toArray⟩) ∧ Below w.heap.size w w' := by
  have HR := hid (show isR c = true by rw [isR_iff]; omega)
  have HW := hid (show widI c = 2 by rw [widI_val, if_pos (by omega), if_neg (by omega), if_pos (by omega)])
  have hb := renc2_bytes c h1 h2
  have hcv := conv_list w (encN c) #[.int .u8 (192 + (c : Int) / 64), .int .u8 (sixv c 0)] 2 hb.1 hb.2
  clear hb
  go_enter Tryd.func32, Tryd.ntmps32
  go_wp2_with (first | (go_at_call 34; refine (rune_eqb c true HR.out _).mono ?_; rintro e w1 ⟨rfl, rfl⟩) | (go_at_call 30; refine (width_eqn c 2 HW.out _).mono ?_; rintro e w1 ⟨rfl, rfl⟩) | (go_at_call 54; refine (six_any c _ _ (by omega) (by omega)).mono ?_; rintro e w1 ⟨rfl, rfl⟩))
  go_ret
  exact ⟨rfl, (Below.refl _ _).alloc (Nat.le_refl _) _⟩

theorem renc3_bytes (c : Nat) (h1 : 2048 ≤ c) (h2 : c < 65536) (_h3 : c < 55296 ∨ 57343 < c) : (encN c).length = 3 ∧ (#[.int .u8 (224 + (c : Int) / 4096), .int .u8 (sixv c 6), .int .u8 (sixv c 0)] : Array Value).toList = (encN c).map (fun b => Value.int .u8 (b.toNat : Int)) := by
  have e : encN c = [UInt8.ofNat (224 + c / 4096), UInt8.ofNat (128 + c / 64 % 64), UInt8.ofNat (128 + c % 64)] := by unfold encN; rw [if_neg (by omega), if_neg (by omega), if_pos (by omega)]
  rw [e]
  refine ⟨rfl, ?_⟩
  simp only [List.map_cons, List.map_nil]
  rw [nat_of (224 + c / 4096) (by omega), nat_of (128 + c / 64 % 64) (by omega), nat_of (128 + c % 64) (by omega)]
  simp [sixv]
set_option maxHeartbeats 400000 in
theorem renc3 (c : Nat) (w : World) (h1 : 2048 ≤ c) (h2 : c < 65536) (h3 : c < 55296 ∨ 57343 < c) :
    Calls Tryd.prog 32 #[.int .i32 c] w fun e w' => e = .returned (.string ⟨(encN c).toArray⟩) ∧ Below w.heap.size w w' := by
  have HR := hid (show isR c = true by rw [isR_iff]; omega)
  have HW := hid (show widI c = 3 by rw [widI_val, if_pos (by omega), if_neg (by omega), if_neg (by omega), if_pos (by omega)])
  have hb := renc3_bytes c h1 h2 h3
  have hcv := conv_list w (encN c) #[.int .u8 (224 + (c : Int) / 4096), .int .u8 (sixv c 6), .int .u8 (sixv c 0)] 3 hb.1 hb.2
  clear hb
  go_enter Tryd.func32, Tryd.ntmps32
  go_wp2_with (first | (go_at_call 34; refine (rune_eqb c true HR.out _).mono ?_; rintro e w1 ⟨rfl, rfl⟩) | (go_at_call 30; refine (width_eqn c 3 HW.out _).mono ?_; rintro e w1 ⟨rfl, rfl⟩) | (go_at_call 54; refine (six_any c _ _ (by omega) (by omega)).mono ?_; rintro e w1 ⟨rfl, rfl⟩))
  go_ret
  exact ⟨rfl, (Below.refl _ _).alloc (Nat.le_refl _) _⟩

theorem renc4_bytes (c : Nat) (h1 : 65536 ≤ c) (h2 : c ≤ 1114111) : (encN c).length = 4 ∧ (#[.int .u8 (240 + (c : Int) / 262144), .int .u8 (sixv c 12), .int .u8 (sixv c 6), .int .u8 (sixv c 0)] : Array Value).toList = (encN c).map (fun b => Value.int .u8 (b.toNat : Int)) := by
  have e : encN c = [UInt8.ofNat (240 + c / 262144), UInt8.ofNat (128 + c / 4096 % 64), UInt8.ofNat (128 + c / 64 % 64), UInt8.ofNat (128 + c % 64)] := by unfold encN; rw [if_neg (by omega), if_neg (by omega), if_neg (by omega)]
  rw [e]
  refine ⟨rfl, ?_⟩
  simp only [List.map_cons, List.map_nil]
  rw [nat_of (240 + c / 262144) (by omega), nat_of (128 + c / 4096 % 64) (by omega), nat_of (128 + c / 64 % 64) (by omega), nat_of (128 + c % 64) (by omega)]
  simp [sixv]
set_option maxHeartbeats 400000 in
theorem renc4 (c : Nat) (w : World) (h1 : 65536 ≤ c) (h2 : c ≤ 1114111) :
    Calls Tryd.prog 32 #[.int .i32 c] w fun e w' => e = .returned (.string ⟨(encN c).toArray⟩) ∧ Below w.heap.size w w' := by
  have HR := hid (show isR c = true by rw [isR_iff]; omega)
  have HW := hid (show widI c = 4 by rw [widI_val, if_pos (by omega), if_neg (by omega), if_neg (by omega), if_neg (by omega)])
  have hb := renc4_bytes c h1 h2
  have hcv := conv_list w (encN c) #[.int .u8 (240 + (c : Int) / 262144), .int .u8 (sixv c 12), .int .u8 (sixv c 6), .int .u8 (sixv c 0)] 4 hb.1 hb.2
  clear hb
  go_enter Tryd.func32, Tryd.ntmps32
  go_wp2_with (first | (go_at_call 34; refine (rune_eqb c true HR.out _).mono ?_; rintro e w1 ⟨rfl, rfl⟩) | (go_at_call 30; refine (width_eqn c 4 HW.out _).mono ?_; rintro e w1 ⟨rfl, rfl⟩) | (go_at_call 54; refine (six_any c _ _ (by omega) (by omega)).mono ?_; rintro e w1 ⟨rfl, rfl⟩))
  go_ret
  exact ⟨rfl, (Below.refl _ _).alloc (Nat.le_refl _) _⟩

theorem renc0_bytes : (encN 65533).length = 3 ∧ (#[.int .u8 239, .int .u8 (sixv 65533 6), .int .u8 (sixv 65533 0)] : Array Value).toList = (encN 65533).map (fun b => Value.int .u8 (b.toNat : Int)) := by
  have h := renc3_bytes 65533 (by omega) (by omega) (by omega)
  refine ⟨h.1, ?_⟩
  rw [← h.2]; rfl
set_option maxHeartbeats 400000 in
theorem renc0 (r : Int) (w : World) (h : isR r = false) :
    Calls Tryd.prog 32 #[.int .i32 r] w fun e w' => e = .returned (.string ⟨(encN 65533).toArray⟩) ∧ Below w.heap.size w w' := by
  have HR := hid h
  have HW := hid (show widI 65533 = 3 by rfl)
  have hb := renc0_bytes
  have hcv := conv_list w (encN 65533) #[.int .u8 239, .int .u8 (sixv 65533 6), .int .u8 (sixv 65533 0)] 3 hb.1 hb.2
  clear hb h
  generalize encN 65533 = E at *
  go_enter Tryd.func32, Tryd.ntmps32
  go_wp2_with (first | (go_at_call 34; refine (rune_eqb r false HR.out _).mono ?_; rintro e w1 ⟨rfl, rfl⟩) | (go_at_call 30; refine (width_eqn 65533 3 HW.out _).mono ?_; rintro e w1 ⟨rfl, rfl⟩) | (go_at_call 54; refine (six_any 65533 _ _ (by omega) (by omega)).mono ?_; rintro e w1 ⟨rfl, rfl⟩))
  go_ret
  exact ⟨rfl, (Below.refl _ _).alloc (Nat.le_refl _) _⟩

theorem renc_any (r : Int) (w : World) :
    Calls Tryd.prog 32 #[.int .i32 r] w fun e w' => e = .returned (.string ⟨(enc r).toArray⟩) ∧ Below w.heap.size w w' := by
  cases h : isR r with
  | false => rw [enc_other r h]; exact renc0 r w h
  | true =>
    have hh := (isR_iff r).1 h
    obtain ⟨c, rfl⟩ : ∃ c : Nat, r = c := ⟨r.toNat, by omega⟩
    rw [enc_rune c h]
    by_cases h1 : c < 128
    · exact renc1 c w h1
    · by_cases h2 : c < 2048
      · exact renc2 c w (by omega) h2
      · by_cases h3 : c < 65536
        · exact renc3 c w (by omega) h3 (by omega)
        · exact renc4 c w (by omega) (by omega)
end Go.Proofs.YtflehkdijfhmgaaDoor
