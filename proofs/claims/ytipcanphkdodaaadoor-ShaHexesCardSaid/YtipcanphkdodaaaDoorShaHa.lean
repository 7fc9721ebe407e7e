/- A hexadecimal digit's number, on both sides. -/
import Derived.Test.YtipcanphkdodaaaDoorShaS
import Derived.Test.YtipcanphkdodaaaDoorShaJ
import Derived.Test.YtipcanphkdodaaaDoorShelf
namespace Go.Proofs.YtipcanphkdodaaaDoor
open Go.RowKit
set_option linter.unusedVariables false

def digI (c : Nat) : Int := if 48 ≤ c ∧ c ≤ 57 then (c : Int) - 48 else if 97 ≤ c ∧ c ≤ 102 then (c : Int) - 87 else -1
theorem digI_hx {i : Nat} (h : i < 16) : digI (hxd i) = i := by unfold digI hxd; split <;> split <;> omega
theorem digI_no {c : Nat} (h : ∀ j, j < 16 → hxd j ≠ c) : digI c = -1 := by
  unfold digI
  split
  · rename_i hc; exact absurd (show hxd (c - 48) = c by unfold hxd; split <;> omega) (h _ (by omega))
  · split
    · rename_i hc; exact absurd (show hxd (c - 87) = c by unfold hxd; split <;> omega) (h _ (by omega))
    · rfl
theorem digI_le (c : Nat) : digI c ≤ 15 ∧ -1 ≤ digI c := by
  unfold digI
  split
  · omega
  · split <;> omega
theorem hx_dig {c : Nat} (h : 0 ≤ digI c) : hxd (digI c).toNat = c := by
  rcases Classical.em (∃ j, j < 16 ∧ hxd j = c) with ⟨j, hj, rfl⟩ | hn
  · rw [digI_hx hj, Int.toNat_natCast]
  · rw [digI_no (fun j hj e => hn ⟨j, hj, e⟩)] at h
    omega
theorem index_dig {c : Nat} (h : c < 256) : Lib.indexByte (ByteArray.mk #[48, 49, 50, 51, 52, 53, 54, 55, 56, 57, 97, 98, 99, 100, 101, 102]).data.toList ((c : Int).toNat.toUInt8) = digI c := by
  have : ∀ c : Nat, c < 256 → Lib.indexByte [48, 49, 50, 51, 52, 53, 54, 55, 56, 57, 97, 98, 99, 100, 101, 102] (c.toUInt8) = digI c := by decide +kernel
  rw [Int.toNat_natCast]
  exact this c h
set_option maxHeartbeats 1000000 in
theorem digit_any (c : Nat) (w : World) (hc : c < 256) : Calls Tryd.prog 45 #[.int .u8 c] w fun e w' => e = .returned (.int .i64 (digI c)) ∧ w = w' := by
  go_enter Tryd.func45, Tryd.ntmps45
  go_wp2_with fail
  go_loopw [3] (fun t wr => ∃ i : Nat, i ≤ 16 ∧ t = .int .i64 i ∧ wr = w ∧ Hid (∀ j, j < i → hxd j ≠ c)) (fun t _ => 16 - (intOf t).toNat)
  case atStart => exact ⟨0, by omega, rfl, rfl, Lib.hid (fun j hj => by omega)⟩
  case round =>
    obtain ⟨i, hi, rfl, rfl, HN⟩ := hrel
    by_cases hlt : i < 16
    · have h1 := fun h2 => hexGet (n := i) hlt h2
      obtain ⟨y, hy⟩ : ∃ y, hxd i = y := ⟨_, rfl⟩
      rw [hy] at h1
      have hd := digI_hx hlt
      rw [hy] at hd
      have ri : (i : Int) < 16 := by omega
      by_cases heq : y = c
      · subst heq
        have HD := Lib.hid hd; have HY := Lib.hid hy
        clear hd hy
        go_wp2_with fail
        go_ret
        exact ⟨by rw [HD.out]; rfl, by trivial⟩
      · have hb : ((y : Int) == (c : Int)) = false := beq_eq_false_iff_ne.2 (by omega)
        have HM : Hid (∀ j, j < i + 1 → hxd j ≠ c) := Lib.hid (fun j hj => by
          rcases Nat.lt_or_ge j i with h | h
          · exact HN.out j h
          · obtain rfl : j = i := by omega
            rw [hy]; exact heq)
        clear hd hy heq
        go_wp2_with fail
        go_roundw
        case rel => exact ⟨i + 1, by omega, by go_num, trivial, HM⟩
        case measure => simp [intOf]; omega
    · have HD : Hid (digI c = -1) := Lib.hid (digI_no (fun j hj => HN.out j (by omega)))
      go_wp2_with fail
      go_ret
      exact ⟨by rw [HD.out]; rfl, by trivial⟩
end Go.Proofs.YtipcanphkdodaaaDoor
