/- The law ShaPads: the walk. -/
import Derived.Test.YtipcanphkdodaaaDoorShaO
import Derived.Test.YtipcanphkdodaaaDoorShaP
import Derived.Shelf.Bytes.SlSmallAll
namespace Go.Proofs.YtipcanphkdodaaaDoor
open Go.RowKit
set_option linter.unusedVariables false

def nI (xs : List Nat) : List Int := xs.map fun (x : Nat) => (x : Int)
theorem nI_get (xs : List Nat) (i : Nat) (h : i < xs.length) : (nI xs).getD i 0 = ((xs.getD i 0 : Nat) : Int) := by
  unfold nI
  rw [List.getD_eq_getElem?_getD, List.getD_eq_getElem?_getD, List.getElem?_map, List.getElem?_eq_getElem h]; rfl
theorem conv_rn {W : World} {v : Value} {xs : List Nat} (h : RN W v xs) : (convert 31 9 v).run Tryd.prog W = .ok (.string (strOfNums (nI xs))) W := by
  rcases h with ⟨A, c, rfl, rfl, _⟩ | ⟨g, off, c, rfl, _, h0, h2, h3, h4⟩
  · exact run_convert_bytes_zero W 31 5 Tryd.underlying31 Tryd.underlying5 A c 9 Tryd.underlying9
  · exact run_convert_bytes_arg W 31 5 Tryd.underlying31 Tryd.underlying5 g off xs.length c (nI xs) (by simp [nI]) (fun i hi => by rw [nI_get xs i hi]; exact h4 i hi) 9 Tryd.underlying9

set_option maxRecDepth 20000 in
set_option maxHeartbeats 2000000 in
theorem pads_any (n : Int) (w : World) (hV : VK w) (h0 : -9223372036854775808 ≤ n) (h1 : n ≤ 9223372036854775807) : Calls Tryd.prog 5 #[.int .i64 n] w (Gives w (.bool true)) := by
  have HV := Lib.hid hV; clear hV
  by_cases hin : 0 ≤ n ∧ n ≤ 1152921504606846976
  · obtain ⟨ha, hb⟩ := hin
    obtain ⟨m, rfl⟩ : ∃ m : Nat, n = m := ⟨n.toNat, by omega⟩
    have hm : m ≤ 1152921504606846976 := by omega
    obtain ⟨k, hk⟩ : ∃ k, (padL m).length = k := ⟨_, rfl⟩
    have hk9 := padL_le m
    have hmod := padL_mod m
    rw [hk] at hk9 hmod
    obtain ⟨k9, k72⟩ := hk9
    have hq : (((m : Int) + (k : Int)) % 64 == 0) = true := by simp; omega
    obtain ⟨Z, hZ⟩ : ∃ Z, strOfNums (nI (padL m)) = Z := ⟨_, rfl⟩
    have HK := Lib.hid hk; have HZ := Lib.hid hZ
    clear hk hZ hmod
    go_enter Tryd.func5, Tryd.ntmps5
    go_wp2_with (first
      | (go_at_call 21; (with_reducible refine (pad_yes m m _ rfl hm).mono ?_); rintro e w1 ⟨v1, rfl, hr, hb⟩; have R1 := Lib.hid hr; have B1 := Lib.hid hb; clear hr hb; obtain ⟨A1, c1, rfl⟩ := R1.out.len; rw [HK.out])
      | (go_at_call 22; (with_reducible refine (rpad_yes m _ hm).mono ?_); rintro e w2 ⟨v2, rfl, hr, hb⟩; have R2 := Lib.hid hr; have B2 := Lib.hid (bl_call B1.out hb); have R1b := Lib.hid (R1.out.later hb); clear hr hb; obtain ⟨A2, c2, rfl⟩ := R2.out.len; rw [HK.out]; have s1 := conv_rn R1b.out; have s2 := conv_rn R2.out; rw [HK.out, HZ.out] at s1 s2)
      | (go_at_call 18; refine (shown_any _ (HV.out.below B2.out)).mono ?_; rintro e w3 ⟨rfl, hb⟩; have B3 := Lib.hid (bl_call B2.out hb); clear hb))
    go_ret
    exact ⟨rfl, B3.out⟩
  · have hno : n < 0 ∨ 1152921504606846976 < n := by omega
    have hz := fun (W : World) => conv_rn (RN.nil W)
    obtain ⟨Z, hZ⟩ : ∃ Z, strOfNums (nI []) = Z := ⟨_, rfl⟩
    rw [hZ] at hz
    clear hZ hin
    go_enter Tryd.func5, Tryd.ntmps5
    go_wp2_with (first
      | (go_at_call 21; (with_reducible refine (pad_no n _ hno).mono ?_); rintro e w1 ⟨rfl, rfl⟩)
      | (go_at_call 22; (with_reducible refine (rpad_no n _ hno).mono ?_); rintro e w1 ⟨rfl, rfl⟩)
      | (go_at_call 18; refine (shown_any _ HV.out).mono ?_; rintro e w3 ⟨rfl, hb⟩; have B3 := Lib.hid hb; clear hb))
    go_ret
    exact ⟨rfl, B3.out⟩
end Go.Proofs.YtipcanphkdodaaaDoor
