/- The tags of the document's examples. What each law of layer 4 asks first: the examples of the document. The examples of layer 4: the walk. -/
import Derived.Test.YtaeicjgkoofmpaaDoorHmacK
import Derived.Test.YtaeicjgkoofmpaaDoorHmacQ
import Derived.Test.YtaeicjgkoofmpaaDoorShaHd
import Derived.Test.YtaeicjgkoofmpaaDoorShaO
namespace Go.Proofs.YtaeicjgkoofmpaaDoor
def kOne : List Nat := List.replicate 20 11
def bHi : List Nat := [72, 105, 32, 84, 104, 101, 114, 101]
def bJe : List Nat := [74, 101, 102, 101]
def bWh : List Nat := [119, 104, 97, 116, 32, 100, 111, 32, 121, 97, 32, 119, 97, 110, 116, 32, 102, 111, 114, 32, 110, 111, 116, 104, 105, 110, 103, 63]
set_option maxRecDepth 100000 in
theorem tag_one : tagL kOne bHi = [176, 52, 76, 97, 216, 219, 56, 83, 92, 168, 175, 206, 175, 11, 241, 43, 136, 29, 194, 0, 201, 131, 61, 167, 38, 233, 55, 108, 46, 50, 207, 247] := by decide +kernel
set_option maxRecDepth 100000 in
theorem tag_two : tagL bJe bWh = [91, 220, 193, 70, 191, 96, 117, 78, 106, 4, 36, 38, 8, 149, 117, 199, 90, 0, 63, 8, 157, 39, 57, 131, 157, 236, 88, 185, 100, 236, 56, 67] := by decide +kernel
end Go.Proofs.YtaeicjgkoofmpaaDoor
namespace Go.Proofs.YtaeicjgkoofmpaaDoor
open Go.RowKit
set_option linter.unusedVariables false

def sOne : ByteArray := ⟨#[98, 48, 51, 52, 52, 99, 54, 49, 100, 56, 100, 98, 51, 56, 53, 51, 53, 99, 97, 56, 97, 102, 99, 101, 97, 102, 48, 98, 102, 49, 50, 98, 56, 56, 49, 100, 99, 50, 48, 48, 99, 57, 56, 51, 51, 100, 97, 55, 50, 54, 101, 57, 51, 55, 54, 99, 50, 101, 51, 50, 99, 102, 102, 55]⟩
def sTwo : ByteArray := ⟨#[53, 98, 100, 99, 99, 49, 52, 54, 98, 102, 54, 48, 55, 53, 52, 101, 54, 97, 48, 52, 50, 52, 50, 54, 48, 56, 57, 53, 55, 53, 99, 55, 53, 97, 48, 48, 51, 102, 48, 56, 57, 100, 50, 55, 51, 57, 56, 51, 57, 100, 101, 99, 53, 56, 98, 57, 54, 52, 101, 99, 51, 56, 52, 51]⟩
theorem sOne_list : sOne.toList = [98, 48, 51, 52, 52, 99, 54, 49, 100, 56, 100, 98, 51, 56, 53, 51, 53, 99, 97, 56, 97, 102, 99, 101, 97, 102, 48, 98, 102, 49, 50, 98, 56, 56, 49, 100, 99, 50, 48, 48, 99, 57, 56, 51, 51, 100, 97, 55, 50, 54, 101, 57, 51, 55, 54, 99, 50, 101, 51, 50, 99, 102, 102, 55] := by rw [bytes_list]; rfl
theorem sTwo_list : sTwo.toList = [53, 98, 100, 99, 99, 49, 52, 54, 98, 102, 54, 48, 55, 53, 52, 101, 54, 97, 48, 52, 50, 52, 50, 54, 48, 56, 57, 53, 55, 53, 99, 55, 53, 97, 48, 48, 51, 102, 48, 56, 57, 100, 50, 55, 51, 57, 56, 51, 57, 100, 101, 99, 53, 56, 98, 57, 54, 52, 101, 99, 51, 56, 52, 51] := by rw [bytes_list]; rfl
set_option maxRecDepth 100000 in
theorem hex_one : strN (hexL (tagL kOne bHi)) = sOne := by rw [tag_one]; unfold strN sOne; congr 1
set_option maxRecDepth 100000 in
theorem hex_two : strN (hexL (tagL bJe bWh)) = sTwo := by rw [tag_two]; unfold strN sTwo; congr 1
theorem lit_bb {l : List Nat} (h : l.all (fun x => decide (x < 256)) = true) : BB l := fun x hx => of_decide_eq_true (List.all_eq_true.1 h x hx)

theorem tag_hi (A : Option Addr) (c : Nat) (W : World) (hk : RN W (.slice A 20 c) kOne) (hV : VK W) :
    Calls Tryd.prog 23 #[.slice A 20 c, .slice (some ⟨W.heap.size, 0, none⟩) 8 8] (W.alloc (.cells #[.int .u8 72, .int .u8 105, .int .u8 32, .int .u8 84, .int .u8 104, .int .u8 101, .int .u8 114, .int .u8 101] 5 (8, 9))) (Gives (W.alloc (.cells #[.int .u8 72, .int .u8 105, .int .u8 32, .int .u8 84, .int .u8 104, .int .u8 101, .int .u8 114, .int .u8 101] 5 (8, 9))) (.agg (yV (tagL kOne bHi)))) :=
  htag_any kOne bHi _ _ _ (hk.later (bl_self W _)) (lit_bb rfl) (by simp [kOne]) (rn_const W bHi 8 (8, 9) rfl (by omega) (by omega)) (lit_bb rfl) (by simp [bHi]) (hV.below (bl_self W _))
theorem tag_je (W : World) (hV : VK W) :
    Calls Tryd.prog 23 #[.slice (some ⟨W.heap.size, 0, none⟩) 4 4, .slice (some ⟨W.heap.size + 1, 0, none⟩) 28 28] ((W.alloc (.cells #[.int .u8 74, .int .u8 101, .int .u8 102, .int .u8 101] 5 (4, 5))).alloc (.cells #[.int .u8 119, .int .u8 104, .int .u8 97, .int .u8 116, .int .u8 32, .int .u8 100, .int .u8 111, .int .u8 32, .int .u8 121, .int .u8 97, .int .u8 32, .int .u8 119, .int .u8 97, .int .u8 110, .int .u8 116, .int .u8 32, .int .u8 102, .int .u8 111, .int .u8 114, .int .u8 32, .int .u8 110, .int .u8 111, .int .u8 116, .int .u8 104, .int .u8 105, .int .u8 110, .int .u8 103, .int .u8 63] 5 (28, 29)))
      (Gives ((W.alloc (.cells #[.int .u8 74, .int .u8 101, .int .u8 102, .int .u8 101] 5 (4, 5))).alloc (.cells #[.int .u8 119, .int .u8 104, .int .u8 97, .int .u8 116, .int .u8 32, .int .u8 100, .int .u8 111, .int .u8 32, .int .u8 121, .int .u8 97, .int .u8 32, .int .u8 119, .int .u8 97, .int .u8 110, .int .u8 116, .int .u8 32, .int .u8 102, .int .u8 111, .int .u8 114, .int .u8 32, .int .u8 110, .int .u8 111, .int .u8 116, .int .u8 104, .int .u8 105, .int .u8 110, .int .u8 103, .int .u8 63] 5 (28, 29))) (.agg (yV (tagL bJe bWh)))) := by
  have h1 := rn_const W bJe 4 (4, 5) rfl (by omega) (by omega)
  have h2 := rn_const (W.alloc (.cells (yL bJe).toArray 5 (4, 5))) bWh 28 (28, 29) rfl (by omega) (by omega)
  rw [size_more] at h2
  exact htag_any bJe bWh _ _ _ (h1.later (bl_self _ _)) (lit_bb rfl) (by simp [bJe]) h2 (lit_bb rfl) (by simp [bWh]) ((hV.below (bl_self W _)).below (bl_self _ _))
def bAbc : List Nat := [97, 98, 99]
def bAbd : List Nat := [97, 98, 100]
def bAb : List Nat := [97, 98]
theorem eq_abd (W : World) :
    Calls Tryd.prog 25 #[.slice (some ⟨W.heap.size, 0, none⟩) 3 3, .slice (some ⟨W.heap.size + 1, 0, none⟩) 3 3] ((W.alloc (.cells #[.int .u8 97, .int .u8 98, .int .u8 99] 5 (3, 4))).alloc (.cells #[.int .u8 97, .int .u8 98, .int .u8 100] 5 (3, 4)))
      (Gives ((W.alloc (.cells #[.int .u8 97, .int .u8 98, .int .u8 99] 5 (3, 4))).alloc (.cells #[.int .u8 97, .int .u8 98, .int .u8 100] 5 (3, 4))) (.tuple #[.bool false, .int .i64 3])) := by
  have h1 := rn_const W bAbc 3 (3, 4) rfl (by omega) (by omega)
  have h2 := rn_const (W.alloc (.cells (yL bAbc).toArray 5 (3, 4))) bAbd 3 (3, 4) rfl (by omega) (by omega)
  rw [size_more] at h2
  have h := equal_any bAbc bAbd 3 _ _ _ (h1.later (bl_self _ _)) h2 (lit_bb rfl) (lit_bb rfl) (by simp [bAbc]) (by simp [bAbd]) rfl
  rw [sameN_false (by decide)] at h
  exact h.mono fun e w' ⟨h3, h4⟩ => ⟨h3, by rw [← h4]; exact Below.refl _ _⟩
theorem eq_ab (W : World) :
    Calls Tryd.prog 25 #[.slice (some ⟨W.heap.size, 0, none⟩) 3 3, .slice (some ⟨W.heap.size + 1, 0, none⟩) 2 2] ((W.alloc (.cells #[.int .u8 97, .int .u8 98, .int .u8 99] 5 (3, 4))).alloc (.cells #[.int .u8 97, .int .u8 98] 5 (2, 3)))
      (Gives ((W.alloc (.cells #[.int .u8 97, .int .u8 98, .int .u8 99] 5 (3, 4))).alloc (.cells #[.int .u8 97, .int .u8 98] 5 (2, 3))) (.tuple #[.bool false, .int .i64 3])) := by
  have h1 := rn_const W bAbc 3 (3, 4) rfl (by omega) (by omega)
  have h2 := rn_const (W.alloc (.cells (yL bAbc).toArray 5 (3, 4))) bAb 2 (2, 3) rfl (by omega) (by omega)
  rw [size_more] at h2
  have h := equal_any bAbc bAb 3 _ _ _ (h1.later (bl_self _ _)) h2 (lit_bb rfl) (lit_bb rfl) (by simp [bAbc]) (by simp [bAb]) rfl
  rw [sameN_false (by decide)] at h
  exact h.mono fun e w' ⟨h3, h4⟩ => ⟨h3, by rw [← h4]; exact Below.refl _ _⟩
end Go.Proofs.YtaeicjgkoofmpaaDoor
namespace Go.Proofs.YtaeicjgkoofmpaaDoor
open Go.RowKit
set_option linter.unusedVariables false

theorem take_rep {k n x : Nat} (h : k ≤ n) : (List.replicate n x).take k = List.replicate k x := by rw [List.take_replicate, Nat.min_eq_left h]
set_option maxRecDepth 100000 in
set_option maxHeartbeats 4000000 in
theorem hshown_any (w : World) (hV : VK w) : Calls Tryd.prog 20 #[] w (Gives w (.bool true)) := by
  have HV := Lib.hid hV; clear hV
  have kc := fun (w : World) (C : Array Value) (n c : Nat) => Lib.run_convert_bytes_const (P := Tryd.prog) w 27 5 C n c Tryd.underlying27 Tryd.underlying5
  have kc1 : ∀ (w : World) (o : Obj) (C : Array Value) (n c : Nat), (convert 27 27 (.slice (some ⟨w.heap.size + 1, 0, none⟩) n c)).run Tryd.prog ((w.alloc o).alloc (.cells C 5)) = .ok (.slice (some ⟨w.heap.size + 1, 0, none⟩) n c) ((w.alloc o).alloc (.cells C 5 (C.size, C.size + 1))) := fun w o C n c => by
    have := kc (w.alloc o) C n c
    rwa [size_more] at this
  have qa := sOne_list
  have qn := sTwo_list
  have HI : Hid (ON w w.heap.size (.slice none 0 0) [] ∧ Below w.heap.size w w) := Lib.hid ⟨ON.nil _ _ (Nat.le_refl _), Below.refl _ _⟩
  go_enter Tryd.func20, Tryd.ntmps20
  go_wp2_with fail
  go_loopw [1, 2] (fun v i wr => ∃ k : Nat, k ≤ 20 ∧ i = .int .i64 k ∧ Hid (ON wr w.heap.size v (List.replicate k 11) ∧ Below w.heap.size w wr)) (fun _ i _ => 20 - (intOf i).toNat)
  case atStart => exact ⟨0, by omega, rfl, HI⟩
  case round =>
    clear HI
    obtain ⟨k, hk, rfl, HR⟩ := hrel
    obtain ⟨Av, cv, hva⟩ := HR.out.1.len
    subst hva
    rw [List.length_replicate] at HR ⊢
    by_cases hlt : k < 20
    · have HN : Hid (List.replicate (k + 1) 11 = List.replicate k 11 ++ [11]) := Lib.hid List.replicate_succ'
      go_wp2_with (at_builtin; refine wpList_append_on _ rfl _ _ rfl w.heap.size _ (.slice (some ⟨wr.heap.size, 0, none⟩) 1 1) (List.replicate k 11) [11] rfl (HR.out.1.later (bl_self _ _)) rfl (rn_one wr 11) (by have := HR.out.2.size; simp; omega) (by simp; omega) ?_; intro v2 w2 hn hg; rw [← HN.out] at hn; have P2 : Hid (ON w2 w.heap.size v2 (List.replicate (k + 1) 11) ∧ Below w.heap.size w w2) := Lib.hid ⟨hn, (bl_alloc _ HR.out.2).grown hg (by have := HR.out.2.size; simp; omega) (fun j e => (World.ownsRow.lt HR.out.1 j e).1)⟩; clear hn hg)
      go_roundw
      case rel => exact ⟨k + 1, by omega, by go_num, P2⟩
      case measure => simp [intOf]; omega
    · obtain rfl : k = 20 := by omega
      have HK : Hid (RN wr (.slice Av 20 cv) kOne) := Lib.hid HR.out.1.rn
      have HW : Hid (VK wr) := Lib.hid (HV.out.below HR.out.2)
      have HB : Hid (Below w.heap.size w wr) := Lib.hid HR.out.2
      clear HV HR
      have tk0 : True := trivial; have tk1 : True := trivial; have tk2 : True := trivial; have tk3 : True := trivial
      go_wp2_with (first
        | (go_at_call 23; have _t := tk0; (with_reducible refine (tag_hi Av cv _ HK.out HW.out).mono ?_); rintro e w1 ⟨rfl, hb⟩; have W1 := Lib.hid ((HW.out.below (bl_self _ _)).below hb); have B1 := Lib.hid (bl_call (bl_alloc _ HB.out) hb); clear hb tk0 _t)
        | ((with_reducible refine atOp ⟨none, .store 36 (.tmp 3) _, _, _, _, _⟩ ?_); refine wpList_store_row rfl 36 (.tmp 3) (.tmp 19) rfl w1.heap.size (yV (tagL kOne bHi)) rfl rfl 36 (yV (List.replicate 32 0)) (AR.made _ _ _) (info32 _ (tagL_len _ _)) (by rw [yV_size, yV_size, tagL_len]; rfl) (yV_one _) ?_; rw [World.setRow_alloc_new]; have R1 : Hid (AR (w1.alloc (.cells (yV (tagL kOne bHi)) 36)) w1.heap.size 36 (yV (tagL kOne bHi))) := Lib.hid (AR.made _ _ _); have W2 := Lib.hid (W1.out.below (bl_self w1 (.cells (yV (tagL kOne bHi)) 36))); have B2 := Lib.hid (bl_alloc (.cells (yV (tagL kOne bHi)) 36) B1.out); generalize w1.alloc (.cells (yV (tagL kOne bHi)) 36) = w2 at R1 W2 B2 ⊢; generalize w1.heap.size = d1 at R1 ⊢)
        | (go_at_call 23; have _t := tk1; (with_reducible refine (tag_je _ W2.out).mono ?_); rintro e w3 ⟨rfl, hb⟩; have W3 := Lib.hid (((W2.out.below (bl_self _ _)).below (bl_self _ _)).below hb); have B3 := Lib.hid (bl_call (bl_alloc _ (bl_alloc _ B2.out)) hb); have R3 := Lib.hid (((R1.out.more _).more _).step hb); clear hb tk1 _t)
        | ((with_reducible refine atOp ⟨none, .store 36 (.tmp 4) _, _, _, _, _⟩ ?_); refine wpList_store_row rfl 36 (.tmp 4) (.tmp 24) rfl w3.heap.size (yV (tagL bJe bWh)) rfl rfl 36 (yV (List.replicate 32 0)) (AR.made _ _ _) (info32 _ (tagL_len _ _)) (by rw [yV_size, yV_size, tagL_len]; rfl) (yV_one _) ?_; rw [World.setRow_alloc_new]; have Q4 : Hid (AR (w3.alloc (.cells (yV (tagL bJe bWh)) 36)) w3.heap.size 36 (yV (tagL bJe bWh))) := Lib.hid (AR.made _ _ _); have R4 := Lib.hid (R3.out.more (.cells (yV (tagL bJe bWh)) 36)); have B4 := Lib.hid (bl_alloc (.cells (yV (tagL bJe bWh)) 36) B3.out); generalize w3.alloc (.cells (yV (tagL bJe bWh)) 36) = w4 at R4 Q4 B4 ⊢; generalize w3.heap.size = d3 at Q4 ⊢)
        | (go_at_call 25; have _t := tk2; (with_reducible refine (eq_abd _).mono ?_); rintro e w5 ⟨rfl, hb⟩; have B5 := Lib.hid (bl_call (bl_alloc _ (bl_alloc _ B4.out)) hb); have R5 := Lib.hid (((R4.out.more _).more _).step hb); have Q5 := Lib.hid (((Q4.out.more _).more _).step hb); clear hb tk2 _t)
        | (go_at_call 25; have _t := tk3; (with_reducible refine (eq_ab _).mono ?_); rintro e w6 ⟨rfl, hb⟩; have B6 := Lib.hid (bl_call (bl_alloc _ (bl_alloc _ B5.out)) hb); have R6 := Lib.hid (((R5.out.more _).more _).step hb); have Q6 := Lib.hid (((Q5.out.more _).more _).step hb); clear hb tk3 _t)
        | ((with_reducible refine atOp ⟨some 41, _, _, _, _, _⟩ ?_); refine wpList_load_row rfl 36 _ rfl d1 rfl 36 (yV (tagL kOne bHi)) (0, 0) _ R6.out Tryd.underlying36 rfl (info32 _ (tagL_len _ _)) ?_)
        | (go_at_call 48; (with_reducible refine (rhex_any (tagL kOne bHi) _ (tagL_len _ _) (tagL_bb _ _)).mono ?_); rintro e w7 ⟨rfl, hb⟩; have B7 := Lib.hid (bl_call B6.out hb); have Q7 := Lib.hid (Q6.out.step hb); clear hb; rw [hex_one])
        | ((with_reducible refine atOp ⟨some 45, _, _, _, _, _⟩ ?_); refine guard_load_row (by rfl) 36 (.tmp 4) rfl d3 rfl 36 (yV (tagL bJe bWh)) (0, 0) _ Q7.out Tryd.underlying36 rfl (info32 _ (tagL_len _ _)) ?_)
        | (go_at_call 48; (with_reducible refine (rhex_any (tagL bJe bWh) _ (tagL_len _ _) (tagL_bb _ _)).mono ?_); rintro e w8 ⟨rfl, hb⟩; have B8 := Lib.hid (bl_call B7.out hb); clear hb; rw [hex_two]))
      go_ret
      exact ⟨rfl, B8.out⟩
end Go.Proofs.YtaeicjgkoofmpaaDoor
