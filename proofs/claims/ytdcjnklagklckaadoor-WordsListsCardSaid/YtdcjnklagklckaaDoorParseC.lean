/- words.readRun; what the iterator of runs yields. -/
import Derived.Test.YtdcjnklagklckaaDoorParseB
import Derived.Test.YtdcjnklagklckaaDoorLinesB
namespace Go.Proofs.YtdcjnklagklckaaDoor
open Go.RowKit Go.Shelf
set_option linter.unusedVariables false

/-- strings.Cut at one byte. -/
structure CutOut (c : UInt8) (s F L : ByteArray) (b : Bool) : Prop where
  no : b = false → F = s ∧ L = ⟨#[]⟩ ∧ ∀ x ∈ s.data.toList, x ≠ c
  yes : b = true → s.data.toList = F.data.toList ++ c :: L.data.toList ∧ ∀ x ∈ F.data.toList, x ≠ c
theorem cut_out (c : UInt8) (s : ByteArray) : ∃ F L b, CutOut c s F L b ∧ F.size ≤ s.size ∧ L.size ≤ s.size ∧ ∀ W, MaxAt W → s.size ≤ 1048576 → Calls Tryd.prog 100 #[.string s, .string ⟨#[c]⟩] W fun e w' => e = .returned (.tuple #[.string F, .string L, .bool b]) ∧ Below W.heap.size W w' := by
  have hcall : ∀ W, MaxAt W → s.size ≤ 1048576 → Calls Tryd.prog 100 #[.string s, .string ⟨#[c]⟩] W fun e w' => e = .returned (.tuple #[.string ⟨(Lib.cut s.data.toList [c]).1.toArray⟩, .string ⟨(Lib.cut s.data.toList [c]).2.1.toArray⟩, .bool (Lib.cut s.data.toList [c]).2.2]) ∧ Below W.heap.size W w' := by
    intro W hm hs
    obtain ⟨m, hm⟩ := hm
    refine (Tryd.strings_Cut s ⟨#[c]⟩ m W (by omega) hm).mono ?_
    rintro e w' ⟨rfl, n, rfl⟩
    exact ⟨rfl, bl_drewN _ (Below.refl _ _)⟩
  rcases index_one c s.data.toList with ⟨h1, h2⟩ | ⟨i, h1, h2, h3, h4⟩
  · have hc : Lib.cut s.data.toList [c] = (s.data.toList, [], false) := by unfold Lib.cut; rw [h1]; rfl
    rw [hc] at hcall
    refine ⟨s, ⟨#[]⟩, false, ⟨(fun _ => ⟨rfl, rfl, h2⟩), (fun h => by cases h)⟩, Nat.le_refl _, Nat.zero_le _, fun W hm hs => (hcall W hm hs).mono ?_⟩
    rintro e w' ⟨rfl, hb⟩
    exact ⟨rfl, hb⟩
  · have hc : Lib.cut s.data.toList [c] = (s.data.toList.take i, s.data.toList.drop (i + 1), true) := by
      unfold Lib.cut; rw [h1, if_pos (by omega)]; simp
    rw [hc] at hcall
    refine ⟨⟨(s.data.toList.take i).toArray⟩, ⟨(s.data.toList.drop (i + 1)).toArray⟩, true, ⟨(fun h => by cases h), (fun _ => ⟨h3, h4⟩)⟩, ?_, ?_, hcall⟩
    · show (s.data.toList.take i).toArray.size ≤ _; rw [List.size_toArray, List.length_take, len_data]; omega
    · show (s.data.toList.drop (i + 1)).toArray.size ≤ _; rw [List.size_toArray, List.length_drop, len_data]; omega

theorem tw_ne {a : List UInt8} (h : ∀ c ∈ a, c ≠ 45) : a.takeWhile (· != 45) = a ∧ a.dropWhile (· != 45) = [] := by
  induction a with
  | nil => exact ⟨rfl, rfl⟩
  | cons c r ih =>
    have hc : (c != 45) = true := by rw [bne_iff_ne]; exact h c (by simp)
    obtain ⟨i1, i2⟩ := ih (fun d hd => h d (by simp [hd]))
    rw [List.takeWhile_cons, if_pos hc, List.dropWhile_cons, if_pos hc, i1, i2]; exact ⟨rfl, rfl⟩
theorem tw_dash {a b : List UInt8} (h : ∀ c ∈ a, c ≠ 45) : (a ++ 45 :: b).takeWhile (· != 45) = a ∧ (a ++ 45 :: b).dropWhile (· != 45) = 45 :: b := by
  induction a with
  | nil => exact ⟨rfl, rfl⟩
  | cons c r ih =>
    have hc : (c != 45) = true := by rw [bne_iff_ne]; exact h c (by simp)
    obtain ⟨i1, i2⟩ := ih (fun d hd => h d (by simp [hd]))
    rw [List.cons_append, List.takeWhile_cons, if_pos hc, List.dropWhile_cons, if_pos hc, i1, i2]; exact ⟨rfl, rfl⟩
theorem readR_no {s F L : ByteArray} (h : CutOut 45 s F L false) : readR s.data.toList = if natB F.data.toList then some (F.data.toList, F.data.toList) else none := by
  obtain ⟨rfl, _, hs⟩ := h.no rfl
  unfold readR; rw [(tw_ne hs).2]; rfl
theorem readR_yes {s F L : ByteArray} (h : CutOut 45 s F L true) : readR s.data.toList = if natB F.data.toList && natB L.data.toList && lessL F.data.toList L.data.toList then some (F.data.toList, L.data.toList) else none := by
  obtain ⟨he, hs⟩ := h.yes rfl
  obtain ⟨t1, t2⟩ := tw_dash (b := L.data.toList) hs
  unfold readR; rw [he, t1, t2]; rfl

/-- A run, as the iterator yields it. -/
abbrev RY := ByteArray × ByteArray × Bool
abbrev rEnc (x : RY) : Array Value := #[.agg #[.string x.1, .string x.2.1], .bool x.2.2]
def rrOf (l : List UInt8) : RY := match readR l with
  | some (a, b) => (⟨a.toArray⟩, ⟨b.toArray⟩, true)
  | none => (⟨#[]⟩, ⟨#[]⟩, false)
theorem ba_eq (s : ByteArray) : (⟨s.data.toList.toArray⟩ : ByteArray) = s := by apply WideShapes.bytes_inj; simp

def RRPost (l : List UInt8) (w : World) (e : Ending) (w' : World) : Prop := e = .returned (.tuple #[.agg #[.string (rrOf l).1, .string (rrOf l).2.1], .bool (rrOf l).2.2]) ∧ Below w.heap.size w w'

set_option maxRecDepth 20000 in
set_option maxHeartbeats 1000000 in
theorem readRun_any (s : ByteArray) (w : World) (hs : s.size ≤ 1048576) (hm : MaxAt w) : Calls Tryd.prog 101 #[.string s] w (RRPost s.data.toList w) := by
  obtain ⟨F, L, b, hc, hf, hl, hcall⟩ := cut_out 45 s
  have HCALL := Lib.hid hcall; have HC := Lib.hid hc; clear hcall hc
  have HM : Hid (∀ o, MaxAt (w.alloc o)) := Lib.hid (fun o => hm.below ((Below.refl _ w).alloc (Nat.le_refl _) _))
  clear hm
  have hfm : F.size ≤ maxLen := by unfold maxLen; omega
  have hlm : L.size ≤ maxLen := by unfold maxLen; omega
  cases hnf : natB F.data.toList
  case false =>
    have HNF := Lib.hid hnf; clear hnf
    have HN : Hid (rrOf s.data.toList = (⟨#[]⟩, ⟨#[]⟩, false)) := Lib.hid (by
      unfold rrOf
      cases b
      · rw [readR_no HC.out, HNF.out]; rfl
      · rw [readR_yes HC.out, HNF.out]; rfl)
    go_enter Tryd.func101, Tryd.ntmps101
    go_wp2_with (first
      | (go_at_call 100; refine (HCALL.out _ (HM.out _) hs).mono ?_; rintro e w1 ⟨rfl, hb⟩; obtain ⟨hcc, hff⟩ := bcell hb; have HB := Lib.hid hb; clear hb)
      | (go_at_call 61; refine (natural_any _ _ hfm).mono ?_; rintro e w2 ⟨rfl, rfl⟩; rw [HNF.out]))
    exact bodyPost_ret (v := .tuple #[.agg #[.string ⟨#[]⟩, .string ⟨#[]⟩], .bool false]) (by simp [results, Tryd.f101, go_sem, hcc]) rfl ⟨by rw [HN.out], ((bl_call (bl_alloc _ (Below.refl _ _)) HB.out).setCell (p := ⟨w.heap.size, 0, none⟩) (Nat.le_refl _) _).setCell (p := ⟨w.heap.size, 1, none⟩) (Nat.le_refl _) _⟩
  case true =>
    have HNF := Lib.hid hnf; clear hnf
    have HNFC : Hid (∀ W, Calls Tryd.prog 61 #[.string F] W fun e w' => e = .returned (.bool true) ∧ W = w') := Lib.hid (fun W => (natural_any _ _ hfm).mono fun e w' ⟨h1, h2⟩ => ⟨by rw [h1, HNF.out], h2⟩)
    cases b
    case false =>
      have HN : Hid (rrOf s.data.toList = (F, F, true)) := Lib.hid (by
        unfold rrOf; rw [readR_no HC.out, HNF.out]; simp only [if_true])
      go_enter Tryd.func101, Tryd.ntmps101
      go_wp2_with (first
        | (go_at_call 100; refine (HCALL.out _ (HM.out _) hs).mono ?_; rintro e w1 ⟨rfl, hb⟩; obtain ⟨hcc, hff⟩ := bcell hb; have HB := Lib.hid hb; clear hb)
        | (go_at_call 61; refine (HNFC.out _).mono ?_; rintro e w2 ⟨rfl, rfl⟩))
      exact bodyPost_ret (v := .tuple #[.agg #[.string F, .string F], .bool true]) (by simp [results, Tryd.f101, go_sem, hcc]) rfl ⟨by rw [HN.out], ((bl_call (bl_alloc _ (Below.refl _ _)) HB.out).setCell (p := ⟨w.heap.size, 0, none⟩) (Nat.le_refl _) _).setCell (p := ⟨w.heap.size, 1, none⟩) (Nat.le_refl _) _⟩
    case true =>
      have tok : True := trivial
      cases hnl : natB L.data.toList
      case false =>
        have HNL := Lib.hid hnl; clear hnl
        have HN : Hid (rrOf s.data.toList = (⟨#[]⟩, ⟨#[]⟩, false)) := Lib.hid (by
          unfold rrOf; rw [readR_yes HC.out, HNL.out]; simp)
        go_enter Tryd.func101, Tryd.ntmps101
        go_wp2_with (first
          | (go_at_call 100; refine (HCALL.out _ (HM.out _) hs).mono ?_; rintro e w1 ⟨rfl, hb⟩; obtain ⟨hcc, hff⟩ := bcell hb; have HB := Lib.hid hb; clear hb)
          | (go_at_call 61; have _t := tok; refine (HNFC.out _).mono ?_; rintro e w2 ⟨rfl, rfl⟩; clear tok _t)
          | (go_at_call 61; refine (natural_any _ _ hlm).mono ?_; rintro e w2 ⟨rfl, rfl⟩; rw [HNL.out]))
        exact bodyPost_ret (v := .tuple #[.agg #[.string ⟨#[]⟩, .string ⟨#[]⟩], .bool false]) (by simp [results, Tryd.f101, go_sem, hcc]) rfl ⟨by rw [HN.out], ((bl_call (bl_alloc _ (Below.refl _ _)) HB.out).setCell (p := ⟨w.heap.size, 0, none⟩) (Nat.le_refl _) _).setCell (p := ⟨w.heap.size, 1, none⟩) (Nat.le_refl _) _⟩
      case true =>
        have HNL := Lib.hid hnl; clear hnl
        cases hls : lessL F.data.toList L.data.toList
        case false =>
          have HLS := Lib.hid hls; clear hls
          have HN : Hid (rrOf s.data.toList = (⟨#[]⟩, ⟨#[]⟩, false)) := Lib.hid (by
            unfold rrOf; rw [readR_yes HC.out, HNL.out, HLS.out]; simp)
          go_enter Tryd.func101, Tryd.ntmps101
          go_wp2_with (first
            | (go_at_call 100; refine (HCALL.out _ (HM.out _) hs).mono ?_; rintro e w1 ⟨rfl, hb⟩; obtain ⟨hcc, hff⟩ := bcell hb; have HB := Lib.hid hb; clear hb)
            | (go_at_call 61; have _t := tok; refine (HNFC.out _).mono ?_; rintro e w2 ⟨rfl, rfl⟩; clear tok _t)
            | (go_at_call 61; refine (natural_any _ _ hlm).mono ?_; rintro e w2 ⟨rfl, rfl⟩; rw [HNL.out])
            | (go_at_call 78; refine (less_any _ _ _ hfm hlm).mono ?_; rintro e w3 ⟨rfl, rfl⟩; rw [HLS.out]))
          exact bodyPost_ret (v := .tuple #[.agg #[.string ⟨#[]⟩, .string ⟨#[]⟩], .bool false]) (by simp [results, Tryd.f101, go_sem, hcc]) rfl ⟨by rw [HN.out], ((bl_call (bl_alloc _ (Below.refl _ _)) HB.out).setCell (p := ⟨w.heap.size, 0, none⟩) (Nat.le_refl _) _).setCell (p := ⟨w.heap.size, 1, none⟩) (Nat.le_refl _) _⟩
        case true =>
          have HLS := Lib.hid hls; clear hls
          have HN : Hid (rrOf s.data.toList = (F, L, true)) := Lib.hid (by
            unfold rrOf; rw [readR_yes HC.out, HNL.out, HNF.out, HLS.out]; simp only [Bool.and_self, if_true])
          go_enter Tryd.func101, Tryd.ntmps101
          go_wp2_with (first
            | (go_at_call 100; refine (HCALL.out _ (HM.out _) hs).mono ?_; rintro e w1 ⟨rfl, hb⟩; obtain ⟨hcc, hff⟩ := bcell hb; have HB := Lib.hid hb; clear hb)
            | (go_at_call 61; have _t := tok; refine (HNFC.out _).mono ?_; rintro e w2 ⟨rfl, rfl⟩; clear tok _t)
            | (go_at_call 61; refine (natural_any _ _ hlm).mono ?_; rintro e w2 ⟨rfl, rfl⟩; rw [HNL.out])
            | (go_at_call 78; refine (less_any _ _ _ hfm hlm).mono ?_; rintro e w3 ⟨rfl, rfl⟩; rw [HLS.out]))
          exact bodyPost_ret (v := .tuple #[.agg #[.string F, .string L], .bool true]) (by simp [results, Tryd.f101, go_sem, hcc]) rfl ⟨by rw [HN.out], ((bl_call (bl_alloc _ (Below.refl _ _)) HB.out).setCell (p := ⟨w.heap.size, 0, none⟩) (Nat.le_refl _) _).setCell (p := ⟨w.heap.size, 1, none⟩) (Nat.le_refl _) _⟩
end Go.Proofs.YtdcjnklagklckaaDoor
