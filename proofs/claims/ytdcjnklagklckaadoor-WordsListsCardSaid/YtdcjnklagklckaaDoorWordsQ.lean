/- The reference's quoted and Unquote return the same plain functions as readQuoted and Unquote of words. -/
import Derived.Test.YtdcjnklagklckaaDoorWordsP
namespace Go.Proofs.YtdcjnklagklckaaDoor
open Go.RowKit
set_option linter.unusedVariables false

theorem rescaped_nat (j : Nat) (hj : j < 256) (w : World) : Calls Tryd.prog 46 #[.int .u8 j] w fun e w' => e = .returned (.string ⟨(esc (UInt8.ofNat j)).toArray⟩) ∧ Below w.heap.size w w' := by
  have := rescaped_any (UInt8.ofNat j) w
  rwa [show (UInt8.ofNat j).toNat = j by simp; omega] at this

theorem ext_prefix (s : ByteArray) (k : Nat) (f : List UInt8) (hk : k + f.length ≤ s.size) : (((s.extract k (k + f.length)).toList == f) = true) ↔ f <+: s.data.toList.drop k := by
  rw [ByteArray.toList_eq, Lib.extract_data, beq_iff_eq, List.prefix_iff_eq_take, show k + f.length - k = f.length by omega]; exact eq_comm

/-- What the inner loop has found when it comes to c = j. -/
def Seen (l : List UInt8) (j : Nat) : Prop := ∀ d : UInt8, d.toNat < j → ¬ esc d <+: l
theorem Seen.all {l : List UInt8} (h : Seen l 256) : ∀ d, ¬ esc d <+: l := fun d => h d d.toNat_lt
theorem Seen.step {l : List UInt8} {j : Nat} (h : Seen l j) (hj : j < 256) (hn : ¬ esc (UInt8.ofNat j) <+: l) : Seen l (j + 1) := by
  intro d hd
  by_cases e : d.toNat = j
  · rw [← e] at hn; simpa using hn
  · exact h d (by omega)

set_option maxRecDepth 20000 in
set_option maxHeartbeats 2000000 in
theorem rquoted_any (s : ByteArray) (w : World) (hs : s.size ≤ 35184372088000) :
    Calls Tryd.prog 44 #[.string s] w (QPost s.data.toList w) := by
  by_cases h0 : 0 < s.size
  case neg =>
    have hem : ((s.size : Int) == 0) = true := beq_iff_eq.2 (by omega)
    have HN := Lib.hid (qT_no (s := s) (fun h => absurd h h0))
    go_enter Tryd.func44, Tryd.ntmps44
    go_wp2_with fail
    all_goals
      go_ret2
      exact qpost_of HN.out (Below.refl _ _)
  case pos =>
  have hem : ((s.size : Int) == 0) = false := beq_eq_false_iff_ne.2 (by omega)
  cases hq : ((s[0].toNat : Int) != 34)
  case true =>
    have HN := Lib.hid (qT_no (s := s) (fun h e => by rw [e] at hq; simp at hq))
    go_enter Tryd.func44, Tryd.ntmps44
    go_wp2_with fail
    go_ret2
    exact qpost_of HN.out (Below.refl _ _)
  case false =>
  have hs0 : s[0] = 34 := by apply UInt8.toNat_inj.1; simp at hq; show _ = 34; omega
  have HQ := Lib.hid (qinv_start s h0 hs0); clear hs0
  obtain ⟨i0, hi, hz0, hz1, hz2⟩ := info_parts info_u8
  go_enter Tryd.func44, Tryd.ntmps44
  go_wp2_with fail
  go_loopw [4, 5, 6, 7, 8] (fun b n _ _ _ wr => ∃ (k : Nat) (T : List UInt8), 1 ≤ k ∧ k ≤ s.size ∧ n = .int .i64 k ∧ T.length ≤ k ∧ Hid (Below w.heap.size w wr) ∧ Hid (Row w.heap.size wr b T) ∧ Hid (QInv s k T)) (fun _ n _ _ _ _ => s.size - (intOf n).toNat)
  case atStart => exact ⟨1, [], by omega, by omega, rfl, by simp, Lib.hid (Below.refl _ _), Lib.hid (World.ownsRow_nil _ _ _ _), HQ⟩
  case round =>
    obtain ⟨k, T, hk1, hk, rfl, hT, HB, HR, HI⟩ := hrel
    by_cases hlt : k < s.size
    case neg =>
      have HN := Lib.hid (qinv_out HI.out hlt)
      have hke : ((k : Int) == (s.size : Int)) = true := beq_iff_eq.2 (by omega)
      go_wp2_with fail
      go_ret2
      exact qpost_of HN.out HB.out
    case pos =>
    have hke : ((k : Int) == (s.size : Int)) = false := beq_eq_false_iff_ne.2 (by omega)
    cases h34 : ((s[k].toNat : Int) != 34)
    case false =>
      have hsk : s[k] = 34 := by apply UInt8.toNat_inj.1; simp at h34; show _ = 34; omega
      have HN := Lib.hid (qinv_end HI.out hlt hsk); clear hsk
      have hcv := conv_row HR.out
      go_wp2_with fail
      go_ret2
      exact qpost_of HN.out HB.out
    case true =>
      have hsk : s[k] ≠ 34 := by intro e; rw [e] at h34; simp at h34
      have HSK := Lib.hid hsk; clear hsk
      go_wp2_with fail
      obtain ⟨wo, rfl⟩ : ∃ wo : World, wo = wr := ⟨_, rfl⟩
      go_loopw [4, 5, 6, 7, 8] (fun b n f c _ wi => ∃ (j : Nat), j ≤ 256 ∧ c = .int .i64 j ∧ Hid (Below w.heap.size w wi) ∧
          ((f = .bool false ∧ n = .int .i64 k ∧ Hid (Row w.heap.size wi b T) ∧ Hid (Seen (s.data.toList.drop k) j)) ∨
           (f = .bool true ∧ ∃ (d : UInt8) (m : Nat), Hid (m = (esc d).length ∧ esc d <+: s.data.toList.drop k) ∧ 1 ≤ m ∧ k + m ≤ s.size ∧ n = .int .i64 (k + m : Nat) ∧ Hid (Row w.heap.size wi b (T ++ [d]))))) (fun _ _ _ c _ _ => 256 - (intOf c).toNat)
      case atStart => exact ⟨0, by omega, rfl, HB, .inl ⟨rfl, rfl, HR, Lib.hid (fun d hd => absurd hd (by omega))⟩⟩
      case round =>
        obtain ⟨j, hj, rfl, HBi, hcase⟩ := hrel
        rcases hcase with ⟨rfl, rfl, HRi, HS⟩ | ⟨rfl, d, m, HM, hm1, hkm, rfl, HRi⟩
        · by_cases hj2 : j < 256
          case neg =>
            have h256 : j = 256 := by omega
            have HN := Lib.hid (qinv_bad HI.out hlt HSK.out (Seen.all (by rw [← h256]; exact HS.out))); clear h256
            go_wp2_with fail
            go_ret2
            exact qpost_of HN.out HBi.out
          case pos =>
          have hf1 := esc_ne_nil (UInt8.ofNat j)
          have hf4 := esc_len (UInt8.ofNat j)
          go_wp2_with fail
          refine (rescaped_nat j hj2 _).mono ?_
          rintro e w' ⟨rfl, hb'⟩
          have HB' := Lib.hid hb'; clear hb'
          have HR' := Lib.hid (HRi.out.later HB'.out)
          have hr' : World.ownsRow _ _ _ _ _ _ _ := HR'.out
          by_cases hp : esc (UInt8.ofNat j) <+: s.data.toList.drop k
          · have hml := hp.length_le
            rw [List.length_drop, len_data] at hml
            have HP := Lib.hid hp; clear hp
            have hx := (ext_prefix s k (esc (UInt8.ofNat j)) (by omega)).2 HP.out
            obtain ⟨f, hf⟩ : ∃ f, esc (UInt8.ofNat j) = f := ⟨_, rfl⟩
            rw [hf] at hf1 hf4 hml hx ⊢
            have HF := Lib.hid hf; clear hf
            go_wp2_with (at_builtin; refine wpList_append_own _ rfl _ _ 38 rfl w.heap.size 5 i0 (.int .u8 0) 1 1 Tryd.underlying38 hi hz0 hz1 hz2 rfl (by decide) _ _ _ rfl (hr'.alloc _) ⟨_, 0, none⟩ 1 1 [.int .u8 j] rfl rfl ?c1 ?c2 ?c3 ?c4 ?c5 ?_)
            case c1 => exact cells_new _ _ [.int .u8 j]
            case c2 => simp [Value.oneCell']
            case c3 => unfold maxLen; omega
            case c4 => omega
            case c5 => have := HBi.out.size; have := HB'.out.size; simp; omega
            intro v' w1 hown hgrow _
            go_wp2
            go_roundw
            case rel =>
              refine ⟨j + 1, by omega, by go_num, Lib.hid (((bl_call HBi.out HB'.out).alloc (by have := HBi.out.size; have := HB'.out.size; omega) _).grown hgrow (by have := HBi.out.size; have := HB'.out.size; simp; omega) (fun k e => (HR'.out.lt k e).1)), .inr ⟨rfl, UInt8.ofNat j, f.length, Lib.hid ⟨by rw [HF.out], HP.out⟩, hf1, by omega, by go_num, Lib.hid ?_⟩⟩
              unfold Row; rw [List.length_append, List.map_append]
              have hbv : [bv (UInt8.ofNat j)] = [Value.int .u8 j] := by unfold bv; rw [show (UInt8.ofNat j).toNat = j by simp; omega]
              rw [List.map_cons, List.map_nil, hbv]; exact hown
            case measure => simp [intOf]; omega
          · have HS' := Lib.hid (HS.out.step hj2 hp)
            by_cases hml : (esc (UInt8.ofNat j)).length ≤ s.size - k
            · have hx : ((s.extract k (k + (esc (UInt8.ofNat j)).length)).toList == esc (UInt8.ofNat j)) = false := by
                rw [Bool.eq_false_iff]; exact fun e => hp ((ext_prefix s k _ (by omega)).1 e)
              clear hp
              obtain ⟨f, hf⟩ : ∃ f, esc (UInt8.ofNat j) = f := ⟨_, rfl⟩
              rw [hf] at hf1 hf4 hml hx ⊢
              clear hf
              go_wp2
              go_roundw
              case rel => exact ⟨j + 1, by omega, by go_num, Lib.hid (bl_call HBi.out HB'.out), .inl ⟨rfl, rfl, HR', HS'⟩⟩
              case measure => simp [intOf]; omega
            · clear hp
              obtain ⟨f, hf⟩ : ∃ f, esc (UInt8.ofNat j) = f := ⟨_, rfl⟩
              rw [hf] at hf1 hf4 hml ⊢
              clear hf
              go_wp2
              go_roundw
              case rel => exact ⟨j + 1, by omega, by go_num, Lib.hid (bl_call HBi.out HB'.out), .inl ⟨rfl, rfl, HR', HS'⟩⟩
              case measure => simp [intOf]; omega
        · have HI2 := Lib.hid (qinv_step HI.out hlt HSK.out HM.out.1 HM.out.2)
          by_cases hj2 : j < 256
          all_goals
            go_wp2_with fail
            go_roundw
            case rel => exact ⟨k + m, T ++ [d], by omega, by omega, rfl, by simp; omega, HBi, HRi, HI2⟩
            case measure => simp [intOf]; omega
end Go.Proofs.YtdcjnklagklckaaDoor
