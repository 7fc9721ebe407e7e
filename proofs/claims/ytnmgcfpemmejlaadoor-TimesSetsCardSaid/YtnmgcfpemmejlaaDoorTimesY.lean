/- read and Parse of the program. -/
import Derived.Test.YtnmgcfpemmejlaaDoorTimesX
import Derived.Lib.ConvBytes
namespace Go.Proofs.YtnmgcfpemmejlaaDoor
open Go.RowKit Go.Lib
set_option linter.unusedVariables false

/-- What read does with a byte, without bounds. -/
def exR (st : Int × Int) (c : UInt8) : Int × Int :=
  if c.toNat = 100 then ((st.1 + st.2) * 24, 0) else if c.toNat = 58 then ((st.1 + st.2) * 60, 0) else (st.1, 10 * st.2 + ((c.toNat : Int) - 48) % 256)
theorem fold_dig (B : Int) : ∀ (l : List UInt8) (a : Nat), l.all isD = true → l.foldl exR (B, (a : Int)) = (B, ((rd a l : Nat) : Int))
  | [], a, _ => rfl
  | c :: l, a, h => by
    rw [List.all_cons, Bool.and_eq_true] at h
    have hc : 48 ≤ c.toNat ∧ c.toNat ≤ 57 := by have := h.1; unfold isD at this; simpa using this
    have e : exR (B, (a : Int)) c = (B, ((a * 10 + (c.toNat - 48) : Nat) : Int)) := by
      unfold exR
      rw [if_neg (by omega), if_neg (by omega)]
      simp only [Prod.mk.injEq, true_and]
      omega
    rw [List.foldl_cons, e, fold_dig B l _ h.2]; rfl
theorem fold_dig0 (B : Int) (l : List UInt8) (h : l.all isD = true) : l.foldl exR (B, 0) = (B, ((rd 0 l : Nat) : Int)) := fold_dig B l 0 h
theorem exR_d (st : Int × Int) : exR st 100 = ((st.1 + st.2) * 24, 0) := rfl
theorem exR_c (st : Int × Int) : exR st 58 = ((st.1 + st.2) * 60, 0) := rfl
theorem read_text (t : Nat) : ((textT t).foldl exR (0, 0)).1 + ((textT t).foldl exR (0, 0)).2 = t := by
  have hh : t % 86400 / 3600 < 100 := by omega
  have hm : t % 86400 / 60 % 60 < 100 := by omega
  have hs : t % 86400 % 60 < 100 := by omega
  have e : (textT t).foldl exR (0, 0) = ((((t / 86400 : Nat) : Int) * 24 + ((t % 86400 / 3600 : Nat) : Int)) * 60 * 60 + ((t % 86400 / 60 % 60 : Nat) : Int) * 60, ((t % 86400 % 60 : Nat) : Int)) := by
    unfold textT
    rw [List.foldl_append, fold_dig0 0 _ (ddT_all _), rd_dd, List.foldl_cons, exR_d, List.foldl_append, fold_dig0 _ _ (two_all hh), rd_two hh, List.foldl_cons, exR_c, List.foldl_append, fold_dig0 _ _ (two_all hm), rd_two hm, List.foldl_cons, exR_c, fold_dig0 _ _ (two_all hs), rd_two hs]
    simp only [Prod.mk.injEq, and_true]
    omega
  rw [e]
  simp only
  omega
theorem take_snoc' (s : ByteArray) (k : Nat) (h : k < s.size) : s.data.toList.take (k + 1) = s.data.toList.take k ++ [s[k]] := by
  rw [List.take_succ_eq_append_getElem (by simpa using h)]; rfl
/-- What read returns: in 64 bits. -/
def ReadR (w : World) (l : List UInt8) (e : Ending) (w' : World) : Prop := ∃ r : Int, e = .returned (.int .i64 r) ∧ N64 r ∧ (r - ((l.foldl exR (0, 0)).1 + (l.foldl exR (0, 0)).2)) % 18446744073709551616 = 0 ∧ Below w.heap.size w w'
set_option maxRecDepth 20000 in
set_option maxHeartbeats 4000000 in
theorem read_any (s : ByteArray) (w : World) (hs : s.size ≤ 1000) : Calls Tryd.prog 49 #[.string s] w (ReadR w s.data.toList) := by
  have hcv := fun W => Lib.run_convert_string_bytes (P := Tryd.prog) W 9 68 5 s Tryd.underlying9 Tryd.underlying68 Tryd.underlying5
  have hb1 : Below w.heap.size w (Lib.bytesWorld w 5 s) := ⟨rfl, rfl, rfl, by rw [Lib.bytesWorld_size]; omega, fun k hk => Lib.bytesWorld_at_old w 5 s k hk⟩
  have hc := Lib.bytesWorld_cell w 5 s
  have HB := Lib.hid hb1; have HC := Lib.hid hc
  clear hb1 hc
  go_enter Tryd.func49, Tryd.ntmps49
  go_wp2_with fail
  obtain ⟨W1, hW1⟩ : ∃ W, Lib.bytesWorld w 5 s = W := ⟨_, rfl⟩
  rw [hW1] at HB HC ⊢
  clear hW1 hcv
  go_loop [3, 4, 6, 10] (fun b n _ i => ∃ (k : Nat) (b' n' : Int), k ≤ s.size ∧ i = .int .i64 k ∧ b = .int .i64 b' ∧ n = .int .i64 n' ∧ N64 b' ∧ N64 n' ∧ Hid ((b' - ((s.data.toList.take k).foldl exR (0, 0)).1) % 18446744073709551616 = 0 ∧ (n' - ((s.data.toList.take k).foldl exR (0, 0)).2) % 18446744073709551616 = 0)) (fun _ _ _ i => s.size - (intOf i).toNat)
  case atStart => exact ⟨0, 0, 0, by omega, rfl, rfl, rfl, by unfold N64; omega, by unfold N64; omega, Lib.hid ⟨rfl, rfl⟩⟩
  case round =>
    obtain ⟨k, b, n, hk, rfl, rfl, rfl, ⟨b1, b2⟩, ⟨n1, n2⟩, HX⟩ := hrel
    by_cases hlt : k < s.size
    · have c0 := HC.out k hlt
      have hts := take_snoc' s k hlt
      have hgd : s.data.toList.getD k 0 = s[k] := by rw [List.getD_eq_getElem?_getD, List.getElem?_eq_getElem (by simpa using hlt)]; rfl
      rw [hgd] at c0
      obtain ⟨c, hc⟩ : ∃ c, s[k] = c := ⟨_, rfl⟩
      rw [hc] at c0 hts
      obtain ⟨m, hm⟩ : ∃ m : Nat, c.toNat = m := ⟨_, rfl⟩
      have hm8 : m < 256 := by rw [← hm]; exact c.toNat_lt
      rw [hm] at c0
      have HM := Lib.hid hm
      have HTS : Hid ((s.data.toList.take (k + 1)).foldl exR (0, 0) = exR ((s.data.toList.take k).foldl exR (0, 0)) c) := Lib.hid (by rw [hts, List.foldl_append]; rfl)
      clear hts hgd hc hm
      obtain ⟨st, hst⟩ : ∃ st, (s.data.toList.take k).foldl exR (0, 0) = st := ⟨_, rfl⟩
      rw [hst] at HX HTS
      clear hst
      by_cases h100 : m = 100
      · have e1 : ((m : Int) == 100) = true := by rw [h100]; rfl
        have H1 := Lib.hid h100
        clear h100
        go_wp2_with fail
        go_round
        case rel =>
          refine ⟨k + 1, _, _, by omega, by go_num, rfl, rfl, ?_, ?_, Lib.hid ?_⟩
          · unfold N64; (try unfold wrap64); omega
          · unfold N64; (try unfold wrap64); omega
          · rw [HTS.out]
            obtain ⟨x1, x2⟩ := HX.out
            unfold exR
            rw [HM.out, if_pos H1.out]
            refine ⟨?_, ?_⟩
            · simp only; (try unfold wrap64); omega
            · simp only; (try unfold wrap64); omega
        case measure => simp [intOf]; omega
      · have e1 : ((m : Int) == 100) = false := by simp; omega
        have H1 := Lib.hid h100
        clear h100
        by_cases h58 : m = 58
        · have e2 : ((m : Int) == 58) = true := by rw [h58]; rfl
          have H2 := Lib.hid h58
          clear h58
          go_wp2_with fail
          go_round
          case rel =>
            refine ⟨k + 1, _, _, by omega, by go_num, rfl, rfl, ?_, ?_, Lib.hid ?_⟩
            · unfold N64; (try unfold wrap64); omega
            · unfold N64; (try unfold wrap64); omega
            · rw [HTS.out]
              obtain ⟨x1, x2⟩ := HX.out
              unfold exR
              rw [HM.out, if_neg H1.out, if_pos H2.out]
              refine ⟨?_, ?_⟩
              · simp only; (try unfold wrap64); omega
              · simp only; (try unfold wrap64); omega
          case measure => simp [intOf]; omega
        · have e2 : ((m : Int) == 58) = false := by simp; omega
          have H2 := Lib.hid h58
          clear h58
          go_wp2_with fail
          go_round
          case rel =>
            refine ⟨k + 1, _, _, by omega, by go_num, rfl, rfl, ?_, ?_, Lib.hid ?_⟩
            · unfold N64; (try unfold wrap64); omega
            · unfold N64; (try unfold wrap64); omega
            · rw [HTS.out]
              obtain ⟨x1, x2⟩ := HX.out
              unfold exR
              rw [HM.out, if_neg H1.out, if_neg H2.out]
              refine ⟨?_, ?_⟩
              · simp only; (try unfold wrap64); omega
              · simp only; (try unfold wrap64); omega
          case measure => simp [intOf]; omega
    · go_wp2_with fail
      go_ret
      refine ⟨_, rfl, ?_, ?_, HB.out⟩
      · unfold N64; (try unfold wrap64); omega
      · have hx := HX.out
        rw [List.take_of_length_le (by simp; omega)] at hx
        obtain ⟨x1, x2⟩ := hx
        (try unfold wrap64); omega
end Go.Proofs.YtnmgcfpemmejlaaDoor
