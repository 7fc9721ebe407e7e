/- The reference's Parse: the walk. -/
import Derived.Test.YtnmgcfpemmejlaaDoorTimesZ
import Derived.Test.YtnmgcfpemmejlaaDoorTimesRa
namespace Go.Proofs.YtnmgcfpemmejlaaDoor
open Go.RowKit Go.Lib
set_option linter.unusedVariables false

/-- Block g is this row of cells, and may be written. -/
def AR (w : World) (g : Nat) (t : TypeId) (cs : Array Value) : Prop := w.heap[g]? = some (.cells cs t (0, 0))
section
variable {w W : World} {g : Nat} {t : TypeId} {cs : Array Value}
theorem AR.inside (h : AR w g t cs) : g < w.heap.size := (Array.getElem?_eq_some_iff.1 h).1
theorem AR.at (h : AR w g t cs) {i : Nat} {v : Value} (hv : cs[i]? = some v) : w.cell? ⟨g, i, none⟩ = some v := (cell_of_row w g i cs t (0, 0) h).trans hv
theorem AR.free (h : AR w g t cs) (i : Nat) : w.frozen? ⟨g, i, none⟩ = false := frozen_of_row w g i cs t h
theorem AR.made (w : World) (t : TypeId) (cs : Array Value) : AR (w.alloc (.cells cs t)) w.heap.size t cs := heap_alloc_new w _
theorem AR.put (h : AR w g t cs) (i : Nat) (v : Value) : AR (w.setCell ⟨g, i, none⟩ v) g t (cs.setIfInBounds i v) := heap_setCell_same w g i cs t v h
end
theorem byte_at (s : ByteArray) {k : Nat} (h : k < s.size) : s.data.toList.getD k 0 = s[k] := by rw [List.getD_eq_getElem?_getD, List.getElem?_eq_getElem (by simpa using h)]; rfl
/-- The program's numbers, after k bytes. -/
structure PW (w wr : World) (l : List UInt8) (n k D H M S : Nat) : Prop where
  inv : PI l n k D H M S
  row : AR wr w.heap.size 61 #[.int .i64 H, .int .i64 M, .int .i64 S, .int .i64 0]
  bel : Below w.heap.size w wr
/-- What Parse returns, of bytes. -/
structure PF (l : List UInt8) (pp : Int × Int) : Prop where
  short : l.length < 10 → pp = (0, 6)
  form : ∀ n, l.length = n + 9 → (n < 1 ∨ 15 < n ∨ l.getD n 0 ≠ 100 ∨ l.getD (n + 3) 0 ≠ 58 ∨ l.getD (n + 6) 0 ≠ 58) → pp = (0, 6)
  digit : ∀ n i, l.length = n + 9 → i < l.length → i ≠ n → i ≠ n + 3 → i ≠ n + 6 → isD (l.getD i 0) = false → pp = (0, 6)
  time : ∀ n D H M S, Reads l n D H M S → 9223372036854775807 < D * 86400 + H * 3600 + M * 60 + S → pp = (0, 6)
  text : ∀ n D H M S, Reads l n D H M S → textT (D * 86400 + H * 3600 + M * 60 + S) ≠ l → pp = (0, 6)
  is : ∀ t : Nat, t ≤ 9223372036854775807 → textT t = l → pp = ((t : Int), 0)
theorem PF.made (l : List UInt8) : PF l (parseT l) := ⟨no_short, fun _ h h2 => no_form h h2, fun _ _ h h2 h3 h4 h5 h6 => no_digit h h2 h3 h4 h5 h6, fun _ _ _ _ _ h h2 => no_time h h2, fun _ _ _ _ _ h h2 => no_text h h2, fun _ h h2 => is_text h h2⟩
def PPR (w : World) (pp : Int × Int) (e : Ending) (w' : World) : Prop := e = .returned (.tuple #[.int .i64 pp.1, .int .i64 pp.2]) ∧ Below w.heap.size w w'
theorem ret_pp {pp : Int × Int} {a b : Int} (h : pp = (a, b)) : Ending.returned (.tuple #[.int .i64 a, .int .i64 b]) = .returned (.tuple #[.int .i64 pp.1, .int .i64 pp.2]) := by rw [h]
set_option maxRecDepth 100000 in
set_option maxHeartbeats 16000000 in
theorem rparse_pp (s : ByteArray) (w : World) (hs : s.size ≤ 1000) (pp : Int × Int) (hF : PF s.data.toList pp) : Calls Tryd.prog 34 #[.string s] w (PPR w pp) := by
  have HF := Lib.hid hF
  clear hF
  have hlen : s.data.toList.length = s.size := by simp
  have HLEN := Lib.hid hlen
  by_cases h10 : s.size < 10
  · have HP : Hid (pp = (0, 6)) := Lib.hid (HF.out.short (by rw [hlen]; exact h10))
    clear hlen
    go_enter Tryd.func34, Tryd.ntmps34
    go_wp2_with fail
    go_ret2
    exact ⟨ret_pp HP.out, Below.refl _ _⟩
  obtain ⟨n, hn⟩ : ∃ n, s.size = n + 9 := ⟨s.size - 9, by omega⟩
  have HN := Lib.hid hn
  have HNI : Hid ((s.size : Int) - 9 = (n : Int)) := Lib.hid (by omega)
  have hn1 : n + 9 ≤ s.size := by omega
  have hn2 : s.size ≤ n + 9 := by omega
  have hl9 : Hid (s.data.toList.length = n + 9) := Lib.hid (by rw [hlen, hn])
  clear hlen hn
  have hp1 : 1 ≤ n := by omega
  have g0 : n < s.size := by omega
  have g3 : n + 3 < s.size := by omega
  have g6 : n + 6 < s.size := by omega
  have HB0 := Lib.hid (byte_at s g0); have HB3 := Lib.hid (byte_at s g3); have HB6 := Lib.hid (byte_at s g6)
  have z1 : decide ((n : Int) < 1) = false := by simp; omega
  by_cases h15 : 15 < n
  · have HP : Hid (pp = (0, 6)) := Lib.hid (HF.out.form n hl9.out (.inr (.inl h15)))
    go_enter Tryd.func34, Tryd.ntmps34
    go_upto_region 2 with fail
    rw [HNI.out]
    go_wp2_with fail
    go_ret2
    exact ⟨ret_pp HP.out, Below.refl _ _⟩
  have z2 : decide ((15 : Int) < (n : Int)) = false := by simp; omega
  have z3 : decide (15 < n) = false := by simp; omega
  by_cases b0 : s[n].toNat = 100
  case neg =>
    have HP : Hid (pp = (0, 6)) := Lib.hid (HF.out.form n hl9.out (.inr (.inr (.inl (by rw [HB0.out]; intro e; rw [e] at b0; exact b0 rfl)))))
    have y1 : ((s[n].toNat : Int) == 100) = false := by simp; omega
    have y2 : ((s[n].toNat : Int) != 100) = true := by simp; omega
    clear b0
    go_enter Tryd.func34, Tryd.ntmps34
    go_upto_region 2 with fail
    rw [HNI.out]
    go_wp2_with fail
    go_ret2
    exact ⟨ret_pp HP.out, Below.refl _ _⟩
  have b0y : ((s[n].toNat : Int) != 100) = false := by simp; omega
  have b0z : ((s[n].toNat : Int) == 100) = true := by simp; omega
  have Hb0 : Hid (s.data.toList.getD (n) 0 = 100) := Lib.hid (by rw [HB0.out]; exact UInt8.toNat_inj.1 b0)
  clear b0
  by_cases b3 : s[n + 3].toNat = 58
  case neg =>
    have HP : Hid (pp = (0, 6)) := Lib.hid (HF.out.form n hl9.out (.inr (.inr (.inr (.inl (by rw [HB3.out]; intro e; rw [e] at b3; exact b3 rfl))))))
    have y1 : ((s[n + 3].toNat : Int) == 58) = false := by simp; omega
    have y2 : ((s[n + 3].toNat : Int) != 58) = true := by simp; omega
    clear b3
    go_enter Tryd.func34, Tryd.ntmps34
    go_upto_region 2 with fail
    rw [HNI.out]
    go_wp2_with fail
    go_ret2
    exact ⟨ret_pp HP.out, Below.refl _ _⟩
  have b3y : ((s[n + 3].toNat : Int) != 58) = false := by simp; omega
  have b3z : ((s[n + 3].toNat : Int) == 58) = true := by simp; omega
  have Hb3 : Hid (s.data.toList.getD (n + 3) 0 = 58) := Lib.hid (by rw [HB3.out]; exact UInt8.toNat_inj.1 b3)
  clear b3
  by_cases b6 : s[n + 6].toNat = 58
  case neg =>
    have HP : Hid (pp = (0, 6)) := Lib.hid (HF.out.form n hl9.out (.inr (.inr (.inr (.inr (by rw [HB6.out]; intro e; rw [e] at b6; exact b6 rfl))))))
    have y1 : ((s[n + 6].toNat : Int) == 58) = false := by simp; omega
    have y2 : ((s[n + 6].toNat : Int) != 58) = true := by simp; omega
    clear b6
    go_enter Tryd.func34, Tryd.ntmps34
    go_upto_region 2 with fail
    rw [HNI.out]
    go_wp2_with fail
    go_ret2
    exact ⟨ret_pp HP.out, Below.refl _ _⟩
  have b6y : ((s[n + 6].toNat : Int) != 58) = false := by simp; omega
  have b6z : ((s[n + 6].toNat : Int) == 58) = true := by simp; omega
  have Hb6 : Hid (s.data.toList.getD (n + 6) 0 = 58) := Lib.hid (by rw [HB6.out]; exact UInt8.toNat_inj.1 b6)
  clear b6
  go_enter Tryd.func34, Tryd.ntmps34
  go_upto_region 2 with fail
  rw [HNI.out]
  go_wp2_with fail
  clear b0y b0z b3y b3z b6y b6z
  go_loopw [5, 7, 8] (fun dy i _ wr => ∃ (k D H M S : Nat), k ≤ n + 9 ∧ i = .int .i64 k ∧ dy = .int .i64 D ∧ Hid (PW w wr s.data.toList n k D H M S)) (fun _ i _ _ => n + 9 - (intOf i).toNat)
  case atStart => exact ⟨0, 0, 0, 0, 0, by omega, rfl, rfl, Lib.hid ⟨PI.start _ _, AR.made _ _ _, bl_self1 _ _⟩⟩
  case round =>
    obtain ⟨k, D, H, M, S, hk, rfl, rfl, HX⟩ := hrel
    have c0 := HX.out.row.at (i := 0) rfl
    have c1 := HX.out.row.at (i := 1) rfl
    have c2 := HX.out.row.at (i := 2) rfl
    have f0 := HX.out.row.free 0
    have f1 := HX.out.row.free 1
    have f2 := HX.out.row.free 2
    have hin := HX.out.row.inside
    obtain ⟨hH, hM, hS⟩ := HX.out.inv.restB
    have hD := HX.out.inv.dayB (by omega) hl9.out
    by_cases hlt : k < s.size
    · have hBK := byte_at s hlt
      have HBK := Lib.hid hBK
      clear hBK
      by_cases hsk : k = n ∨ k = n + 3 ∨ k = n + 6
      · have HI : Hid (PW w wr s.data.toList n (k + 1) D H M S) := Lib.hid ⟨HX.out.inv.skip hsk, HX.out.row, HX.out.bel⟩
        by_cases s0 : k = n
        · have e1 : ((k : Int) == (n : Int)) = true := by simp; omega
          have e2 : (k == n) = true := by simp; omega
          clear hsk s0
          go_wp2_with fail
          go_roundw
          case rel => exact ⟨k + 1, D, H, M, S, by omega, by go_num, rfl, HI⟩
          case measure => simp [intOf]; omega
        · have e1 : ((k : Int) == (n : Int)) = false := by simp; omega
          have e2 : (k == n) = false := by simp; omega
          by_cases s3 : k = n + 3
          · have e3 : ((k : Int) == (n : Int) + 3) = true := by simp; omega
            clear hsk s0 s3
            go_wp2_with fail
            go_roundw
            case rel => exact ⟨k + 1, D, H, M, S, by omega, by go_num, rfl, HI⟩
            case measure => simp [intOf]; omega
          · have e3 : ((k : Int) == (n : Int) + 3) = false := by simp; omega
            have e4 : ((k : Int) == (n : Int) + 6) = true := by simp; omega
            clear hsk s0 s3
            go_wp2_with fail
            go_roundw
            case rel => exact ⟨k + 1, D, H, M, S, by omega, by go_num, rfl, HI⟩
            case measure => simp [intOf]; omega
      · have e1 : ((k : Int) == (n : Int)) = false := by simp; omega
        have e2 : (k == n) = false := by simp; omega
        have e3 : ((k : Int) == (n : Int) + 3) = false := by simp; omega
        have e4 : ((k : Int) == (n : Int) + 6) = false := by simp; omega
        have HSK := Lib.hid hsk
        by_cases hdl : s[k].toNat < 48
        · have HP : Hid (pp = (0, 6)) := Lib.hid (HF.out.digit n k hl9.out (by rw [hl9.out]; omega) (by omega) (by omega) (by omega) (by rw [HBK.out]; unfold isD; simp; omega))
          clear hsk
          go_wp2_with fail
          go_ret2
          exact ⟨ret_pp HP.out, HX.out.bel⟩
        · have hdl' : decide ((s[k].toNat : Int) < 48) = false := by simp; omega
          have hdl2 : 48 ≤ s[k].toNat := by omega
          by_cases hdh : 57 < s[k].toNat
          · have HP : Hid (pp = (0, 6)) := Lib.hid (HF.out.digit n k hl9.out (by rw [hl9.out]; omega) (by omega) (by omega) (by omega) (by rw [HBK.out]; unfold isD; simp; omega))
            clear hsk
            go_wp2_with fail
            go_ret2
            exact ⟨ret_pp HP.out, HX.out.bel⟩
          · have hdh2 : s[k].toNat ≤ 57 := by omega
            have HDG : Hid (isD s[k] = true) := Lib.hid (by unfold isD; simp; omega)
            clear hdl hdh
            by_cases hkn : k < n
            · have HI := Lib.hid (HX.out.inv.dayS hkn (by rw [hl9.out]; omega) HBK.out HDG.out)
              clear hsk
              go_wp2_with fail
              go_roundw
              case rel => exact ⟨k + 1, _, H, M, S, by omega, by go_num, by congr 1; omega, Lib.hid ⟨HI.out, HX.out.row, HX.out.bel⟩⟩
              case measure => simp [intOf]; omega
            · have hk2 : n + 1 ≤ k := by omega
              have d1 : decide (k < n) = false := by simp; omega
              have d2 : decide ((k : Int) < (n : Int)) = false := by simp; omega
              by_cases hk3 : k < n + 3
              · have tkk : True := trivial
                have HI := Lib.hid (HX.out.inv.hourS hk2 hk3 (by rw [hl9.out]; omega) HBK.out HDG.out)
                have hq : ((k : Int) - (n : Int)) / 3 = 0 := by omega
                clear hsk
                go_wp2_with fail
                go_roundw
                case rel => exact ⟨k + 1, D, _, M, S, by omega, by go_num, rfl, Lib.hid ⟨HI.out, by rw [show ((H * 10 + (s[k].toNat - 48) : Nat) : Int) = 10 * (H : Int) + ((s[k].toNat : Int) - 48) by omega]; exact HX.out.row.put 0 _, HX.out.bel.setCell (p := ⟨_, _, none⟩) (Nat.le_refl _) _⟩⟩
                case measure => simp [intOf]; omega
              · have hk4 : n + 4 ≤ k := by omega
                by_cases hk5 : k < n + 6
                · have tkk : True := trivial
                  have HI := Lib.hid (HX.out.inv.minS hk4 hk5 (by rw [hl9.out]; omega) HBK.out HDG.out)
                  have hq : ((k : Int) - (n : Int)) / 3 = 1 := by omega
                  clear hsk
                  go_wp2_with fail
                  go_roundw
                  case rel => exact ⟨k + 1, D, H, _, S, by omega, by go_num, rfl, Lib.hid ⟨HI.out, by rw [show ((M * 10 + (s[k].toNat - 48) : Nat) : Int) = 10 * (M : Int) + ((s[k].toNat : Int) - 48) by omega]; exact HX.out.row.put 1 _, HX.out.bel.setCell (p := ⟨_, _, none⟩) (Nat.le_refl _) _⟩⟩
                  case measure => simp [intOf]; omega
                · have hk6 : n + 7 ≤ k := by omega
                  have hk7 : k < n + 9 := by omega
                  have HI := Lib.hid (HX.out.inv.secS hk6 hk7 (by rw [hl9.out]; omega) HBK.out HDG.out)
                  have hq : ((k : Int) - (n : Int)) / 3 = 2 := by omega
                  clear hsk
                  go_wp2_with fail
                  go_roundw
                  case rel => exact ⟨k + 1, D, H, M, _, by omega, by go_num, rfl, Lib.hid ⟨HI.out, by rw [show ((S * 10 + (s[k].toNat - 48) : Nat) : Int) = 10 * (S : Int) + ((s[k].toNat : Int) - 48) by omega]; exact HX.out.row.put 2 _, HX.out.bel.setCell (p := ⟨_, _, none⟩) (Nat.le_refl _) _⟩⟩
                  case measure => simp [intOf]; omega
    · have hke : k = n + 9 := by omega
      have HRD := Lib.hid (HX.out.inv.done hke hl9.out Hb0.out Hb3.out Hb6.out)
      have HBW := Lib.hid HX.out.bel
      clear hke
      by_cases hdd : 106751991167300 < D
      · have HP : Hid (pp = (0, 6)) := Lib.hid (HF.out.time n D H M S HRD.out (by omega))
        go_wp2_with fail
        go_ret2
        exact ⟨ret_pp HP.out, HBW.out⟩
      · have hdd2 : D ≤ 106751991167300 := by omega
        have y1 : decide ((106751991167300 : Int) < (D : Int)) = false := by simp; omega
        by_cases hto : 9223372036854775807 - ((H : Int) * 3600 + (M : Int) * 60 + (S : Int)) < (D : Int) * 86400
        · have HP : Hid (pp = (0, 6)) := Lib.hid (HF.out.time n D H M S HRD.out (by omega))
          go_wp2_with fail
          go_ret2
          exact ⟨ret_pp HP.out, HBW.out⟩
        · have hto2 : (D : Int) * 86400 ≤ 9223372036854775807 - ((H : Int) * 3600 + (M : Int) * 60 + (S : Int)) := by omega
          go_upto_region 19 with fail
          obtain ⟨t, ht⟩ : ∃ t : Int, (D : Int) * 86400 + (H : Int) * 3600 + (M : Int) * 60 + (S : Int) = t := ⟨_, rfl⟩
          rw [ht]
          have ht0 : 0 ≤ t := by omega
          have ht1 : t ≤ 9223372036854775807 := by omega
          have HTN : Hid (t.toNat = D * 86400 + H * 3600 + M * 60 + S) := Lib.hid (by omega)
          have HT6 : Hid (N64 t) := Lib.hid ⟨by omega, ht1⟩
          have HPR := Lib.hid (pr_pos (t := t) (by omega))
          obtain ⟨Y, hY⟩ : ∃ Y, (⟨(prS t).toArray⟩ : ByteArray) = Y := ⟨_, rfl⟩
          by_cases htx : textT t.toNat = s.data.toList
          · have HP : Hid (pp = (t, 0)) := Lib.hid (by
              have := HF.out.is t.toNat (by omega) htx
              rw [this, show ((t.toNat : Nat) : Int) = t by omega])
            have hYs : Y = s := by rw [← hY, HPR.out.1, htx]
            subst hYs
            have HY := Lib.hid hY
            clear ht hY htx hto hto2
            go_wp2_with (go_at_call 32; (with_reducible refine (rprint_any t _ HT6.out).mono ?_); rintro e w2 ⟨rfl, hb⟩; rw [HY.out, HPR.out.2]; have B2 := Lib.hid (bl_cl HBW.out hb); clear hb)
            go_ret2
            exact ⟨ret_pp HP.out, B2.out⟩
          · have HP : Hid (pp = (0, 6)) := Lib.hid (HF.out.text n D H M S HRD.out (by rw [← HTN.out]; exact htx))
            have hne : (Y.toList == s.toList) = false := by
              apply beq_false_of_ne
              rw [list_ba, list_ba, ← hY, HPR.out.1]
              exact htx
            have HY := Lib.hid hY
            clear ht hY htx hto hto2
            go_wp2_with (go_at_call 32; (with_reducible refine (rprint_any t _ HT6.out).mono ?_); rintro e w2 ⟨rfl, hb⟩; rw [HY.out, HPR.out.2]; have B2 := Lib.hid (bl_cl HBW.out hb); clear hb)
            go_ret2
            exact ⟨ret_pp HP.out, B2.out⟩
theorem rparse_any (s : ByteArray) (w : World) (hs : s.size ≤ 1000) : Calls Tryd.prog 34 #[.string s] w (ParseR w s.data.toList) := rparse_pp s w hs _ (PF.made _)
end Go.Proofs.YtnmgcfpemmejlaaDoor
