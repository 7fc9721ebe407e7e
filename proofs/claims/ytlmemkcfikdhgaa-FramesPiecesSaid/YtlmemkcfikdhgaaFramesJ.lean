/- Frame and Join of both sides; the reference's Same. -/
import Derived.Test.YtlmemkcfikdhgaaFramesI
namespace Go.Proofs.Ytlmemkcfikdhgaa
open Go.RowKit Go.Lib
set_option linter.unusedVariables false

def frameO (p : List Nat) : List Nat := if errP p = 0 then frameL p else []
def FrameR (w : World) (p : List Nat) (e : Ending) (w' : World) : Prop := ∃ v, e = .returned (.tuple #[v, .int .i64 (errP p)]) ∧ ON w' w.heap.size v (frameO p) ∧ Below w.heap.size w w'
theorem err_zero {p : List Nat} (h : errP p = 0) : 0 < p.length ∧ p.length ≤ 1024 := by
  unfold errP at h
  split at h
  · omega
  · split at h <;> omega
theorem err_of {p : List Nat} (h0 : 0 < p.length) (h1 : p.length ≤ 1024) : errP p = 0 := by unfold errP; rw [if_neg (by omega), if_neg (by omega)]
set_option maxRecDepth 20000 in
set_option maxHeartbeats 2000000 in
theorem frame_any (v : Value) (p : List Nat) (w : World) (hv : RN w v p) : Calls Try.prog 10 #[v] w (FrameR w p) := by
  obtain ⟨A, c, rfl⟩ := hv.len
  have HV := Lib.hid hv
  clear hv
  obtain ⟨E, hE⟩ : ∃ E, errP p = E := ⟨_, rfl⟩
  have HE := Lib.hid hE
  by_cases h0 : E = 0
  · have h1 := err_zero (hE.trans h0)
    subst h0
    have HO : Hid (frameO p = [] ++ frameL p) := Lib.hid (by unfold frameO; rw [if_pos hE]; rfl)
    clear hE
    go_enter Try.func10, Try.ntmps10
    go_wp2_with (first
      | (go_at_call 18; (with_reducible refine (checkPayload_any _ p _ HV.out).mono ?_); rintro e w1 ⟨rfl, rfl⟩; rw [HE.out])
      | (go_at_call 19; (with_reducible refine (appendFrame_any w.heap.size _ _ [] p w (ON.nil _ _) (fun W hb => HV.out.later hb) (Nat.le_refl _) h1.2 (by simp)).mono ?_); rintro e w1 ⟨v1, rfl, ho, hb⟩; have HB := Lib.hid hb; have HON := Lib.hid ho; clear ho hb))
    obtain ⟨A1, c1, rfl⟩ := HON.out.len
    refine bodyPost_ret (v := .tuple #[_, .int .i64 0]) (by simp [results, Try.f10, go_sem]; rfl) rfl ?_
    exact ⟨_, by rw [HE.out], by rw [HO.out]; exact HON.out, HB.out⟩
  · have HO : Hid (frameO p = []) := Lib.hid (by unfold frameO; rw [if_neg (by rw [hE]; exact h0)])
    have e0 : (E != 0) = true := by rw [bne_iff_ne]; exact h0
    clear hE
    go_enter Try.func10, Try.ntmps10
    go_wp2_with (go_at_call 18; (with_reducible refine (checkPayload_any _ p _ HV.out).mono ?_); rintro e w1 ⟨rfl, rfl⟩; rw [HE.out])
    refine bodyPost_ret (v := .tuple #[.slice none 0 0, .int .i64 E]) (by simp [results, Try.f10, go_sem]) rfl ?_
    exact ⟨_, by rw [HE.out], by rw [HO.out]; exact ON.nil _ _, Below.refl _ _⟩

set_option maxRecDepth 20000 in
set_option maxHeartbeats 2000000 in
theorem rframe_any (v : Value) (p : List Nat) (w : World) (hv : RN w v p) : Calls Try.prog 11 #[v] w (FrameR w p) := by
  obtain ⟨A, c, rfl⟩ := hv.len
  have hm := hv.max
  unfold maxLen at hm
  have HV := Lib.hid hv
  clear hv
  by_cases h0 : p.length = 0
  · have HE : Hid (errP p = 6) := Lib.hid (by unfold errP; rw [if_pos h0])
    have HO : Hid (frameO p = []) := Lib.hid (by unfold frameO; rw [HE.out]; rfl)
    rw [h0]
    go_enter Try.func11, Try.ntmps11
    go_wp2_with fail
    refine bodyPost_ret (v := .tuple #[.slice none 0 0, .int .i64 6]) (by simp [results, Try.f11, go_sem]) rfl ?_
    exact ⟨_, by rw [HE.out], by rw [HO.out]; exact ON.nil _ _, Below.refl _ _⟩
  · have e0 : ((p.length : Int) == 0) = false := by rw [beq_eq_false_iff_ne]; omega
    by_cases h1 : 1024 < p.length
    · have HE : Hid (errP p = 3) := Lib.hid (by unfold errP; rw [if_neg h0, if_pos h1])
      have HO : Hid (frameO p = []) := Lib.hid (by unfold frameO; rw [HE.out]; rfl)
      go_enter Try.func11, Try.ntmps11
      go_wp2_with fail
      refine bodyPost_ret (v := .tuple #[.slice none 0 0, .int .i64 3]) (by simp [results, Try.f11, go_sem]) rfl ?_
      exact ⟨_, by rw [HE.out], by rw [HO.out]; exact ON.nil _ _, Below.refl _ _⟩
    · have HE : Hid (errP p = 0) := Lib.hid (by unfold errP; rw [if_neg h0, if_neg h1])
      obtain ⟨n, hn⟩ : ∃ n, p.length = n := ⟨_, rfl⟩
      obtain ⟨x2, h2⟩ : ∃ x, n / 256 % 256 = x := ⟨_, rfl⟩
      obtain ⟨x3, h3⟩ : ∃ x, n % 256 = x := ⟨_, rfl⟩
      have HO : Hid (frameO p = [71, 1, x2, x3] ++ p) := Lib.hid (by unfold frameO; rw [if_pos HE.out]; unfold frameL headL; rw [hn, h2, h3])
      have q2 : (n : Int) / 256 = (x2 : Int) := by omega
      have q3 : (n : Int) % 256 = (x3 : Int) := by omega
      have q4 : x2 < 256 := by omega
      have q5 : x3 < 256 := by omega
      have HNN := Lib.hid hn
      have HV : Hid (RN w (.slice A n c) p) := Lib.hid (by have := HV.out; rw [hn] at this; exact this)
      rw [hn] at h0 h1 hm e0 ⊢
      have t2 : Int.tdiv (n : Int) 256 = (x2 : Int) := by rw [Int.tdiv_eq_ediv_of_nonneg (by omega)]; exact q2
      have t3 : Int.tmod (n : Int) 256 = (x3 : Int) := by rw [Int.tmod_eq_emod_of_nonneg (by omega)]; exact q3
      clear hn h2 h3
      go_enter Try.func11, Try.ntmps11
      go_wp2_with ((with_reducible refine atOp ⟨some 19, _, _, _, _, _⟩ ?_); refine wpList_append_on _ rfl _ _ rfl w.heap.size _ _ [71, 1, x2, x3] p rfl (on_four w x2 x3) rfl (HV.out.later (bl_alloc _ (Below.refl _ _))) (by simp) (by rw [HNN.out]; simp; omega) ?_; intro v2 w2 hown hgrow; have hbw := (bl_alloc (.cells #[.int .u8 71, .int .u8 1, .int .u8 x2, .int .u8 x3] 5) (Below.refl w.heap.size w)).grown hgrow (by simp) (fun q e => by cases e; exact Nat.le_refl _); have HB2 := Lib.hid hbw; have HO2 := Lib.hid hown; clear hbw hown hgrow)
      obtain ⟨A1, c1, rfl⟩ := HO2.out.len
      refine bodyPost_ret (v := .tuple #[_, .int .i64 0]) (by simp [results, Try.f11, go_sem]; rfl) rfl ?_
      exact ⟨_, by rw [HE.out], by rw [HO.out]; exact HO2.out, HB2.out⟩

/-! ### Join -/
def joinO (ps : List (List Nat)) : List Nat := if errJ ps = 0 then joinL ps else []
def JoinR (w : World) (ps : List (List Nat)) (e : Ending) (w' : World) : Prop := ∃ v, e = .returned (.tuple #[v, .int .i64 (errJ ps)]) ∧ ON w' w.heap.size v (joinO ps) ∧ Below w.heap.size w w'
theorem errG_app : ∀ a b : List (List Nat), errG (a ++ b) = if errG a = 0 then errG b else errG a
  | [], b => by simp [errG]
  | p :: a, b => by
    rw [List.cons_append, errG, errG, errG_app a b]
    split
    · rfl
    · rfl
theorem errG_bad {ps : List (List Nat)} {k : Nat} (hk : k < ps.length) (h : errG (ps.take k) = 0) (hb : errP (ps.getD k []) ≠ 0) : errG ps = errP (ps.getD k []) := by
  have e : ps = ps.take k ++ ps.getD k [] :: ps.drop (k + 1) := by
    conv => lhs; rw [← List.take_append_drop k ps, List.drop_eq_getElem_cons hk]
    rw [List.getD_eq_getElem?_getD, List.getElem?_eq_getElem hk]; rfl
  conv => lhs; rw [e]
  rw [errG_app, if_pos h, errG, if_neg hb]
theorem errG_step {ps : List (List Nat)} {k : Nat} (hk : k < ps.length) (h : errG (ps.take k) = 0) (hb : errP (ps.getD k []) = 0) : errG (ps.take (k + 1)) = 0 := by
  rw [List.take_succ_eq_append_getElem hk, errG_app, if_pos h, errG]
  rw [List.getD_eq_getElem?_getD, List.getElem?_eq_getElem hk] at hb
  simp only [Option.getD_some] at hb
  rw [if_pos hb]; rfl
theorem join_step {ps : List (List Nat)} {k : Nat} (hk : k < ps.length) : joinL (ps.take (k + 1)) = joinL (ps.take k) ++ frameL (ps.getD k []) := by
  have e : (ps.getD k []) = ps[k] := by rw [List.getD_eq_getElem?_getD, List.getElem?_eq_getElem hk]; rfl
  rw [e]
  unfold joinL
  rw [List.take_succ_eq_append_getElem hk, List.flatMap_append, List.flatMap_singleton]
theorem join_len : ∀ ps : List (List Nat), errG ps = 0 → (joinL ps).length ≤ 1028 * ps.length
  | [], _ => by simp [joinL]
  | p :: ps, h => by
    unfold errG at h
    by_cases hp : errP p = 0
    · rw [if_pos hp] at h
      have h1 := join_len ps h
      have h2 := err_zero hp
      have e : joinL (p :: ps) = frameL p ++ joinL ps := rfl
      rw [e, List.length_append, List.length_cons]
      have : (frameL p).length = 4 + p.length := by simp [frameL, headL]; omega
      omega
    · rw [if_neg hp] at h; exact absurd h hp
theorem join_long (f : Nat) (hf : f = 12 ∨ f = 13) (v : Value) (ps : List (List Nat)) (w : World) (hv : PN w v ps) (hl : 1000 < ps.length) : Calls Try.prog f #[v] w (JoinR w ps) := by
  obtain ⟨A, c, rfl⟩ := hv.len
  have hm := hv.max
  unfold maxLen at hm
  have HE : Hid (errJ ps = 3) := Lib.hid (by unfold errJ; rw [if_pos hl])
  have HO : Hid (joinO ps = []) := Lib.hid (by unfold joinO; rw [HE.out]; rfl)
  clear hv
  rcases hf with rfl | rfl
  · go_enter Try.func12, Try.ntmps12
    go_wp2_with fail
    refine bodyPost_ret (v := .tuple #[.slice none 0 0, .int .i64 3]) (by simp [results, Try.f12, go_sem]) rfl ?_
    exact ⟨_, by rw [HE.out], by rw [HO.out]; exact ON.nil _ _, Below.refl _ _⟩
  · go_enter Try.func13, Try.ntmps13
    go_wp2_with fail
    refine bodyPost_ret (v := .tuple #[.slice none 0 0, .int .i64 3]) (by simp [results, Try.f13, go_sem]) rfl ?_
    exact ⟨_, by rw [HE.out], by rw [HO.out]; exact ON.nil _ _, Below.refl _ _⟩
theorem join_zero (f : Nat) (hf : f = 12 ∨ f = 13) (A : Option Addr) (c : Nat) (w : World) : Calls Try.prog f #[.slice A 0 c] w (JoinR w []) := by
  rcases hf with rfl | rfl
  · go_enter Try.func12, Try.ntmps12
    go_wp2_with fail
    refine wp_loop_rounds 1 ?_
    rw [rounds_succ]
    go_wp2_with fail
    refine bodyPost_ret (v := .tuple #[.slice none 0 0, .int .i64 0]) (by simp [results, Try.f12, go_sem]) rfl ?_
    exact ⟨_, rfl, ON.nil _ _, Below.refl _ _⟩
  · go_enter Try.func13, Try.ntmps13
    go_wp2_with fail
    refine wp_loop_rounds 1 ?_
    rw [rounds_succ]
    go_wp2_with fail
    refine bodyPost_ret (v := .tuple #[.slice none 0 0, .int .i64 0]) (by simp [results, Try.f13, go_sem]) rfl ?_
    exact ⟨_, rfl, ON.nil _ _, Below.refl _ _⟩
def intAt (v : Value) : Int := match v with | .int _ n => n | _ => 0
set_option maxRecDepth 20000 in
set_option maxHeartbeats 4000000 in
theorem join_some (g off c : Nat) (ps : List (List Nat)) (w : World) (h : PN w (.slice (some ⟨g, off, none⟩) ps.length c) ps) (h0 : 0 < ps.length) (hl : ps.length ≤ 1000) : Calls Try.prog 12 #[.slice (some ⟨g, off, none⟩) ps.length c] w (JoinR w ps) := by
  obtain ⟨_, _, e, _, hlc, hcm, hg, hcell⟩ := h.at h0
  cases e
  have HC := Lib.hid hcell
  clear hcell h
  have HJ : Hid (errJ ps = errG ps) := Lib.hid (by unfold errJ; rw [if_neg (by omega)])
  obtain ⟨n, hn⟩ : ∃ n, ps.length = n := ⟨_, rfl⟩
  have HN := Lib.hid hn
  rw [hn] at h0 hlc hl ⊢
  clear hn
  go_enter Try.func12, Try.ntmps12
  go_wp2_with fail
  go_loopw [4, 13] (fun v i wr => ∃ k : Nat, k ≤ n ∧ i = .int .i64 k ∧ Hid (errG (ps.take k) = 0) ∧ Hid (ON wr w.heap.size v (joinL (ps.take k))) ∧ Hid (Below w.heap.size w wr)) (fun _ i _ => n - (intOf i).toNat)
  case atStart => exact ⟨0, Nat.zero_le _, rfl, Lib.hid rfl, Lib.hid (ON.nil _ _), Lib.hid (Below.refl _ _)⟩
  case round =>
    obtain ⟨k, hk, rfl, HG, HO, HB⟩ := hrel
    by_cases hlt : k < n
    · obtain ⟨u, cu, hu, _⟩ := HC.out k (by rw [HN.out]; exact hlt)
      obtain ⟨q, hq⟩ : ∃ q, ps.getD k [] = q := ⟨_, rfl⟩
      have HQ := Lib.hid hq
      rw [hq] at hu
      obtain ⟨Au, ccu, rfl⟩ := hu.len
      have cw := (HB.out.cell (p := ⟨g, off + k, none⟩) hg).trans cu
      have HU := Lib.hid hu
      have hBw := HB.out.size
      obtain ⟨E, hE⟩ : ∃ E, errP q = E := ⟨_, rfl⟩
      have HE := Lib.hid hE
      by_cases e0 : E = 0
      · subst e0
        have h1 := err_zero hE
        have HG2 := Lib.hid (errG_step (by rw [HN.out]; exact hlt) HG.out (by rw [HQ.out]; exact hE))
        have HJS : Hid (joinL (ps.take (k + 1)) = joinL (ps.take k) ++ frameL q) := Lib.hid (by rw [join_step (by rw [HN.out]; exact hlt), HQ.out])
        have h2 := join_len _ HG.out
        have h3 : (ps.take k).length ≤ k := by rw [List.length_take]; omega
        have HJL : Hid ((joinL (ps.take k)).length ≤ 2000000) := Lib.hid (by omega)
        clear h2 h3
        clear hE hu hq
        go_wp2_with (first
          | (go_at_call 18; (with_reducible refine (checkPayload_any _ _ _ (HU.out.later HB.out)).mono ?_); rintro e w1 ⟨rfl, rfl⟩; rw [HE.out])
          | (go_at_call 19; (with_reducible refine (appendFrame_any w.heap.size _ _ (joinL (ps.take k)) q _ HO.out (fun W hb => HU.out.later (HB.out.trans hb)) hBw h1.2 HJL.out).mono ?_); rintro e w1 ⟨v1, rfl, ho, hb⟩; have HB2 := Lib.hid (HB.out.trans hb); have HON := Lib.hid ho; clear ho hb))
        exact ⟨⟨k + 1, by omega, by go_num, HG2, Lib.hid (by rw [HJS.out]; exact HON.out), HB2⟩, by simp [intOf]; omega⟩
      · have HGE : Hid (errJ ps = E) := Lib.hid (by rw [HJ.out, errG_bad (by rw [HN.out]; exact hlt) HG.out (by rw [HQ.out, hE]; exact e0), HQ.out, hE])
        have HO2 : Hid (joinO ps = []) := Lib.hid (by unfold joinO; rw [HGE.out, if_neg e0])
        have e1 : (E != 0) = true := by rw [bne_iff_ne]; exact e0
        clear hE hu hq
        go_wp2_with (go_at_call 18; (with_reducible refine (checkPayload_any _ _ _ (HU.out.later HB.out)).mono ?_); rintro e w1 ⟨rfl, rfl⟩; rw [HE.out])
        refine bodyPost_ret (v := .tuple #[.slice none 0 0, .int .i64 E]) (by simp [results, Try.f12, go_sem]) rfl ?_
        exact ⟨_, by rw [HGE.out], by rw [HO2.out]; exact ON.nil _ _, HB.out⟩
    · obtain rfl : k = n := by omega
      have HT : Hid (ps.take k = ps) := Lib.hid (List.take_of_length_le (by rw [HN.out]; exact Nat.le_refl _))
      have hG := HG.out
      have hO := HO.out
      rw [HT.out] at hG hO
      have HG2 := Lib.hid hG; have HO2 := Lib.hid hO
      obtain ⟨A1, c1, rfl⟩ := hO.len
      clear hG hO
      go_wp2_with fail
      refine bodyPost_ret (v := .tuple #[.slice A1 (joinL ps).length c1, .int .i64 0]) (by simp [results, Try.f12, go_sem]) rfl ?_
      exact ⟨_, by rw [HJ.out, HG2.out], by unfold joinO; rw [HJ.out, if_pos HG2.out]; exact HO2.out, HB.out⟩
set_option maxRecDepth 20000 in
set_option maxHeartbeats 4000000 in
theorem rjoin_some (g off c : Nat) (ps : List (List Nat)) (w : World) (h : PN w (.slice (some ⟨g, off, none⟩) ps.length c) ps) (h0 : 0 < ps.length) (hl : ps.length ≤ 1000) : Calls Try.prog 13 #[.slice (some ⟨g, off, none⟩) ps.length c] w (JoinR w ps) := by
  obtain ⟨_, _, e, _, hlc, hcm, hg, hcell⟩ := h.at h0
  cases e
  have HC := Lib.hid hcell
  clear hcell h
  have HJ : Hid (errJ ps = errG ps) := Lib.hid (by unfold errJ; rw [if_neg (by omega)])
  obtain ⟨n, hn⟩ : ∃ n, ps.length = n := ⟨_, rfl⟩
  have HN := Lib.hid hn
  rw [hn] at h0 hlc hl ⊢
  clear hn
  go_enter Try.func13, Try.ntmps13
  go_wp2_with fail
  go_loopw [4, 5] (fun v i wr => ∃ k : Nat, k ≤ n ∧ i = .int .i64 k ∧ Hid (errG (ps.take k) = 0) ∧ Hid (ON wr w.heap.size v (joinL (ps.take k))) ∧ Hid (Below w.heap.size w wr)) (fun _ i _ => n - (intOf i).toNat)
  case atStart => exact ⟨0, Nat.zero_le _, rfl, Lib.hid rfl, Lib.hid (ON.nil _ _), Lib.hid (Below.refl _ _)⟩
  case round =>
    obtain ⟨k, hk, rfl, HG, HO, HB⟩ := hrel
    by_cases hlt : k < n
    · obtain ⟨u, cu, hu, _⟩ := HC.out k (by rw [HN.out]; exact hlt)
      obtain ⟨q, hq⟩ : ∃ q, ps.getD k [] = q := ⟨_, rfl⟩
      have HQ := Lib.hid hq
      rw [hq] at hu
      obtain ⟨Au, ccu, rfl⟩ := hu.len
      have cw := (HB.out.cell (p := ⟨g, off + k, none⟩) hg).trans cu
      have HU := Lib.hid hu
      have hBw := HB.out.size
      obtain ⟨E, hE⟩ : ∃ E, errP q = E := ⟨_, rfl⟩
      have HE := Lib.hid hE
      by_cases e0 : E = 0
      · subst e0
        have HG2 := Lib.hid (errG_step (by rw [HN.out]; exact hlt) HG.out (by rw [HQ.out]; exact hE))
        have HJS : Hid (joinL (ps.take (k + 1)) = joinL (ps.take k) ++ frameL q) := Lib.hid (by rw [join_step (by rw [HN.out]; exact hlt), HQ.out])
        have h2 := join_len _ HG.out
        have h3 : (ps.take k).length ≤ k := by rw [List.length_take]; omega
        have h4 := err_zero hE
        have h5 : (frameL q).length = 4 + q.length := by simp [frameL, headL]; omega
        have HJL : Hid ((joinL (ps.take k)).length + (frameL q).length ≤ 10000000) := Lib.hid (by omega)
        have HFO : Hid (frameO q = frameL q) := Lib.hid (by unfold frameO; rw [if_pos hE])
        clear h2 h3 h4 h5 hE hu hq
        go_wp2_with (first
          | (go_at_call 11; (with_reducible refine (rframe_any _ q _ (HU.out.later HB.out)).mono ?_); rintro e w1 ⟨v1, rfl, ho, hb⟩; rw [HE.out]; rw [HFO.out] at ho; have HON := Lib.hid ho; have HB2 := Lib.hid (bl_call HB.out hb); have HO3 := Lib.hid (HO.out.later hb); clear ho hb)
          | ((with_reducible refine atOp ⟨some 30, _, _, _, _, _⟩ ?_); refine wpList_append_on _ rfl _ _ rfl w.heap.size _ _ (joinL (ps.take k)) (frameL q) rfl HO3.out rfl HON.out.rn HB2.out.size HJL.out ?_; intro v2 w2 hown hgrow; have hbw := HB2.out.grown hgrow HB2.out.size (fun q e => (World.ownsRow.lt HO3.out q e).1); have HB4 := Lib.hid hbw; have HO4 := Lib.hid hown; clear hbw hown hgrow))
        exact ⟨⟨k + 1, by omega, by go_num, HG2, Lib.hid (by rw [HJS.out]; exact HO4.out), HB4⟩, by simp [intOf]; omega⟩
      · have HGE : Hid (errJ ps = E) := Lib.hid (by rw [HJ.out, errG_bad (by rw [HN.out]; exact hlt) HG.out (by rw [HQ.out, hE]; exact e0), HQ.out, hE])
        have HO2 : Hid (joinO ps = []) := Lib.hid (by unfold joinO; rw [HGE.out, if_neg e0])
        have e1 : (E != 0) = true := by rw [bne_iff_ne]; exact e0
        clear hE hu hq
        go_wp2_with (go_at_call 11; (with_reducible refine (rframe_any _ q _ (HU.out.later HB.out)).mono ?_); rintro e w1 ⟨v1, rfl, ho, hb⟩; rw [HE.out]; have HB2 := Lib.hid (bl_call HB.out hb); clear ho hb)
        refine bodyPost_ret (v := .tuple #[.slice none 0 0, .int .i64 E]) (by simp [results, Try.f13, go_sem]) rfl ?_
        exact ⟨_, by rw [HGE.out], by rw [HO2.out]; exact ON.nil _ _, HB2.out⟩
    · obtain rfl : k = n := by omega
      have HT : Hid (ps.take k = ps) := Lib.hid (List.take_of_length_le (by rw [HN.out]; exact Nat.le_refl _))
      have hG := HG.out
      have hO := HO.out
      rw [HT.out] at hG hO
      have HG2 := Lib.hid hG; have HO2 := Lib.hid hO
      obtain ⟨A1, c1, rfl⟩ := hO.len
      clear hG hO
      go_wp2_with fail
      refine bodyPost_ret (v := .tuple #[.slice A1 (joinL ps).length c1, .int .i64 0]) (by simp [results, Try.f13, go_sem]) rfl ?_
      exact ⟨_, by rw [HJ.out, HG2.out], by unfold joinO; rw [HJ.out, if_pos HG2.out]; exact HO2.out, HB.out⟩
theorem join_any (v : Value) (ps : List (List Nat)) (w : World) (h : PN w v ps) : Calls Try.prog 12 #[v] w (JoinR w ps) := by
  by_cases hl : 1000 < ps.length
  · exact join_long _ (.inl rfl) v ps w h hl
  · obtain ⟨A, c, rfl⟩ := h.len
    rcases Nat.eq_zero_or_pos ps.length with h0 | h0
    · obtain rfl := List.eq_nil_of_length_eq_zero h0
      exact join_zero _ (.inl rfl) A c w
    · obtain ⟨g, off, rfl, _⟩ := h.at h0
      exact join_some g off c ps w h h0 (by omega)
theorem rjoin_any (v : Value) (ps : List (List Nat)) (w : World) (h : PN w v ps) : Calls Try.prog 13 #[v] w (JoinR w ps) := by
  by_cases hl : 1000 < ps.length
  · exact join_long _ (.inr rfl) v ps w h hl
  · obtain ⟨A, c, rfl⟩ := h.len
    rcases Nat.eq_zero_or_pos ps.length with h0 | h0
    · obtain rfl := List.eq_nil_of_length_eq_zero h0
      exact join_zero _ (.inr rfl) A c w
    · obtain ⟨g, off, rfl, _⟩ := h.at h0
      exact rjoin_some g off c ps w h h0 (by omega)
end Go.Proofs.Ytlmemkcfikdhgaa
