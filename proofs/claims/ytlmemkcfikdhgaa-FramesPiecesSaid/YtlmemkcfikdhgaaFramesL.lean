/- What each law ends with: some calls return what the document says of them. -/
import Derived.Test.YtlmemkcfikdhgaaFramesK
import Derived.Lib.SlBytesConst
namespace Go.Proofs.Ytlmemkcfikdhgaa
open Go.RowKit Go.Lib
set_option linter.unusedVariables false

theorem rn_new (w : World) (xs : List Nat) (cs : Array Value) (n : Nat) (hcs : cs = (yL xs).toArray) (hn : xs.length = n) (h : n ≤ 1000) : RN (w.alloc (.cells cs 5)) (.slice (some ⟨w.heap.size, 0, none⟩) n n) xs := by
  subst hcs
  exact (on_new w xs n hn (by omega)).rn
theorem rn_mark (w : World) (xs : List Nat) (cs : Array Value) (n : Nat) (fr : Nat × Nat) (hcs : cs = (yL xs).toArray) (hn : xs.length = n) (h : n ≤ 1000) (h0 : 0 < n) : RN (w.alloc (.cells cs 5 fr)) (.slice (some ⟨w.heap.size, 0, none⟩) n n) xs := by
  subst hcs
  subst hn
  refine .inr ⟨w.heap.size, 0, xs.length, rfl, by simp, h0, Nat.le_refl _, by unfold maxLen; omega, fun i hi => ?_⟩
  rw [Nat.zero_add, cell_of_row _ _ i _ _ fr (heap_alloc_new w _)]
  simp [yL, hi, List.getD_eq_getElem?_getD]
theorem bb_of {xs : List Nat} (h : xs.all (fun x => decide (x < 256)) = true) : BB xs := fun x hx => by
  have := List.all_eq_true.1 h x hx
  simpa using this
theorem good_g : GoodS [71, 1] false := ⟨bb_of (by decide), by simp, .inr ⟨rfl, by decide, by decide⟩⟩
theorem fO_ab : frameO [97, 98] = [71, 1, 0, 2, 97, 98] := by decide
theorem eP_ab : errP [97, 98] = 0 := by decide
theorem buf_a : bufL [71, 1, 0, 1, 97, 71, 1] = [71, 1] := by decide +kernel
theorem bad_a : badL [71, 1, 0, 1, 97, 71, 1] = false := by decide +kernel
theorem end_a : endV [71, 1, 0, 1, 97, 71, 1] = .agg #[.string ⟨#[71, 1]⟩, .bool false] := by rw [endV_eq, buf_a, bad_a]; rfl
theorem pay_a : paysL [71, 1, 0, 1, 97, 71, 1] = [[97]] := by decide +kernel
theorem nbuf_b : nextBuf [71, 1] false [0, 1, 98, 99] = [] := by decide +kernel
theorem nbad_b : nextBad [71, 1] false [0, 1, 98, 99] = true := by decide +kernel
theorem npay_b : nextPays [71, 1] false [0, 1, 98, 99] = [[98]] := by decide +kernel
theorem least_g : leastL [71, 1] - [71, 1].length = 3 := by decide
theorem str_ab : strB [71, 1, 0, 2, 97, 98] = ⟨#[71, 1, 0, 2, 97, 98]⟩ := by decide
theorem str_a : strB [97] = ⟨#[97]⟩ := by decide
theorem str_b : strB [98] = ⟨#[98]⟩ := by decide
theorem str_g : strB [71, 1] = ⟨#[71, 1]⟩ := by decide
/-- One slice, of one's own. -/
theorem OL.one {w : World} {B : Nat} {v : Value} {L : List VB} {x : List Nat} (h : OL w B v L) (hp : L.map (·.2) = [x]) : ∃ g c u, v = .slice (some ⟨g, 0, none⟩) 1 c ∧ w.cell? ⟨g, 0, none⟩ = some u ∧ RN w u x ∧ g < w.heap.size := by
  match L, hp, h with
  | [(u, y)], hp, h =>
    simp only [List.map_cons, List.map_nil, List.cons.injEq, and_true] at hp
    subst hp
    have h' := h.1
    rcases h'.2 with ⟨rfl, h0⟩ | ⟨g, c, cur, rfl, hb, hg, hc, hm, hs, ht⟩
    · simp at h0
    · refine ⟨g, c, u, rfl, ?_, (h.2 _ (List.mem_singleton.2 rfl)).rn, (h'.lt g rfl).2⟩
      have := h'.cellAt (g := g) 0 (by simp)
      simpa using this
theorem rn_ab (w : World) : RN (w.alloc (.cells #[.int .u8 97, .int .u8 98] 5 (2, 3))) (.slice (some ⟨w.heap.size, 0, none⟩) 2 2) [97, 98] := rn_mark w [97, 98] _ 2 _ (by simp [yL]) rfl (by omega) (by omega)
theorem rn_a (w : World) : RN (w.alloc (.cells #[.int .u8 71, .int .u8 1, .int .u8 0, .int .u8 1, .int .u8 97, .int .u8 71, .int .u8 1] 5)) (.slice (some ⟨w.heap.size, 0, none⟩) 7 7) [71, 1, 0, 1, 97, 71, 1] := rn_new w [71, 1, 0, 1, 97, 71, 1] _ 7 (by simp [yL]) rfl (by omega)
theorem rn_b (w : World) : RN (w.alloc (.cells #[.int .u8 0, .int .u8 1, .int .u8 98, .int .u8 99] 5)) (.slice (some ⟨w.heap.size, 0, none⟩) 4 4) [0, 1, 98, 99] := rn_new w [0, 1, 98, 99] _ 4 (by simp [yL]) rfl (by omega)
theorem frame_ab (w : World) : Calls Try.prog 10 #[.slice (some ⟨w.heap.size, 0, none⟩) 2 2] (w.alloc (.cells #[.int .u8 97, .int .u8 98] 5 (2, 3))) fun e w' =>
    ∃ v, e = .returned (.tuple #[v, .int .i64 0]) ∧ RN w' v [71, 1, 0, 2, 97, 98] ∧ Below w.heap.size w w' := by
  refine Calls.mono (frame_any _ [97, 98] _ (rn_ab w)) ?_
  rintro e w' ⟨v, rfl, h1, h2⟩
  rw [eP_ab]
  rw [fO_ab] at h1
  exact ⟨v, rfl, h1.rn, bl_call (bl_alloc _ (Below.refl _ _)) h2⟩
theorem split_a (w : World) : Calls Try.prog 14 #[.slice (some ⟨w.heap.size, 0, none⟩) 7 7] (w.alloc (.cells #[.int .u8 71, .int .u8 1, .int .u8 0, .int .u8 1, .int .u8 97, .int .u8 71, .int .u8 1] 5)) fun e w' =>
    ∃ g c u, e = .returned (.tuple #[.slice (some ⟨g, 0, none⟩) 1 c, .agg #[.string ⟨#[71, 1]⟩, .bool false]]) ∧ w'.cell? ⟨g, 0, none⟩ = some u ∧ RN w' u [97] ∧ g < w'.heap.size ∧ Below w.heap.size w w' := by
  refine Calls.mono (split_calls _ [71, 1, 0, 1, 97, 71, 1] _ (rn_a w) (bb_of (by decide)) (by simp)) ?_
  rintro e w' ⟨v, L, rfl, h1, h2, h3⟩
  rw [end_a]
  rw [pay_a] at h2
  obtain ⟨g, c, u, rfl, k1, k2, k3⟩ := h1.one h2
  exact ⟨g, c, u, rfl, k1, k2, k3, bl_call (bl_alloc _ (Below.refl _ _)) h3⟩
theorem feed_g (w : World) : Calls Try.prog 15 #[.agg #[.string ⟨#[71, 1]⟩, .bool false], .slice (some ⟨w.heap.size, 0, none⟩) 4 4] (w.alloc (.cells #[.int .u8 0, .int .u8 1, .int .u8 98, .int .u8 99] 5)) fun e w' =>
    ∃ g c u, e = .returned (.tuple #[.agg #[.string ⟨#[]⟩, .bool true], .slice (some ⟨g, 0, none⟩) 1 c, .int .i64 0]) ∧ w'.cell? ⟨g, 0, none⟩ = some u ∧ RN w' u [98] ∧ g < w'.heap.size ∧ Below w.heap.size w w' := by
  refine Calls.mono (feed_any [71, 1] false _ [0, 1, 98, 99] _ good_g (rn_b w) (bb_of (by decide)) (by simp)) ?_
  rintro e w' ⟨v, L, rfl, h1, h2, h3⟩
  rw [nbuf_b, nbad_b]
  rw [npay_b] at h2
  obtain ⟨g, c, u, rfl, k1, k2, k3⟩ := h1.one h2
  exact ⟨g, c, u, rfl, k1, k2, k3, bl_call (bl_alloc _ (Below.refl _ _)) h3⟩
theorem feed_g2 (w : World) (o : Obj) : Calls Try.prog 15 #[.agg #[.string ⟨#[71, 1]⟩, .bool false], .slice (some ⟨w.heap.size + 1, 0, none⟩) 4 4] ((w.alloc o).alloc (.cells #[.int .u8 0, .int .u8 1, .int .u8 98, .int .u8 99] 5)) fun e w' =>
    ∃ g c u, e = .returned (.tuple #[.agg #[.string ⟨#[]⟩, .bool true], .slice (some ⟨g, 0, none⟩) 1 c, .int .i64 0]) ∧ w'.cell? ⟨g, 0, none⟩ = some u ∧ RN w' u [98] ∧ g < w'.heap.size ∧ Below (w.heap.size + 1) (w.alloc o) w' := by
  have h := feed_g (w.alloc o)
  rw [World.size_alloc] at h
  exact h
theorem need_g (w : World) : Calls Try.prog 17 #[.agg #[.string ⟨#[71, 1]⟩, .bool false]] w (Gives w (.tuple #[.int .i64 3, .int .i64 0])) := need_ok [71, 1] w good_g
theorem kc_at {w w' : World} {v : Value} {xs : List Nat} (h : RN w v xs) (hb : Below w.heap.size w w') : (convert 22 9 v).run Try.prog w' = .ok (.string (strB xs)) w' := conv_rn (h.later hb)
theorem kc_one {w w' : World} {v : Value} {xs : List Nat} {s : ByteArray} (h : RN w v xs) (hs : strB xs = s) (hb : Below w.heap.size w w') : (convert 22 9 v).run Try.prog w' = .ok (.string s) w' := by
  rw [← hs]; exact conv_rn (h.later hb)
theorem four_boxes {w1 w2 w3 w4 : World} {S T : Obj} (h2 : Below w1.heap.size w1 w2) (h3 : Below (w2.heap.size + 1) (w2.alloc S) w3) (h4 : Below (w3.alloc T).heap.size (w3.alloc T) w4) :
    Below w1.heap.size w1 w4 ∧ Below w2.heap.size w2 w4 ∧ Below w3.heap.size w3 w4 ∧ w4.heap[w2.heap.size]? = some S ∧ w4.heap[w3.heap.size]? = some T := by
  have b34 : Below w3.heap.size w3 w4 := bl_call (bl_alloc _ (Below.refl _ _)) h4
  have b24 : Below w2.heap.size w2 w3 := (bl_alloc S (Below.refl _ _)).trans (h3.mono (by omega))
  have h23 := b24.size
  have q3 : w3.heap[w2.heap.size]? = some S := (h3.block _ (by omega)).trans (World.alloc_heap_new w2 S)
  have q3l := (Array.getElem?_eq_some_iff.1 q3).1
  exact ⟨bl_call (bl_call h2 b24) b34, bl_call b24 b34, b34, (b34.block _ q3l).trans q3, (h4.block _ (by simp)).trans (World.alloc_heap_new w3 T)⟩
set_option maxRecDepth 100000 in
set_option maxHeartbeats 4000000 in
theorem shown_any (w : World) : Calls Try.prog 9 #[] w (Gives w (.bool true)) := by
  have kc := fun (w : World) (C : Array Value) (n c : Nat) => Lib.run_convert_bytes_const (P := Try.prog) w 22 5 C n c Try.underlying22 Try.underlying5
  go_enter Try.func9, Try.ntmps9
  go_wp2_with (first
    | (go_at_call 10; (with_reducible refine (frame_ab _).mono ?_); rintro e w1 ⟨v1, rfl, ho1, hb1⟩; obtain ⟨A1, c1, rfl⟩ := ho1.len; have HR1 := Lib.hid ho1; have HB1 := Lib.hid hb1; clear ho1 hb1)
    | (go_at_call 14; (with_reducible refine (split_a _).mono ?_); rintro e w2 ⟨g2, c2, u2, rfl, cu2, hu2, hg2, hb2⟩; have HC2 := Lib.hid cu2; have HU2 := Lib.hid hu2; have HB2 := Lib.hid hb2; clear hb2 cu2 hu2)
    | (go_at_call 15; (with_reducible refine (feed_g2 _ _).mono ?_); rintro e w3 ⟨g3, c3, u3, rfl, cu3, hu3, hg3, hb3⟩; have HC3 := Lib.hid cu3; have HU3 := Lib.hid hu3; have HB3 := Lib.hid hb3; clear hb3 cu3 hu3)
    | (go_at_call 17; (with_reducible refine (need_g _).mono ?_); rintro e w4 ⟨rfl, hb4⟩; obtain ⟨b14, b24, b34, sS, sT⟩ := four_boxes HB2.out HB3.out hb4; obtain ⟨s0, s1, _, _⟩ := cell_of2 sS; obtain ⟨t0, t1, _, _⟩ := cell_of2 sT; have kc1 : (convert 22 9 (.slice A1 6 c1)).run Try.prog w4 = .ok (.string ⟨#[71, 1, 0, 2, 97, 98]⟩) w4 := kc_one HR1.out str_ab b14; have hu2l := HU2.out.len; have hu3l := HU3.out.len; obtain ⟨A2, e2, rfl⟩ := hu2l; obtain ⟨A3, e3, rfl⟩ := hu3l; have d2 : w4.cell? ⟨g2, 0, none⟩ = some (.slice A2 1 e2) := (b24.cell (p := ⟨g2, 0, none⟩) hg2).trans HC2.out; have d3 : w4.cell? ⟨g3, 0, none⟩ = some (.slice A3 1 e3) := (b34.cell (p := ⟨g3, 0, none⟩) hg3).trans HC3.out; have kc2 : (convert 22 9 (.slice A2 1 e2)).run Try.prog w4 = .ok (.string ⟨#[97]⟩) w4 := kc_one HU2.out str_a b24; have kc3 : (convert 22 9 (.slice A3 1 e3)).run Try.prog w4 = .ok (.string ⟨#[98]⟩) w4 := kc_one HU3.out str_b b34; have ke1 := eql_st ⟨#[71, 1]⟩ ⟨#[71, 1]⟩ false false w4; have ke2 := eql_st ⟨#[]⟩ ⟨#[]⟩ true true w4; have HB4 := Lib.hid (bl_call (HB1.out) b14); clear hb4 b14 b24 b34 sS sT))
  go_ret
  exact ⟨rfl, HB4.out⟩
end Go.Proofs.Ytlmemkcfikdhgaa
