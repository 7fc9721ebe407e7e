/- What the rows' list of variables gives the walks. Arguments: slices of bytes, arrays of integers. Slices of slices of bytes. -/
import Derived.Test.YtaeicjgkoofmpaaDoorCards
import Derived.Test.YtaeicjgkoofmpaaDoorTie
import Derived.Test.YtaeicjgkoofmpaaDoorShaO
import Derived.WalkKit
import Derived.ProofKit
import Derived.OpenShut
import Derived.Deep.DeepHandedRow
import Derived.Deep.DeepWitnessRowRef
import Derived.Lib.LaidTab
import Derived.Stop.LaidErr
import Derived.Lay
import Derived.Carry
import Derived.ChangeMaps5
import Derived.ChangeSlices
import Derived.Deep.Slices
import Derived.Deep.Matrix
namespace Go.Proofs.YtaeicjgkoofmpaaDoor
open Go.ChangeShapes Go.WideShapes Go.ChangeAt Go.RowKit
set_option linter.unusedVariables false

theorem own : ownKnob Tryd.prog.godebug = none := by kernel_rfl
theorem gK : Tryd.prog.globalNamed "groundling/sha.constants" = some 0 := by kernel_rfl
theorem gKT : (Tryd.prog.globals[0]?).map (·.type) = some 68 := by kernel_rfl
theorem gH : Tryd.prog.globalNamed "groundling/sha.start" = some 1 := by kernel_rfl
theorem gHT : (Tryd.prog.globals[1]?).map (·.type) = some 70 := by kernel_rfl
theorem row_of_var {W : World} {nm : String} {g : Nat} {cs : Array Value} (hg : Tryd.prog.globalNamed nm = some g) (h : W.var? Tryd.prog nm = some cs) : ∃ t fr, W.heap[g]? = some (.cells cs t fr) := by
  unfold World.var? at h
  rw [hg] at h
  simp only [Option.bind_some] at h
  cases ho : W.heap[g]? with
  | none => rw [ho] at h; cases h
  | some o =>
    rw [ho] at h
    cases o with
    | cells c t fr => simp at h; subst h; exact ⟨t, fr, rfl⟩
    | _ => simp at h
set_option maxRecDepth 20000 in
theorem vk_of_laid {W : World} (h : laidMetH Tryd.prog [("groundling/sha.constants", Rows.laid_groundling_sha_constants), ("groundling/sha.start", Rows.laid_groundling_sha_start)] W) : VK W := by
  have h0 : laidMet Tryd.prog (("groundling/sha.constants", Rows.laid_groundling_sha_constants) :: [("groundling/sha.start", Rows.laid_groundling_sha_start)]) W := h
  have hk : Lib.TabIs Tryd.prog W "groundling/sha.constants" .u32 (kL.map fun (x : Nat) => (x : Int)) :=
    Lib.tabIs_of_head (rest := [("groundling/sha.start", Rows.laid_groundling_sha_start)]) gK gKT Tryd.underlying68 Tryd.underlying67 (by kernel_rfl) (by kernel_rfl) (show laidMet Tryd.prog (("groundling/sha.constants", Lib.tabData .u32 (kL.map fun (x : Nat) => (x : Int))) :: _) W from h0)
  have hh : Lib.TabIs Tryd.prog W "groundling/sha.start" .u32 (hL.map fun (x : Nat) => (x : Int)) :=
    Lib.tabIs_of_head (rest := []) gH gHT Tryd.underlying70 Tryd.underlying67 (by kernel_rfl) (by kernel_rfl) (show laidMet Tryd.prog (("groundling/sha.start", Lib.tabData .u32 (hL.map fun (x : Nat) => (x : Int))) :: []) W from h0.tail)
  obtain ⟨t, fr, h1⟩ := row_of_var gK hk
  obtain ⟨t2, fr2, h2⟩ := row_of_var gH hh
  exact ⟨⟨t, fr, h1⟩, t2, fr2, h2⟩

theorem i64_wf {n : Int} (h : (Lit.int .i64 n).wf = true) : -9223372036854775808 ≤ n ∧ n ≤ 9223372036854775807 := by
  simp only [Lit.wf, Bool.and_eq_true, decide_eq_true_eq] at h
  exact h
theorem laidOut : laidOutB Tryd.prog = true := by kernel_rfl
def goodT (P : Program) (t : TypeId) : Bool := P.readableRec t && decide (t < P.types.size)
theorem trodAll_below {P : Program} (hl : laidOutB P = true) {H : Type} {enc : TypeId × Value → H} {W W' : World} (hb : Below W.heap.size W W') : ∀ {ts : List TypeId} {vs : List Value} {ds : List (DataW H)} {ps : List MemPlace},
    ts.all (goodT P) = true → DataW.TrodAll enc P W 0 (fun _ => true) true ts vs ds ps → (∀ x ∈ ps, x.block < W.heap.size) →
    DataW.TrodAll enc P W' 0 (fun b => decide (b < W.heap.size)) true ts vs ds ps
  | [], _, _, _, _, h, _ => by obtain ⟨rfl, rfl, rfl⟩ := trodAll_nil h; exact trodAll_mk0
  | t :: ts, _, _, _, hg, h, hlt => by
    obtain ⟨v, vs, d, ds, p, q, rfl, rfl, rfl, h0, h1⟩ := trodAll_cons h
    rw [List.all_cons, Bool.and_eq_true] at hg
    obtain ⟨g1, g2⟩ := hg
    unfold goodT at g1
    rw [Bool.and_eq_true, decide_eq_true_eq] at g1
    exact trodAll_cons_mk (Below.trod hl g1.1 g1.2 h0 hb (fun x hx => hlt x (List.mem_append_left _ hx))) (trodAll_below hl hb g2 h1 (fun x hx => hlt x (List.mem_append_right _ hx)))

/-- A law's end: true, and every argument reads as it read. -/
theorem post_law {H : Type} {enc : TypeId × Value → H} {fn : Func} {s : ChangeSpec} {W W' : World} {args : Array Value} {ds gs : List (DataW H)} {before : List MemPlace}
    (hW : DataW.Whole enc Tryd.prog fn.params.toList s.vars false W args.toList ds gs before) (hg : fn.params.toList.all (goodT Tryd.prog) = true) (hrt : fn.resultTypes = #[4]) (hsv : s.vars = [])
    (hfn : s.fn H (ds ++ gs) = { results := [.lit (.bool true)], args := ds }) (hb : Below W.heap.size W W') :
    s.post enc Tryd.prog fn false true false false W args (.bool true) W' := by
  have hlt := hW.lt
  have hW' := hW
  obtain ⟨p, q, hA, hV, rfl, hfz, hnd⟩ := hW
  have hV' := hV
  rw [hsv] at hV'
  obtain ⟨rfl, rfl⟩ := trodVars_none hV'
  refine ⟨ds, [], p ++ [], [], p, [], hW', ?_, ?_, ?_, hb.frame _, fun h => by cases h⟩
  · rw [hrt, hfn]; exact trodAll_mk1 (shut_bool Tryd.underlying4 _)
  · rw [hfn]; exact trodAll_below laidOut hb hg hA (fun x hx => hlt x (List.mem_append_left _ hx))
  · rw [hsv, hfn]; rfl
end Go.Proofs.YtaeicjgkoofmpaaDoor
namespace Go.Proofs.YtaeicjgkoofmpaaDoor
open Go.ChangeShapes Go.WideShapes Go.ChangeAt Go.RowKit
set_option linter.unusedVariables false
set_option maxRecDepth 100000

theorem nat_of_ints {zs : List Int} {M : Nat} (h : ∀ x ∈ zs, 0 ≤ x ∧ x < (M : Int)) : ∃ xs : List Nat, zs = xs.map (fun (x : Nat) => (x : Int)) ∧ ∀ x ∈ xs, x < M := by
  refine ⟨zs.map Int.toNat, ?_, fun x hx => ?_⟩
  · rw [List.map_map]
    conv => lhs; rw [← List.map_id zs]
    exact List.map_congr_left fun x hx => by have := h x hx; simp; omega
  · obtain ⟨y, hy, rfl⟩ := List.mem_map.1 hx
    have := h y hy
    omega
theorem open_bytes {H : Type} {enc : TypeId × Value → H} {W : World} {base : Nat} {v : Value} {d : DataW H} {p : List MemPlace} (hval : Value.okWide Tryd.prog W .any base 27 v)
    (h : DataW.Trod enc Tryd.prog W 0 (fun _ => true) true 27 v d p) : ∃ xs, RN W v xs ∧ BB xs ∧ xs.length ≤ maxLen := by
  obtain ⟨a1, len, cap, rfl⟩ := okWide_slice Tryd.underlying27 hval
  obtain ⟨fuel, hf⟩ := h
  rcases open_ints Tryd.underlying27 Tryd.underlying5 (by kernel_rfl) hf with ⟨hcs, hx⟩ | ⟨a, len', cap', zs, hcs, _, hl, hm, hz, hx, hcell, hwz⟩
  · simp [Value.cells] at hcs
    obtain ⟨rfl, rfl, rfl⟩ := hcs
    exact ⟨[], RN.nil W, BB.nil, Nat.zero_le _⟩
  · simp [Value.cells] at hcs
    obtain ⟨rfl, rfl, rfl⟩ := hcs
    simp only [if_true] at hz
    obtain ⟨xs, rfl, hxs⟩ := nat_of_ints (M := 256) (fun x hx => by
      have := hwz x hx
      simp only [Lit.wf, Bool.and_eq_true, decide_eq_true_eq] at this
      have h1 : 0 ≤ x := this.1
      have h2 : x ≤ 255 := this.2
      exact ⟨h1, by omega⟩)
    rw [List.length_map] at hz hcell
    refine ⟨xs.take len, ?_, BB.take hxs len, by rw [List.length_take]; omega⟩
    have hlen : (xs.take len).length = len := by rw [List.length_take]; omega
    by_cases h0 : len = 0
    · subst h0
      exact .inl ⟨_, _, rfl, by simp, fun h => by cases h⟩
    · obtain ⟨ab, ao, spot⟩ := a
      have hc0 := hcell 0 (by omega)
      have hspot : spot = none := by simpa [Addr.add] using World.cell?_spot hc0
      subst hspot
      refine .inr ⟨ab, ao, cap, by rw [hlen], ?_, by omega, by omega, hm, fun i hi => ?_⟩
      · rw [Addr.add_mid] at hc0
        rcases Nat.lt_or_ge ab W.heap.size with hlt | hge
        · exact hlt
        · simp [World.cell?, Array.getElem?_eq_none hge] at hc0
      · rw [hlen] at hi
        have := hcell i (by omega)
        rw [Addr.add_mid] at this
        rw [this]
        simp [List.getD_eq_getElem?_getD, hi, List.getElem?_eq_getElem (show i < xs.length by omega)]
theorem okWide_row {P : Program} {w : World} {r : Reach} {base n : Nat} {t e : TypeId} {v : Value} (ht : P.underlying t = some (.array n e)) (h : Value.okWide P w r base t v) : ∃ cs, v = .agg cs ∧ cs.size = P.cellsOf t := by
  simp only [Value.okWide, ht] at h
  obtain ⟨cs, h1, h2, _⟩ := h
  exact ⟨cs, h1, h2⟩
theorem open_array {P : Program} {H : Type} {enc : TypeId × Value → H} {W : World} {base n M : Nat} {t e : TypeId} {k : IntKind} {v : Value} {d : DataW H} {p : List MemPlace} (ht : P.underlying t = some (.array n e)) (he : P.underlying e = some (.int k)) (hce : P.cellsOf e = 1) (hct : P.cellsOf t = n)
    (hM : ∀ z : Int, (Lit.int k z).wf = true → 0 ≤ z ∧ z < (M : Int)) (hval : Value.okWide P W .any base t v) (h : DataW.Trod enc P W 0 (fun _ => true) true t v d p) :
    ∃ xs : List Nat, v = .agg (xs.map fun (x : Nat) => Value.int k x).toArray ∧ xs.length = n ∧ ∀ x ∈ xs, x < M := by
  obtain ⟨cs, rfl, hsz⟩ := okWide_row ht hval
  obtain ⟨fuel, hf⟩ := h
  obtain ⟨xs, m, _, _, hl, hxl, hel⟩ := DataW.trod_array ht hf
  rw [hct] at hsz
  obtain ⟨l⟩ := cs
  have hls : l.length = n := by simpa using hsz
  have hcell : ∀ i (h : i < l.length), ∃ z : Nat, l[i] = .int k (z : Int) ∧ z < M := fun i h => by
    have h1 := hel i (by omega)
    rw [hce, Nat.mul_one] at h1
    have hd : (((Value.agg ⟨l⟩).cells.toList.drop i).take 1) = [l[i]] := by
      have e : (Value.agg ⟨l⟩).cells = ⟨l⟩ := rfl
      rw [e]
      show (l.drop i).take 1 = _
      rw [List.drop_eq_getElem_cons h, List.take_succ_cons, List.take_zero]
    rw [hd, List.getElem?_eq_getElem (show i < xs.length by omega)] at h1
    obtain ⟨z, hz, _, hw⟩ := DataW.trod_int he h1
    have hb := hM z hw
    refine ⟨z.toNat, ?_, by omega⟩
    simp only [List.cons.injEq, and_true] at hz
    rw [hz, Int.toNat_of_nonneg hb.1]
  have hall : ∀ (l : List Value), (∀ i (h : i < l.length), ∃ z : Nat, l[i] = .int k (z : Int) ∧ z < M) → ∃ xs : List Nat, l = xs.map (fun (x : Nat) => Value.int k x) ∧ ∀ x ∈ xs, x < M := fun l => by
    induction l with
    | nil => exact fun _ => ⟨[], rfl, fun x hx => by cases hx⟩
    | cons a l ih =>
      intro hc
      obtain ⟨z, hz, hzM⟩ := hc 0 (by simp)
      obtain ⟨ys, hy, hyM⟩ := ih (fun i h => by have := hc (i + 1) (by simpa using h); simpa using this)
      refine ⟨z :: ys, by rw [List.map_cons, ← hy]; simp at hz; rw [hz], fun x hx => ?_⟩
      rcases List.mem_cons.1 hx with rfl | hx
      · exact hzM
      · exact hyM x hx
  obtain ⟨ys, rfl, hM2⟩ := hall l hcell
  exact ⟨ys, rfl, by simpa using hls, hM2⟩
set_option maxRecDepth 20000 in
theorem wf_u32 (z : Int) (h : (Lit.int .u32 z).wf = true) : 0 ≤ z ∧ z < ((4294967296 : Nat) : Int) := by
  simp only [Lit.wf, Bool.and_eq_true, decide_eq_true_eq] at h
  have h1 : 0 ≤ z := h.1
  have h2 : z ≤ 4294967295 := h.2
  omega
theorem wf_u8 (z : Int) (h : (Lit.int .u8 z).wf = true) : 0 ≤ z ∧ z < ((256 : Nat) : Int) := by
  simp only [Lit.wf, Bool.and_eq_true, decide_eq_true_eq] at h
  have h1 : 0 ≤ z := h.1
  have h2 : z ≤ 255 := h.2
  omega
section
variable {H : Type} {enc : TypeId × Value → H} {W : World} {base : Nat} {v : Value} {d : DataW H} {p : List MemPlace}
theorem open_state (hval : Value.okWide Tryd.prog W .any base 70 v) (h : DataW.Trod enc Tryd.prog W 0 (fun _ => true) true 70 v d p) : ∃ xs : List Nat, v = .agg (uV xs) ∧ xs.length = 8 ∧ WW xs :=
  open_array Tryd.underlying70 Tryd.underlying67 (by kernel_rfl) (by kernel_rfl) wf_u32 hval h
theorem open_block (hval : Value.okWide Tryd.prog W .any base 43 v) (h : DataW.Trod enc Tryd.prog W 0 (fun _ => true) true 43 v d p) : ∃ xs : List Nat, v = .agg (yV xs) ∧ xs.length = 64 ∧ BB xs :=
  open_array Tryd.underlying43 Tryd.underlying5 (by kernel_rfl) (by kernel_rfl) wf_u8 hval h
theorem open_digest (hval : Value.okWide Tryd.prog W .any base 36 v) (h : DataW.Trod enc Tryd.prog W 0 (fun _ => true) true 36 v d p) : ∃ xs : List Nat, v = .agg (yV xs) ∧ xs.length = 32 ∧ BB xs :=
  open_array Tryd.underlying36 Tryd.underlying5 (by kernel_rfl) (by kernel_rfl) wf_u8 hval h
end
end Go.Proofs.YtaeicjgkoofmpaaDoor
namespace Go.Proofs.YtaeicjgkoofmpaaDoor
open Go.ChangeShapes Go.WideShapes Go.ChangeAt Go.RowKit
set_option linter.unusedVariables false
set_option maxRecDepth 100000

/-- The slice v holds slices that read as the bytes ps. -/
def PN (w : World) (v : Value) (ps : List (List Nat)) : Prop :=
  (∃ A c, v = .slice A 0 c ∧ ps = []) ∨
  ∃ g off c, v = .slice (some ⟨g, off, none⟩) ps.length c ∧ g < w.heap.size ∧ 0 < ps.length ∧ ps.length ≤ c ∧ c ≤ maxLen ∧ ∀ i, i < ps.length → ∃ u, w.cell? ⟨g, off + i, none⟩ = some u ∧ RN w u (ps.getD i []) ∧ BB (ps.getD i []) ∧ (ps.getD i []).length ≤ maxLen
theorem PN.len {W : World} {v : Value} {ps : List (List Nat)} (h : PN W v ps) : ∃ A c, v = .slice A ps.length c := by
  rcases h with ⟨A, c, rfl, rfl⟩ | ⟨g, off, c, rfl, _⟩
  · exact ⟨A, c, rfl⟩
  · exact ⟨_, _, rfl⟩
theorem bytes_of {zs : List Int} (h : ∀ n ∈ zs, (Lit.int .u8 n).wf = true) : ∃ xs : List Nat, zs = xs.map (fun (x : Nat) => (x : Int)) ∧ BB xs :=
  nat_of_ints (M := 256) (fun x hx => wf_u8 x (h x hx))
theorem rn_of {W : World} {A : Option Addr} {L C : Nat} {zs : List Int} (hl : L ≤ C) (hm : C ≤ maxLen) (hz : zs.length = C) (hw : ∀ n ∈ zs, (Lit.int .u8 n).wf = true) (hA : A = none → C = 0)
    (hc : ∀ a', A = some a' → ∀ c, c < C → W.cell? (a'.add c) = some (.int .u8 (zs.getD c 0))) : ∃ xs : List Nat, RN W (.slice A L C) xs ∧ BB xs ∧ xs.length = L := by
  obtain ⟨xs, rfl, hb⟩ := bytes_of hw
  rw [List.length_map] at hz
  have hlen : (xs.take L).length = L := by rw [List.length_take]; omega
  refine ⟨xs.take L, ?_, hb.take L, hlen⟩
  by_cases h0 : L = 0
  · subst h0
    exact .inl ⟨_, _, rfl, by simp, hA⟩
  · cases A with
    | none => have := hA rfl; omega
    | some a =>
      obtain ⟨ab, ao, spot⟩ := a
      have hc0 := hc _ rfl 0 (by omega)
      have hspot : spot = none := by simpa [Addr.add] using World.cell?_spot hc0
      subst hspot
      refine .inr ⟨ab, ao, C, by rw [hlen], ?_, by omega, by omega, hm, fun i hi => ?_⟩
      · rw [Addr.add_mid] at hc0
        rcases Nat.lt_or_ge ab W.heap.size with hlt | hge
        · exact hlt
        · simp [World.cell?, Array.getElem?_eq_none hge] at hc0
      · rw [hlen] at hi
        have := hc _ rfl i (by omega)
        rw [Addr.add_mid] at this
        rw [this]
        simp [List.getD_eq_getElem?_getD, hi, List.getElem?_eq_getElem (show i < xs.length by omega)]
theorem choose_list {α : Type} {P : Nat → α → Prop} (z : α) : ∀ n, (∀ i, i < n → ∃ x, P i x) → ∃ l : List α, l.length = n ∧ ∀ i, i < n → P i (l.getD i z)
  | 0, _ => ⟨[], rfl, fun i h => by omega⟩
  | n + 1, h => by
    obtain ⟨l, hl, hp⟩ := choose_list z n (fun i hi => h i (by omega))
    obtain ⟨x, hx⟩ := h n (by omega)
    refine ⟨l ++ [x], by simp [hl], fun i hi => ?_⟩
    by_cases he : i = n
    · subst he
      rw [List.getD_eq_getElem?_getD, List.getElem?_append_right (by omega), hl, Nat.sub_self]
      exact hx
    · rw [List.getD_eq_getElem?_getD, List.getElem?_append_left (by omega), ← List.getD_eq_getElem?_getD]
      exact hp i (by omega)
theorem open_parts {H : Type} {enc : TypeId × Value → H} {W : World} {base : Nat} {v : Value} {d : DataW H} {p : List MemPlace} (hval : Value.okWide Tryd.prog W .any base 56 v)
    (h : DataW.Trod enc Tryd.prog W 0 (fun _ => true) true 56 v d p) : ∃ ps, PN W v ps := by
  obtain ⟨a1, len, cap, rfl⟩ := okWide_slice Tryd.underlying56 hval
  obtain ⟨fuel, hf⟩ := h
  rcases Go.Deep.open_int_rows Tryd.underlying56 Tryd.underlying27 Tryd.underlying5 (by kernel_rfl) (by kernel_rfl) hf with ⟨hcs, hx⟩ | ⟨a, len', cap', A, L, C, Z, hcs, _, hl, hm, hx, hel⟩
  · simp [Value.cells] at hcs
    obtain ⟨rfl, rfl, rfl⟩ := hcs
    exact ⟨[], .inl ⟨_, _, rfl, rfl⟩⟩
  · simp [Value.cells] at hcs
    obtain ⟨rfl, rfl, rfl⟩ := hcs
    by_cases h0 : len = 0
    · subst h0
      exact ⟨[], .inl ⟨_, _, rfl, rfl⟩⟩
    obtain ⟨ab, ao, spot⟩ := a
    have hc0 := (hel 0 (by omega)).1
    have hspot : spot = none := by simpa [Addr.add] using World.cell?_spot hc0
    subst hspot
    obtain ⟨ps, hpl, hps⟩ := choose_list (P := fun i (xs : List Nat) => ∃ u, W.cell? ⟨ab, ao + i, none⟩ = some u ∧ RN W u xs ∧ BB xs ∧ xs.length ≤ maxLen) [] len (fun i hi => by
      obtain ⟨h1, h2, h3, h4, h5, h6, h7⟩ := hel i (by omega)
      obtain ⟨xs, hr, hb, hxl⟩ := rn_of h2 h3 h4 h5 h6 (fun a' ha c hc => (h7 a' ha).2 c hc)
      rw [Addr.add_mid] at h1
      exact ⟨xs, _, h1, hr, hb, by omega⟩)
    refine ⟨ps, .inr ⟨ab, ao, cap, by rw [hpl], ?_, by omega, by omega, hm, fun i hi => hps i (by omega)⟩⟩
    rw [Addr.add_mid] at hc0
    exact World.block_lt_of_cell? W _ hc0
end Go.Proofs.YtaeicjgkoofmpaaDoor
