/- A map from handles to places, in memory. -/
import Derived.Test.YtcppgefnocjdiaaHeapsA
import Derived.WideKeyElems3
import Derived.WideKeyEntry
import Derived.MapKept
import Derived.MapFrom
namespace Go.Proofs.Ytcppgefnocjdiaa
open Go.RowKit Go.Lib Go.MapKept
set_option linter.unusedVariables false

def upd (f : Int → Option Int) (h : Int) (o : Option Int) : Int → Option Int := fun k => if k = h then o else f k
theorem upd_same (f : Int → Option Int) (h : Int) (o : Option Int) : upd f h o h = o := by simp [upd]
theorem upd_other (f : Int → Option Int) {h k : Int} (o : Option Int) (e : k ≠ h) : upd f h o k = f k := by simp [upd, e]
/-- Entries that say what f says. -/
structure MK (es : Array MapEntry) (clock : Nat) (f : Int → Option Int) : Prop where
  st : Stamped es clock
  ks : ∀ x ∈ es.toList, ∃ h p, x.key = .int .i64 h ∧ x.val = .int .i64 p ∧ f h = some p
  fs : ∀ h p, f h = some p → ∃ x ∈ es.toList, x.key = .int .i64 h
theorem MK.isKey {es : Array MapEntry} {clock : Nat} {f : Int → Option Int} (m : MK es clock f) : ∀ x ∈ es.toList, IsKey (.int .i64) x.key := fun x hx => by
  obtain ⟨h, p, e, _⟩ := m.ks x hx
  rw [e]; rfl
theorem MK.empty (clock : Nat) : MK #[] clock (fun _ => none) := ⟨stamped_empty _, by simp, by simp⟩
theorem MK.find {es : Array MapEntry} {clock : Nat} {f : Int → Option Int} (m : MK es clock f) (h : Int) :
    (Instr.findNow (.int .i64) (.int .i64 h) es.toList 0 = some none ∧ f h = none ∧ ∀ x ∈ es.toList, x.key ≠ .int .i64 h) ∨
    ∃ j p e, Instr.findNow (.int .i64) (.int .i64 h) es.toList 0 = some (some (j, .int .i64 p)) ∧ es[j]? = some e ∧ e.key = .int .i64 h ∧ e.val = .int .i64 p ∧ f h = some p := by
  rcases findNow_spec (d := .int .i64) (k := .int .i64 h) rfl es.toList 0 m.isKey with ⟨h1, h2⟩ | ⟨j, e, h1, h2, h3⟩
  · refine .inl ⟨h1, ?_, h2⟩
    cases hf : f h with
    | none => rfl
    | some p =>
      obtain ⟨x, hx, e⟩ := m.fs h p hf
      exact absurd e (h2 x hx)
  · have hj : es[j]? = some e := by simpa using h2
    obtain ⟨h', p, k1, k2, k3⟩ := m.ks e (List.mem_of_getElem? h2)
    rw [h3] at k1
    injection k1 with _ k1
    subst k1
    exact .inr ⟨j, p, e, by rw [h1, k2, Nat.zero_add], hj, h3, k2, k3⟩
theorem MK.push {es : Array MapEntry} {clock : Nat} {f : Int → Option Int} (m : MK es clock f) {h p : Int} (hn : ∀ x ∈ es.toList, x.key ≠ .int .i64 h) : MK (es.push ⟨.int .i64 h, .int .i64 p, clock⟩) (clock + 1) (upd f h (some p)) := by
  refine ⟨stamped_push m.st hn, fun x hx => ?_, fun k q hk => ?_⟩
  · simp only [Array.toList_push, List.mem_append, List.mem_singleton] at hx
    rcases hx with hx | rfl
    · obtain ⟨h', p', k1, k2, k3⟩ := m.ks x hx
      refine ⟨h', p', k1, k2, ?_⟩
      rw [upd_other _ _ (fun e => hn x hx (by rw [k1, e]))]; exact k3
    · exact ⟨h, p, rfl, rfl, upd_same _ _ _⟩
  · by_cases e : k = h
    · exact ⟨⟨.int .i64 h, .int .i64 p, clock⟩, by simp, by rw [e]⟩
    · rw [upd_other _ _ e] at hk
      obtain ⟨x, hx, e'⟩ := m.fs k q hk
      exact ⟨x, by simp [hx], e'⟩
theorem MK.modify {es : Array MapEntry} {clock : Nat} {f : Int → Option Int} (m : MK es clock f) {h p : Int} {j : Nat} {e : MapEntry} (hj : es[j]? = some e) (he : e.key = .int .i64 h) : MK (es.modify j fun e' => { e' with val := .int .i64 p }) clock (upd f h (some p)) := by
  have hkeys : ∀ x ∈ es.toList, x.key = .int .i64 h → x = e := fun x hx hk => by
    obtain ⟨i, hi⟩ := List.mem_iff_getElem?.1 hx
    have h3 := m.st.2.2
    have a1 : (es.toList.map (·.key))[i]? = some (.int .i64 h) := by rw [List.getElem?_map, hi]; simp [hk]
    have a2 : (es.toList.map (·.key))[j]? = some (.int .i64 h) := by rw [List.getElem?_map]; simp [hj, he]
    have : i = j := ((List.getElem?_inj (List.getElem?_eq_some_iff.1 a1).1 h3).1 (a1.trans a2.symm))
    subst this
    have : es.toList[i]? = some e := by simpa using hj
    rw [hi] at this
    exact Option.some.inj this
  refine ⟨stamped_modify m.st _ _ (fun _ _ => rfl) (fun _ _ _ => rfl), fun x hx => ?_, fun k q hk => ?_⟩
  · rw [Array.mem_toList_iff, Array.mem_iff_getElem?] at hx
    obtain ⟨i, hx⟩ := hx
    rw [Array.getElem?_modify] at hx
    split at hx
    · rename_i e1
      subst e1
      rw [hj] at hx
      simp at hx
      subst hx
      exact ⟨h, p, he, rfl, upd_same _ _ _⟩
    · rename_i e1
      have hxm : x ∈ es.toList := by rw [Array.mem_toList_iff, Array.mem_iff_getElem?]; exact ⟨i, hx⟩
      obtain ⟨h', p', k1, k2, k3⟩ := m.ks x hxm
      refine ⟨h', p', k1, k2, ?_⟩
      rw [upd_other]
      · exact k3
      · intro e2
        subst e2
        have hxe := hkeys x hxm k1
        subst hxe
        have h2 := m.st.2.2
        have a1 : (es.toList.map (·.key))[i]? = some (.int .i64 h') := by rw [List.getElem?_map]; simp [hx, k1]
        have a2 : (es.toList.map (·.key))[j]? = some (.int .i64 h') := by rw [List.getElem?_map]; simp [hj, he]
        exact e1 ((List.getElem?_inj (List.getElem?_eq_some_iff.1 a1).1 h2).1 (a1.trans a2.symm)).symm
  · have hmk : ∀ (k : Int) (x : MapEntry), x ∈ es.toList → x.key = .int .i64 k → ∃ y ∈ (es.modify j fun e' => { e' with val := .int .i64 p }).toList, y.key = .int .i64 k := fun k x hx hxk => by
      obtain ⟨i, hi⟩ := List.mem_iff_getElem?.1 hx
      have hi' : es[i]? = some x := by simpa using hi
      by_cases e1 : j = i
      · exact ⟨{ x with val := .int .i64 p }, by rw [Array.mem_toList_iff, Array.mem_iff_getElem?]; exact ⟨i, by rw [Array.getElem?_modify]; simp [e1, hi']⟩, hxk⟩
      · exact ⟨x, by rw [Array.mem_toList_iff, Array.mem_iff_getElem?]; exact ⟨i, by rw [Array.getElem?_modify]; simp [e1, hi']⟩, hxk⟩
    by_cases e1 : k = h
    · subst e1
      exact hmk k e (List.mem_of_getElem? (by simpa using hj)) he
    · rw [upd_other _ _ e1] at hk
      obtain ⟨x, hx, e'⟩ := m.fs k q hk
      exact hmk k x hx e'
theorem MK.erase {es : Array MapEntry} {clock : Nat} {f : Int → Option Int} (m : MK es clock f) {h : Int} {j : Nat} {e : MapEntry} (hj : es[j]? = some e) (he : e.key = .int .i64 h) : MK (es.eraseIdxIfInBounds j) clock (upd f h none) := by
  have hlt : j < es.size := (Array.getElem?_eq_some_iff.1 hj).1
  have hl : (es.eraseIdxIfInBounds j).toList = es.toList.eraseIdx j := by
    unfold Array.eraseIdxIfInBounds
    rw [dif_pos hlt, Array.toList_eraseIdx]
  have hp := cut_perm (l := es.toList) (k := j) (x := e) (by simpa using hj)
  have hn := (hp.map (·.key)).nodup_iff.1 m.st.2.2
  rw [List.map_cons, List.nodup_cons] at hn
  refine ⟨stamped_erase m.st _, fun x hx => ?_, fun k q hk => ?_⟩
  · rw [hl] at hx
    obtain ⟨h', p', k1, k2, k3⟩ := m.ks x (hp.mem_iff.2 (by simp [hx]))
    refine ⟨h', p', k1, k2, ?_⟩
    rw [upd_other _ _ (fun e1 => hn.1 (by rw [he, ← e1, ← k1]; exact List.mem_map.2 ⟨x, hx, rfl⟩))]; exact k3
  · by_cases e1 : k = h
    · subst e1; rw [upd_same] at hk; cases hk
    · rw [upd_other _ _ e1] at hk
      obtain ⟨x, hx, e'⟩ := m.fs k q hk
      refine ⟨x, ?_, e'⟩
      rw [hl]
      rcases List.mem_cons.1 (hp.mem_iff.1 hx) with e2 | h2
      · subst e2; rw [e'] at he; injection he with _ he; exact absurd he e1
      · exact h2

/-- A block that is a map which says what f says. -/
def PM (W : World) (mb : Nat) (f : Int → Option Int) : Prop := ∃ es clock, W.heap[mb]? = some (.map es clock) ∧ MK es clock f
theorem PM.lt {W : World} {mb : Nat} {f : Int → Option Int} (h : PM W mb f) : mb < W.heap.size := by
  obtain ⟨es, clock, hb, _⟩ := h
  exact (Array.getElem?_eq_some_iff.1 hb).1
theorem PM.same {W W' : World} {mb : Nat} {f : Int → Option Int} (h : PM W mb f) (e : W'.heap[mb]? = W.heap[mb]?) : PM W' mb f := by
  obtain ⟨es, clock, hb, m⟩ := h
  exact ⟨es, clock, e.trans hb, m⟩
/-- A world in which one map is another. -/
theorem map_set {W : World} {mb : Nat} {es es' : Array MapEntry} {clock clock' : Nat} {f : Int → Option Int} (hb : W.heap[mb]? = some (.map es clock)) (m : MK es' clock' f) :
    PM { W with heap := W.heap.setIfInBounds mb (.map es' clock') } mb f ∧ W.grownBy { W with heap := W.heap.setIfInBounds mb (.map es' clock') } (some mb) :=
  ⟨⟨es', clock', (heap_set hb).1, m⟩, ⟨rfl, rfl, rfl, by simp, fun k hk hne => (heap_set hb).2 k (fun e => hne (by rw [e]))⟩⟩
abbrev tM : TypeId := 43
abbrev tK : TypeId := 2
theorem hmM : Try.prog.underlying tM = some (.map tK 3) := Try.underlying43
theorem hdK : Try.prog.underlying tK = some (.int .i64) := Try.underlying2
theorem PM.look {W : World} {mb : Nat} {f : Int → Option Int} (m : PM W mb f) (h : Int) : (Instr.lookup tM (.map (some mb)) (.int .i64 h) true).run Try.prog W = .ok (.tuple #[.int .i64 ((f h).getD 0), .bool (f h).isSome]) W := by
  obtain ⟨es, clock, hb, m⟩ := m
  rcases m.find h with ⟨h1, h2, _⟩ | ⟨j, p, e, h1, _, _, _, h2⟩
  · simp [Instr.lookup, run_underlying hmM, MapKept.run_getObj_map hb, run_checkKey (k := .int .i64 h) hdK rfl, run_findKey hdK h1, Result.andThen, h2, Try.zeroValue3]
  · simp [Instr.lookup, run_underlying hmM, MapKept.run_getObj_map hb, run_checkKey (k := .int .i64 h) hdK rfl, run_findKey hdK h1, Result.andThen, h2]
theorem PM.store {W : World} {mb : Nat} {f : Int → Option Int} (m : PM W mb f) (h p : Int) : ∃ W', (Instr.mapUpdate tM (.map (some mb)) (.int .i64 h) (.int .i64 p)).run Try.prog W = .ok () W' ∧ PM W' mb (upd f h (some p)) ∧ W.grownBy W' (some mb) := by
  obtain ⟨es, clock, hb, m⟩ := m
  rcases m.find h with ⟨h1, _, h2⟩ | ⟨j, q, e, h1, h2, h3, _, _⟩
  · exact ⟨_, by simp [Instr.mapUpdate, run_underlying hmM, MapKept.run_getObj_map hb, run_checkKey (k := .int .i64 h) hdK rfl, run_findKey hdK h1, MapKept.run_setObj_map _ hb, Result.andThen] <;> rfl, map_set hb (m.push h2)⟩
  · have hmod : es.modify j (fun e' => { e' with key := .int .i64 h, val := .int .i64 p }) = es.modify j (fun e' => { e' with val := .int .i64 p }) := by
      apply Array.ext_getElem?
      intro i
      rw [Array.getElem?_modify, Array.getElem?_modify]
      split
      · rename_i e1; subst e1; rw [h2]; simp [h3]
      · rfl
    exact ⟨_, by simp [Instr.mapUpdate, run_underlying hmM, MapKept.run_getObj_map hb, run_checkKey (k := .int .i64 h) hdK rfl, run_findKey hdK h1, h2, h3, run_keyThatStays (k := .int .i64 h) (d := .int .i64) rfl, MapKept.run_setObj_map _ hb, Result.andThen, hmod] <;> rfl, map_set hb (m.modify h2 h3)⟩
theorem PM.drop {W : World} {mb : Nat} {f : Int → Option Int} (m : PM W mb f) (h : Int) (ty : TypeId) : ∃ W', (Builtin.delete_ #[tM, tK] ty #[.map (some mb), .int .i64 h]).run Try.prog W = .ok (.tuple #[]) W' ∧ PM W' mb (upd f h none) ∧ W.grownBy W' (some mb) := by
  obtain ⟨es, clock, hb, m⟩ := m
  rcases m.find h with ⟨h1, h2, _⟩ | ⟨j, q, e, h1, h2, h3, _, _⟩
  · have hu : upd f h none = f := by
      funext k
      by_cases e : k = h
      · subst e; rw [upd_same, h2]
      · rw [upd_other _ _ e]
    exact ⟨_, by simp [Builtin.delete_, run_underlying hmM, MapKept.run_getObj_map hb, run_checkKey (k := .int .i64 h) hdK rfl, run_findKey hdK h1, MapKept.run_setObj_map _ hb, Result.andThen] <;> rfl, map_set hb (by rw [hu]; exact m)⟩
  · exact ⟨_, by simp [Builtin.delete_, run_underlying hmM, MapKept.run_getObj_map hb, run_checkKey (k := .int .i64 h) hdK rfl, run_findKey hdK h1, MapKept.run_setObj_map _ hb, Result.andThen] <;> rfl, map_set hb (m.erase h2 h3)⟩
end Go.Proofs.Ytcppgefnocjdiaa
