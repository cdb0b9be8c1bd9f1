/- Part 33 of 51: the texts Ne, Nf, one behind the other. -/
import Derived.Test.YteaokkaidcbdlaaGreatDoorQ32
import Derived.Tactics
import Derived.Tactics2
import Derived.WalkKit
import Derived.LoopTactic
import Derived.Outline
import Derived.Lib.Hide
import Derived.Handy
import Derived.KernelRfl
import Derived.Deep.LoopGhost
import Derived.CallsIn
import Derived.Deep.QuietTactic
import Derived.BigQuiet
import Derived.Deep.Draws
import Derived.WalkSpells
import Derived.Lib.Walk
import Derived.Lib.Strings
import Derived.Maps.OwnOps
import Derived.Maps.OwnSet
import Derived.Deep.RegionWith
import Derived.StillTailTactics
import Derived.WalkMore
import Derived.RangeFuncNested
import Derived.RangeFuncBound
import Derived.RangeFuncCalls
import Derived.RangeFuncLeaves
import Derived.RangeFuncBox
import Derived.Shelf.Abstract
import Derived.OwnWalkIn
import Derived.TacticsInMore
import Derived.LoopNIn
import Derived.LoopIn
import Derived.RecoverIn
import Derived.Maps.AppendAt
import Derived.RegionTactic
import Derived.ChangeAlike
import Derived.OwnWalk
import Derived.Deep.AppendLies
import Derived.Deep.DeepCutAuto
import Derived.Deep.RegionLaw
import Derived.Deep.RegionHeld3
import Derived.Laws.EntriesVeiled
/- renumbered (77): the places that are changed -/
namespace Go.Proofs.YteaokkaidcbdlaaGreatDoor
open Go Go.RowKit Go.Shelf
/-! ### renumbered (77): the places that are changed, and what they leave -/
def sigOf (x : MV) : SigD := match x.2.1 with | .slice o n c => ⟨o, n, c, x.1.result⟩ | _ => ⟨none, 0, 0, x.1.result⟩
section
variable {W wr : World} {t : TyD} {fv vo : Value} {N cp cm : Nat} {op om : Option Addr} {X : List MV}
/-- All places of the copy. -/
def allL (W : World) (t : TyD) (op om : Option Addr) (X : List MV) : List Addr := placesL (supB t.kind) W.heap.size 0 op t.parts.length om (X.map sigOf)
theorem RN.sig (h : RN W wr t fv N (.slice op t.parts.length cp) (.slice om t.meths.length cm) vo X t.meths.length) {i : Nat} (hi : i < X.length) :
    ∃ o c, X[i].2.1 = .slice o X[i].1.args.length c ∧ sigOf X[i] = ⟨o, X[i].1.args.length, c, X[i].1.result⟩ ∧ (0 < X[i].1.args.length → ∃ ab, o = some ⟨ab, 0, none⟩ ∧ N ≤ ab ∧ ∃ cs, wr.heap[ab]? = some (.cells cs 3 (0, 0))) := by
  have hXl : X.length = t.meths.length := by rw [← h.xm]; simp
  obtain ⟨r1, _⟩ := h.own i hi (by omega)
  obtain ⟨o, c, e⟩ := row_form r1
  refine ⟨o, c, e, by unfold sigOf; rw [e], fun h0 => ?_⟩
  rw [e] at r1
  obtain ⟨g, rfl⟩ := row_some r1 h0
  obtain ⟨h2, cs, h3⟩ := row_block r1
  exact ⟨g, rfl, h2, cs, h3⟩
theorem RN.tag (h : RN W wr t fv N (.slice op t.parts.length cp) (.slice om t.meths.length cm) vo X t.meths.length) {a : Addr} (ha : a ∈ allL W t op om X) :
    W.heap.size ≤ a.block ∧ ∃ cs ty, wr.heap[a.block]? = some (.cells cs ty (0, 0)) ∧ a.spot = none ∧ ((ty = 62 ∧ a.off = 6 ∧ supB t.kind = true) ∨ (ty = 93 ∧ a.off % 2 = 1) ∨ ty = 3 ∨ (ty = 74 ∧ ∃ i, ∃ hi : i < X.length, a.off = i * 5 + 2 ∧ X[i].1.result ≠ -1)) := by
  have hXl : X.length = t.meths.length := by rw [← h.xm]; simp
  have hN := h.hN
  unfold allL placesL at ha
  rw [List.mem_append, List.mem_append] at ha
  rcases ha with ha | ha | ha
  · unfold superAts at ha
    split at ha
    · rename_i hs
      simp at ha; subst ha
      exact ⟨Nat.le_refl _, _, 62, h.b, rfl, .inl ⟨rfl, rfl, hs⟩⟩
    · simp at ha
  · by_cases h0 : 0 < t.parts.length
    · obtain ⟨g, rfl⟩ := row_some h.rp h0
      obtain ⟨h2, cs, h3⟩ := row_block h.rp
      obtain ⟨i, hi, rfl⟩ := mem_partAts.1 ha
      exact ⟨by show W.heap.size ≤ g; omega, cs, 93, h3, rfl, .inr (.inl ⟨rfl, by show (0 + i * 2 + 1) % 2 = 1; omega⟩)⟩
    · rw [show t.parts.length = 0 by omega, partAts_zero] at ha; simp at ha
  · by_cases h0 : 0 < t.meths.length
    · obtain ⟨mb, rfl⟩ := row_some h.rm h0
      obtain ⟨h2, cs, h3⟩ := row_block h.rm
      obtain ⟨i, hi, _, hr⟩ := mem_methAts (fun s hs h0 => by
        obtain ⟨j, hj, rfl⟩ := List.mem_iff_getElem.1 hs
        obtain ⟨o, c, _, e2, e3⟩ := h.sig (i := j) (by simpa using hj)
        rw [List.getElem_map, e2] at h0 ⊢
        obtain ⟨ab, e4, _⟩ := e3 h0
        exact ⟨ab, 0, e4⟩) _ (Nat.le_refl _) ha
      have hi' : i < X.length := by simpa using hi
      obtain ⟨o, c, _, e2, e3⟩ := h.sig hi'
      rw [List.getElem_map, e2] at hr
      rcases hr with ⟨ab, aoff, j, e1, hj, rfl⟩ | ⟨hr, rfl⟩
      · obtain ⟨ab', e4, h5, cs', h6⟩ := e3 (by show 0 < X[i].1.args.length; exact Nat.lt_of_le_of_lt (Nat.zero_le _) hj)
        simp only at e1
        rw [e4] at e1; cases e1
        exact ⟨by show W.heap.size ≤ ab; omega, cs', 3, h6, rfl, .inr (.inr (.inl rfl))⟩
      · exact ⟨by show W.heap.size ≤ mb; omega, cs, 74, h3, rfl, .inr (.inr (.inr ⟨rfl, i, hi', by show 0 + i * 5 + 1 + 1 = i * 5 + 2; omega, hr⟩))⟩
    · have : X = [] := List.eq_nil_of_length_eq_zero (by omega)
      subst this
      simp [methAts] at ha
theorem RN.nodup (h : RN W wr t fv N (.slice op t.parts.length cp) (.slice om t.meths.length cm) vo X t.meths.length) : (allL W t op om X).Nodup := by
  have hXl : X.length = t.meths.length := by rw [← h.xm]; simp
  have hN := h.hN
  have hparts : ∀ a ∈ partAts op t.parts.length, ∃ cs, wr.heap[a.block]? = some (.cells cs 93 (0, 0)) := by
    intro a ha
    by_cases h0 : 0 < t.parts.length
    · obtain ⟨g, rfl⟩ := row_some h.rp h0
      obtain ⟨h2, cs, h3⟩ := row_block h.rp
      obtain ⟨i, hi, rfl⟩ := mem_partAts.1 ha
      exact ⟨cs, h3⟩
    · rw [show t.parts.length = 0 by omega, partAts_zero] at ha; simp at ha
  have hmeths : ∀ a ∈ methAts om (X.map sigOf) (X.map sigOf).length, ∃ cs ty, wr.heap[a.block]? = some (.cells cs ty (0, 0)) ∧ (ty = 3 ∨ ty = 74) := by
    intro a ha
    by_cases h0 : 0 < t.meths.length
    · obtain ⟨mb, rfl⟩ := row_some h.rm h0
      obtain ⟨h2, cs, h3⟩ := row_block h.rm
      obtain ⟨i, hi, _, hr⟩ := mem_methAts (fun s hs h0 => by
        obtain ⟨j, hj, rfl⟩ := List.mem_iff_getElem.1 hs
        obtain ⟨o, c, _, e2, e3⟩ := h.sig (i := j) (by simpa using hj)
        rw [List.getElem_map, e2] at h0 ⊢
        obtain ⟨ab, e4, _⟩ := e3 h0
        exact ⟨ab, 0, e4⟩) _ (Nat.le_refl _) ha
      have hi' : i < X.length := by simpa using hi
      obtain ⟨o, c, _, e2, e3⟩ := h.sig hi'
      rw [List.getElem_map, e2] at hr
      rcases hr with ⟨ab, aoff, j, e1, hj, rfl⟩ | ⟨hr, rfl⟩
      · obtain ⟨ab', e4, h5, cs', h6⟩ := e3 (by show 0 < X[i].1.args.length; exact Nat.lt_of_le_of_lt (Nat.zero_le _) hj)
        simp only at e1
        rw [e4] at e1; cases e1
        exact ⟨cs', 3, h6, .inl rfl⟩
      · exact ⟨cs, 74, h3, .inr rfl⟩
    · have : X = [] := List.eq_nil_of_length_eq_zero (by omega)
      subst this
      simp [methAts] at ha
  unfold allL placesL
  rw [List.nodup_append, List.nodup_append]
  refine ⟨by unfold superAts; split <;> simp, ⟨?_, ?_, ?_⟩, ?_⟩
  · by_cases h0 : 0 < t.parts.length
    · obtain ⟨g, rfl⟩ := row_some h.rp h0
      exact partAts_nodup
    · rw [show t.parts.length = 0 by omega, partAts_zero]; simp
  · by_cases h0 : 0 < t.meths.length
    · obtain ⟨mb, rfl⟩ := row_some h.rm h0
      obtain ⟨h2, cs, h3⟩ := row_block h.rm
      refine methAts_nodup (fun s hs h0 => ?_) (fun i j hi hj hij ab aoff ab' aoff' hp1 hp2 e1 e2 => ?_) _ (Nat.le_refl _)
      · obtain ⟨j, hj, rfl⟩ := List.mem_iff_getElem.1 hs
        obtain ⟨o, c, _, e2, e3⟩ := h.sig (i := j) (by simpa using hj)
        rw [List.getElem_map, e2] at h0 ⊢
        obtain ⟨ab, e4, _, cs', h6⟩ := e3 h0
        refine ⟨ab, 0, e4, ?_⟩
        rintro rfl
        rw [h3] at h6; cases h6
      · have hi' : i < X.length := by simpa using hi
        have hj' : j < X.length := by simpa using hj
        obtain ⟨o, c, a1, a2, _⟩ := h.sig hi'
        obtain ⟨o', c', b1, b2, _⟩ := h.sig hj'
        rw [List.getElem_map, a2] at e1
        rw [List.getElem_map, b2] at e2
        simp only at e1 e2
        subst e1 e2
        rintro rfl
        exact h.dis i j hj' hij (by omega) ab (by rw [a1]; rfl) (by rw [b1]; rfl)
    · have : X = [] := List.eq_nil_of_length_eq_zero (by omega)
      subst this
      simp [methAts]
  · intro a ha b hb e
    subst e
    obtain ⟨cs, h1⟩ := hparts a ha
    obtain ⟨cs', ty, h2, h3⟩ := hmeths a hb
    rw [h1] at h2; cases h2
    rcases h3 with h3 | h3 <;> cases h3
  · intro a ha b hb e
    subst e
    unfold superAts at ha
    split at ha
    · simp at ha; subst ha
      have hbt : wr.heap[W.heap.size]? = some (.cells _ 62 (0, 0)) := h.b
      rw [List.mem_append] at hb
      rcases hb with hb | hb
      · obtain ⟨cs, h1⟩ := hparts _ hb
        rw [hbt] at h1; cases h1
      · obtain ⟨cs', ty, h2, h3⟩ := hmeths _ hb
        rw [hbt] at h2; cases h2
        rcases h3 with h3 | h3 <;> cases h3
    · simp at ha
end
end Go.Proofs.YteaokkaidcbdlaaGreatDoor
/- renumbered (77): the copy, behind the changes -/
namespace Go.Proofs.YteaokkaidcbdlaaGreatDoor
open Go Go.RowKit Go.Shelf
section
variable {W wr : World} {t : TyD} {fv vo : Value} {N cp cm : Nat} {op om : Option Addr} {X : List MV}
/-- Cells that are no places. -/
theorem RN.out (h : RN W wr t fv N (.slice op t.parts.length cp) (.slice om t.meths.length cm) vo X t.meths.length) {b k : Nat} {cs : Array Value} {ty : TypeId} (hb : wr.heap[b]? = some (.cells cs ty (0, 0)))
    (h1 : ty = 62 → k = 6 → supB t.kind = false) (h2 : ty = 93 → k % 2 = 0) (h3 : ty ≠ 3) (h4 : ty = 74 → ∀ i (hi : i < X.length), k = i * 5 + 2 → X[i].1.result = -1) : (⟨b, k, none⟩ : Addr) ∉ allL W t op om X := by
  intro ha
  obtain ⟨_, cs', ty', e1, _, e2⟩ := h.tag ha
  simp only at e1 e2
  rw [hb] at e1; cases e1
  rcases e2 with ⟨e2, e3, e4⟩ | ⟨e2, e3⟩ | e2 | ⟨e2, i, hi, e3, e4⟩
  · rw [h1 e2 e3] at e4; cases e4
  · have := h2 e2; omega
  · exact h3 e2
  · exact e4 (h4 e2 i hi e3)
/-- No place lies in the cells that the iterator reads. -/
theorem RN.apart (h : RN W wr t fv N (.slice op t.parts.length cp) (.slice om t.meths.length cm) vo X t.meths.length) {a : Addr} (ha : a ∈ allL W t op om X) : a.block < wr.heap.size ∧ a.block ≠ W.heap.size + 1 ∧ a.block ≠ W.heap.size + 2 := by
  have hXl : X.length = t.meths.length := by rw [← h.xm]; simp
  obtain ⟨_, cs, ty, h1, _, h2⟩ := h.tag ha
  refine ⟨(Array.getElem?_eq_some_iff.1 h1).1, fun e => ?_, fun e => ?_⟩
  · have hf : wr.heap[W.heap.size + 1]? = some (.cells _ 94 (0, 0)) := h.f
    rw [e, hf] at h1; cases h1
    rcases h2 with ⟨h2, _⟩ | ⟨h2, _⟩ | h2 | ⟨h2, _⟩ <;> cases h2
  · rw [e] at h1
    unfold allL placesL at ha
    rw [List.mem_append, List.mem_append] at ha
    have hN := h.hN
    rcases ha with ha | ha | ha
    · unfold superAts at ha
      split at ha
      · simp at ha; subst ha; simp at e
      · simp at ha
    · by_cases h0 : 0 < t.parts.length
      · obtain ⟨g, rfl⟩ := row_some h.rp h0
        obtain ⟨h3, _⟩ := row_block h.rp
        obtain ⟨i, hi, rfl⟩ := mem_partAts.1 ha
        simp at e; omega
      · rw [show t.parts.length = 0 by omega, partAts_zero] at ha; simp at ha
    · by_cases h0 : 0 < t.meths.length
      · obtain ⟨mb, rfl⟩ := row_some h.rm h0
        obtain ⟨h3, _⟩ := row_block h.rm
        obtain ⟨i, hi, _, hr⟩ := mem_methAts (fun s hs h0 => by
          obtain ⟨j, hj, rfl⟩ := List.mem_iff_getElem.1 hs
          obtain ⟨o, c, _, e2, e3⟩ := h.sig (i := j) (by simpa using hj)
          rw [List.getElem_map, e2] at h0 ⊢
          obtain ⟨ab, e4, _⟩ := e3 h0
          exact ⟨ab, 0, e4⟩) _ (Nat.le_refl _) ha
        have hi' : i < X.length := by simpa using hi
        obtain ⟨o, c, _, e2, e3⟩ := h.sig hi'
        rw [List.getElem_map, e2] at hr
        rcases hr with ⟨ab, aoff, j, e4, hj, rfl⟩ | ⟨hr, rfl⟩
        · obtain ⟨ab', e5, h5, _⟩ := e3 (by show 0 < X[i].1.args.length; exact Nat.lt_of_le_of_lt (Nat.zero_le _) hj)
          simp only at e4
          rw [e5] at e4; cases e4
          simp at e; omega
        · simp at e; omega
      · have : X = [] := List.eq_nil_of_length_eq_zero (by omega)
        subst this
        simp [methAts] at ha
/-- Cells hold what they held, from a block on. -/
def HoldsFrom (k : Nat) (W W' : World) : Prop := ∀ b i, k ≤ b → ∀ v, W.cell? ⟨b, i, none⟩ = some v → W'.cell? ⟨b, i, none⟩ = some v
/-- What the places hold, and what they hold then. -/
def newV (wr : World) (tf : Int → Int) (a : Addr) : Value := .int .i64 (tf (valI wr a))
theorem RN.keep (h : RN W wr t fv N (.slice op t.parts.length cp) (.slice om t.meths.length cm) vo X t.meths.length) {tf : Int → Int} {W' : World} {b k : Nat} {cs : Array Value} {ty : TypeId} (hH : ∀ v, (setAll (newV wr tf) wr (allL W t op om X)).cell? ⟨b, k, none⟩ = some v → W'.cell? ⟨b, k, none⟩ = some v) (hb : wr.heap[b]? = some (.cells cs ty (0, 0)))
    (h1 : ty = 62 → k = 6 → supB t.kind = false) (h2 : ty = 93 → k % 2 = 0) (h3 : ty ≠ 3) (h4 : ty = 74 → ∀ i (hi : i < X.length), k = i * 5 + 2 → X[i].1.result = -1) {v : Value} (hv : wr.cell? ⟨b, k, none⟩ = some v) : W'.cell? ⟨b, k, none⟩ = some v :=
  hH _ ((setAll_other _ _ (h.out hb h1 h2 h3 h4)).trans hv)
theorem RN.turn (h : RN W wr t fv N (.slice op t.parts.length cp) (.slice om t.meths.length cm) vo X t.meths.length) {tf : Int → Int} {W' : World} {a : Addr} (hH : ∀ v, (setAll (newV wr tf) wr (allL W t op om X)).cell? a = some v → W'.cell? a = some v) (ha : a ∈ allL W t op om X) {x : Int} (hx : wr.cell? a = some (.int .i64 x)) : W'.cell? a = some (.int .i64 (tf x)) := by
  refine hH _ ((setAll_in _ _ h.nodup ha (by rw [hx]; rfl)).trans ?_)
  unfold newV valI
  rw [hx]
theorem in_all_super (hs : supB t.kind = true) : (⟨W.heap.size, 6, none⟩ : Addr) ∈ allL W t op om X := by
  unfold allL placesL superAts
  rw [if_pos hs]; simp
theorem in_all_part {g : Nat} {i : Nat} (hi : i < t.parts.length) (ho : op = some ⟨g, 0, none⟩) : (⟨g, i * 2 + 1, none⟩ : Addr) ∈ allL W t op om X := by
  unfold allL placesL
  rw [List.mem_append, List.mem_append, ho]
  exact .inr (.inl (mem_partAts.2 ⟨i, hi, by simp⟩))
theorem in_all_meth {mb : Nat} {i : Nat} (hi : i < X.length) (ho : om = some ⟨mb, 0, none⟩) {a : Addr} (ha : a ∈ sigAts (sigOf X[i]).o (sigOf X[i]).n mb (i * 5 + 1) (sigOf X[i]).res) : a ∈ allL W t op om X := by
  unfold allL placesL
  rw [List.mem_append, List.mem_append, ho]
  refine .inr (.inr (in_methAts (i := i) (by simpa using hi) ?_))
  rw [List.getElem_map]
  simpa using ha
theorem cell_parts {w : World} {base g n cap : Nat} {l : List PartD} (h : w.ownsRow base 93 2 (.slice (some ⟨g, 0, none⟩) n cap) n (partCells l)) (hn : n = l.length) {i : Nat} (hi : i < l.length) : w.cell? ⟨g, i * 2, none⟩ = some (.string l[i].name) ∧ w.cell? ⟨g, i * 2 + 1, none⟩ = some (.int .i64 l[i].type) := by
  have e0 := World.ownsRow.cellAt h (i * 2) (by omega)
  have e1 := World.ownsRow.cellAt h (i * 2 + 1) (by omega)
  unfold partCells at e0 e1
  have f0 := flat_get (f := fun p : PartD => [Value.string p.name, .int .i64 p.type]) (sz := 2) (fun _ => rfl) l i 0 hi (by omega)
  rw [Nat.add_zero] at f0
  rw [f0] at e0
  rw [flat_get (sz := 2) (fun _ => rfl) l i 1 hi (by omega)] at e1
  exact ⟨e0, e1⟩
theorem cell_overs {w : World} {base g n cap : Nat} {l : List OverD} (h : w.ownsRow base 116 2 (.slice (some ⟨g, 0, none⟩) n cap) n (overCells l)) (hn : n = l.length) {i : Nat} (hi : i < l.length) : w.cell? ⟨g, i * 2, none⟩ = some (.string l[i].name) ∧ w.cell? ⟨g, i * 2 + 1, none⟩ = some (.string l[i].proc) := by
  have e0 := World.ownsRow.cellAt h (i * 2) (by omega)
  have e1 := World.ownsRow.cellAt h (i * 2 + 1) (by omega)
  unfold overCells at e0 e1
  have f0 := flat_get (f := fun p : OverD => [Value.string p.name, .string p.proc]) (sz := 2) (fun _ => rfl) l i 0 hi (by omega)
  rw [Nat.add_zero] at f0
  rw [f0] at e0
  rw [flat_get (sz := 2) (fun _ => rfl) l i 1 hi (by omega)] at e1
  exact ⟨e0, e1⟩
theorem cell_mv {w : World} {base g n cap : Nat} {l : List MV} (h : w.ownsRow base 74 5 (.slice (some ⟨g, 0, none⟩) n cap) n (mvCells l)) (hn : n = l.length) {i : Nat} (hi : i < l.length) {k : Nat} (hk : k < 5) : w.cell? ⟨g, i * 5 + k, none⟩ = (mvC l[i])[k]? := by
  have e1 := World.ownsRow.cellAt h (i * 5 + k) (by omega)
  unfold mvCells at e1
  rw [flat_get (sz := 5) (fun _ => rfl) l i k hi hk] at e1
  exact e1
theorem row_caps {w : World} {base : Nat} {e : TypeId} {sz n c : Nat} {o : Option Addr} {xs : List Value} (h : w.ownsRow base e sz (.slice o n c) n xs) : n ≤ c ∧ c ≤ maxLen := by
  rcases h.2 with ⟨h0, h1⟩ | ⟨g, cap, cur, h0, _, _, h2, h3, _⟩
  · cases h0; exact ⟨Nat.le_refl _, by decide⟩
  · cases h0; exact ⟨h2, h3⟩
/-- THE COPY, BEHIND THE CHANGES. -/
theorem RN.done {co : Nat} {oo : Option Addr} (h : RN W wr t fv N (.slice op t.parts.length cp) (.slice om t.meths.length cm) (.slice oo t.overs.length co) X t.meths.length) {tf : Int → Int} {W' : World} (hH : HoldsFrom (W.heap.size + 3) (setAll (newV wr tf) wr (allL W t op om X)) W') :
    TyL W' (.slice op t.parts.length cp) (.slice om t.meths.length cm) (.slice oo t.overs.length co) (mapTy tf t) := by
  have hXl : X.length = t.meths.length := by rw [← h.xm]; simp
  have hNn := h.hN
  have hbt : wr.heap[W.heap.size]? = some (.cells _ 62 (0, 0)) := h.b
  refine ⟨?_, ?_, ?_⟩
  · obtain ⟨c1, c2⟩ := row_caps h.rp
    have hl : (mapTy tf t).parts.length = t.parts.length := by simp [mapTy]
    refine ⟨op, cp, by rw [hl], by rw [hl]; exact c1, c2, fun i x hx => ?_⟩
    obtain ⟨hi, rfl⟩ := List.getElem?_eq_some_iff.1 hx
    have hi' : i < t.parts.length := by omega
    obtain ⟨g, rfl⟩ := row_some h.rp (by omega)
    obtain ⟨h2, cs, h3⟩ := row_block h.rp
    obtain ⟨e0, e1⟩ := cell_parts h.rp rfl hi'
    refine ⟨g, 0, rfl, ?_, ?_⟩
    · rw [Nat.zero_add]
      have := h.keep (hH _ _ (by omega)) h3 (fun e => by cases e) (fun _ => by omega) (by decide) (fun e => by cases e) e0
      simpa [mapTy] using this
    · rw [Nat.zero_add]
      have := h.turn (hH _ _ (by omega)) (in_all_part hi' rfl) e1
      simpa [mapTy] using this
  · obtain ⟨c1, c2⟩ := row_caps h.rm
    have hl : (mapTy tf t).meths.length = t.meths.length := by simp [mapTy]
    refine ⟨om, cm, by rw [hl], by rw [hl]; exact c1, c2, fun i x hx => ?_⟩
    obtain ⟨hi, rfl⟩ := List.getElem?_eq_some_iff.1 hx
    have hi' : i < t.meths.length := by omega
    have hiX : i < X.length := by omega
    obtain ⟨mb, rfl⟩ := row_some h.rm (by omega)
    obtain ⟨h2, cs, h3⟩ := row_block h.rm
    have hxm : X[i].1 = t.meths[i] := by
      have : (X.map (·.1))[i]'(by simpa using hiX) = t.meths[i] := by simp [h.xm]
      simpa using this
    obtain ⟨o, c, s1, s2, s3⟩ := h.sig hiX
    obtain ⟨r1, r2⟩ := h.own i hiX (by omega)
    have k0 : ∀ k u, k < 5 → k ≠ 2 → (mvC X[i])[k]? = some u → W'.cell? ⟨mb, i * 5 + k, none⟩ = some u := fun k u hk hk2 hu =>
      h.keep (hH _ _ (by omega)) h3 (fun e => by cases e) (fun e => by cases e) (by decide) (fun _ j hj e => by omega) ((cell_mv h.rm hXl.symm hiX hk).trans hu)
    have hmm : (mapTy tf t).meths[i] = mapM tf X[i].1 := by simp [mapTy, hxm]
    rw [hmm]
    refine ⟨mb, 0, rfl, X[i].2.1, X[i].2.2, ⟨?_, ?_⟩, ?_, ?_, ?_, ?_, ?_⟩
    · rw [s1] at r1 ⊢
      obtain ⟨d1, d2⟩ := row_caps r1
      refine ⟨o, c, by simp [mapM], by simp [mapM]; exact d1, d2, fun j y hy => ?_⟩
      obtain ⟨hj, rfl⟩ := List.getElem?_eq_some_iff.1 hy
      have hj' : j < X[i].1.args.length := by simpa [mapM] using hj
      obtain ⟨ab, rfl, _, _⟩ := s3 (by omega)
      obtain ⟨g, e4, _, e5⟩ := row_cell r1 j hj'
      cases e4
      refine ⟨ab, 0, rfl, ?_⟩
      have hin : (⟨ab, j, none⟩ : Addr) ∈ allL W t op (some ⟨mb, 0, none⟩) X := in_all_meth hiX rfl (by
        rw [s2]
        have := in_sigAts_arg (s := ⟨some ⟨ab, 0, none⟩, X[i].1.args.length, c, X[i].1.result⟩) (b := mb) (k := i * 5 + 1) (ab := ab) (aoff := 0) (j := j) rfl hj'
        simpa using this)
      have := h.turn (hH _ _ (by omega)) hin e5
      unfold IntAt
      simpa [mapM] using this
    · obtain ⟨o', c', e'⟩ := row_form r2
      rw [e'] at r2 ⊢
      obtain ⟨d1, d2⟩ := row_caps r2
      refine ⟨o', c', rfl, d1, d2, fun j y hy => ?_⟩
      obtain ⟨hj, rfl⟩ := List.getElem?_eq_some_iff.1 hy
      have hj' : j < X[i].1.raises.length := hj
      obtain ⟨g, rfl⟩ := row_some r2 (by omega)
      obtain ⟨h2', cs', h3'⟩ := row_block r2
      have e5 : wr.cell? ⟨g, j, none⟩ = some (.string X[i].1.raises[j]) := by
        rw [Row1.cells r2 j hj']; simp [hj']
      refine ⟨g, 0, rfl, ?_⟩
      have := h.keep (hH _ _ (by omega)) h3' (fun e => by cases e) (fun e => by cases e) (by decide) (fun e => by cases e) e5
      unfold StrAt
      simpa [mapM] using this
    · have := k0 0 _ (by omega) (by omega) rfl
      simpa [mapM] using this
    · have := k0 1 _ (by omega) (by omega) rfl
      simpa [mapM] using this
    · have e2 : wr.cell? ⟨mb, i * 5 + 2, none⟩ = some (.int .i64 X[i].1.result) := cell_mv h.rm hXl.symm hiX (k := 2) (by omega)
      by_cases hr : X[i].1.result = -1
      · have := h.keep (hH _ _ (by omega)) h3 (fun e => by cases e) (fun e => by cases e) (by decide) (fun _ j hj e => by
          have : j = i := by omega
          subst this; exact hr) e2
        simpa [mapM, hr] using this
      · have hin : (⟨mb, i * 5 + 2, none⟩ : Addr) ∈ allL W t op (some ⟨mb, 0, none⟩) X := in_all_meth hiX rfl (by
          rw [s2]
          exact in_sigAts_res (s := ⟨o, X[i].1.args.length, c, X[i].1.result⟩) (b := mb) (k := i * 5 + 1) hr)
        have := h.turn (hH _ _ (by omega)) hin e2
        simpa [mapM, hr] using this
    · have := k0 3 _ (by omega) (by omega) rfl
      simpa [mapM] using this
    · have := k0 4 _ (by omega) (by omega) rfl
      simpa [mapM] using this
  · obtain ⟨c1, c2⟩ := row_caps h.ro
    refine ⟨oo, co, rfl, c1, c2, fun i x hx => ?_⟩
    obtain ⟨hi, rfl⟩ := List.getElem?_eq_some_iff.1 hx
    obtain ⟨g, rfl⟩ := row_some h.ro (by have : i < t.overs.length := hi; omega)
    obtain ⟨h2, cs, h3⟩ := row_block h.ro
    obtain ⟨e0, e1⟩ := cell_overs h.ro rfl hi
    refine ⟨g, 0, rfl, ?_, ?_⟩
    · rw [Nat.zero_add]
      exact h.keep (hH _ _ (by omega)) h3 (fun e => by cases e) (fun e => by cases e) (by decide) (fun e => by cases e) e0
    · rw [Nat.zero_add]
      exact h.keep (hH _ _ (by omega)) h3 (fun e => by cases e) (fun e => by cases e) (by decide) (fun e => by cases e) e1
theorem RN.cells {co : Nat} {oo : Option Addr} (h : RN W wr t fv N (.slice op t.parts.length cp) (.slice om t.meths.length cm) (.slice oo t.overs.length co) X t.meths.length) {tf : Int → Int} {W' : World} (hH : ∀ i v, (setAll (newV wr tf) wr (allL W t op om X)).cell? ⟨W.heap.size, i, none⟩ = some v → W'.cell? ⟨W.heap.size, i, none⟩ = some v) :
    ∀ k u, (tyC (mapTy tf t) (.slice op t.parts.length cp) (.slice om t.meths.length cm) (.slice oo t.overs.length co))[k]? = some u → W'.cell? ⟨W.heap.size, k, none⟩ = some u := by
  have hXl : X.length = t.meths.length := by rw [← h.xm]; simp
  have hNn := h.hN
  have hbt : wr.heap[W.heap.size]? = some (.cells _ 62 (0, 0)) := h.b
  · intro k u hk
    have hold := h.b.cell
    by_cases h6 : k = 6
    · subst h6
      simp [tyC] at hk
      subst hk
      by_cases hs : supB t.kind = true
      · have := h.turn (hH _) (in_all_super hs) (hold 6)
        simpa [mapTy, hs] using this
      · have hs' : supB t.kind = false := by simpa using hs
        have := h.keep (hH _) hbt (fun _ _ => hs') (fun e => by cases e) (by decide) (fun e => by cases e) (hold 6)
        simpa [mapTy, hs'] using this
    · refine h.keep (hH _) hbt (fun _ e => absurd e h6) (fun e => by cases e) (by decide) (fun e => by cases e) ((hold k).trans ?_)
      match k with
      | 0 => exact hk
      | 1 => exact hk
      | 2 => exact hk
      | 3 => exact hk
      | 4 => exact hk
      | 5 => exact hk
      | 6 => exact absurd rfl h6
      | 7 => exact hk
      | 8 => exact hk
      | 9 => exact hk
      | k + 10 => simp [tyC] at hk
end
end Go.Proofs.YteaokkaidcbdlaaGreatDoor
