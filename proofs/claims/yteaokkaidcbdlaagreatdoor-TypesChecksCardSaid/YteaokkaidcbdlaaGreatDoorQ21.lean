/- Part 21 of 51: the texts Rf, Mp, one behind the other. -/
import Derived.Test.YteaokkaidcbdlaaGreatDoorQ20
import Derived.Tactics
import Derived.Tactics2
import Derived.WalkKit
import Derived.LoopTactic
import Derived.Outline
import Derived.Lib.Hide
import Derived.Handy
import Derived.KernelRfl
import Derived.Deep.LoopGhost
import Derived.CallsIn
import Derived.Deep.QuietTactic
import Derived.BigQuiet
import Derived.Deep.Draws
import Derived.WalkSpells
import Derived.Lib.Walk
import Derived.Lib.Strings
import Derived.Maps.OwnOps
import Derived.Maps.OwnSet
import Derived.Deep.RegionWith
import Derived.StillTailTactics
import Derived.WalkMore
import Derived.RangeFuncNested
import Derived.RangeFuncBound
import Derived.RangeFuncCalls
import Derived.RangeFuncLeaves
import Derived.RangeFuncBox
import Derived.Shelf.Abstract
import Derived.OwnWalkIn
import Derived.TacticsInMore
import Derived.LoopNIn
import Derived.LoopIn
import Derived.RecoverIn
import Derived.Maps.AppendAt
import Derived.RegionTactic
import Derived.ChangeAlike
import Derived.OwnWalk
import Derived.Deep.AppendLies
import Derived.Deep.DeepCutAuto
import Derived.Deep.RegionLaw
import Derived.Deep.RegionHeld3
import Derived.Laws.EntriesVeiled
import Derived.Test.YteaokkaidcbdlaaGreatDoorQ17
/- references (104): what a type refers to, in a row of its own -/
namespace Go.Proofs.YteaokkaidcbdlaaGreatDoor
open Go Go.RowKit Go.Shelf
/-! ### references (104), of a type -/
/-- The numbers of types that a type refers to, in their order. -/
def sigRefs (m : MethD) : List Int := m.args ++ if m.result = -1 then [] else [m.result]
def refsOf (t : TyD) : List Int := (if supB t.kind then [t.super] else []) ++ (t.parts.map (·.type) ++ t.meths.flatMap sigRefs)
theorem choose_list {α : Type} {P : Nat → α → Prop} : ∀ n, (∀ i, i < n → ∃ s, P i s) → ∃ S : List α, S.length = n ∧ ∀ i (h : i < S.length), P i S[i]
  | 0, _ => ⟨[], rfl, fun i h => by simp at h⟩
  | n + 1, h => by
    obtain ⟨S, hl, hS⟩ := choose_list n (fun i hi => h i (by omega))
    obtain ⟨s, hs⟩ := h n (by omega)
    refine ⟨S ++ [s], by simp [hl], fun i hi => ?_⟩
    by_cases hi' : i < S.length
    · rw [List.getElem_append_left hi']; exact hS i hi'
    · have : i = n := by simp at hi; omega
      subst this
      rw [List.getElem_append_right (by omega)]
      simpa [hl] using hs
/-- A number as a cell holds it. -/
def cellI (x : Int) : Option Value := some (.int .i64 x)
theorem argAts_cells {W : World} {o : Option Addr} {cap : Nat} {l : List Int} (h : SliceOf 1 (IntAt W) (.slice o l.length cap) l) : (argAts o l.length).map W.cell? = l.map cellI := by
  obtain ⟨-, -, -, hat⟩ := h.at
  apply List.ext_getElem
  · simp [argAts]
  · intro i h1 h2
    have hi : i < l.length := by simpa using h2
    obtain ⟨b, off, rfl, hc⟩ := hat i l[i] (List.getElem?_eq_getElem hi)
    unfold IntAt at hc
    simp [argAts, cellI]
    simpa using hc
theorem partAts_cells {W : World} {o : Option Addr} {cap : Nat} {l : List PartD} (h : SliceOf 2 (PartAt W) (.slice o l.length cap) l) : (partAts o l.length).map W.cell? = (l.map (·.type)).map cellI := by
  obtain ⟨-, -, -, hat⟩ := h.at
  apply List.ext_getElem
  · simp [partAts]
  · intro i h1 h2
    have hi : i < l.length := by simpa using h2
    obtain ⟨b, off, rfl, hc⟩ := hat i l[i] (List.getElem?_eq_getElem hi)
    simp [partAts, cellI]
    exact hc.2
/-- How a method's signature lies: told by the places. -/
structure SigAt (W : World) (om : Option Addr) (i : Nat) (m : MethD) (s : SigD) : Prop where
  hdr : ∀ mb moff, om = some ⟨mb, moff, none⟩ → W.cell? ⟨mb, moff + i * 5 + 1, none⟩ = some (.slice s.o s.n s.cap)
  res : ∀ mb moff, om = some ⟨mb, moff, none⟩ → W.cell? ⟨mb, moff + i * 5 + 1 + 1, none⟩ = some (.int .i64 s.res)
  n : s.n = m.args.length
  r : s.res = m.result
  args : SliceOf 1 (IntAt W) (.slice s.o m.args.length s.cap) m.args
theorem sigAts_cells {W : World} {mb moff i : Nat} {m : MethD} {s : SigD} (h : SigAt W (some ⟨mb, moff, none⟩) i m s) : (sigAts s.o s.n mb (moff + i * 5 + 1) s.res).map W.cell? = (sigRefs m).map cellI := by
  unfold sigAts sigRefs
  rw [List.map_append, List.map_append, h.n, argAts_cells h.args, h.r]
  congr 1
  split
  · rfl
  · simp [cellI, ← h.r]
    exact h.res mb moff rfl
theorem methAts_cells {W : World} {mb moff : Nat} {M : List MethD} {S : List SigD} (hl : S.length = M.length) (h : ∀ i (h1 : i < S.length) (h2 : i < M.length), SigAt W (some ⟨mb, moff, none⟩) i M[i] S[i]) :
    ∀ n, n ≤ S.length → (methAts (some ⟨mb, moff, none⟩) S n).map W.cell? = ((M.take n).flatMap sigRefs).map cellI
  | 0, _ => by simp [methAts]
  | n + 1, hn => by
    have ih := methAts_cells hl h n (by omega)
    rw [methAts_succ _ _ _ _ (by omega), List.map_append, ih, sigAts_cells (h n (by omega) (by omega)), List.take_succ_eq_append_getElem (by omega), List.flatMap_append, List.map_append]
    simp
def valI (W : World) (a : Addr) : Int := match W.cell? a with | some (.int _ x) => x | _ => 0
set_option maxRecDepth 100000 in
/-- A type at its place: references hands back what it refers to, in a row of its own. -/
theorem references_any (b k : Nat) (t : TyD) (w : World) (ht : TyAt w b k t) (hlen : (refsOf t).length ≤ 100000) :
    Calls Tryz.prog 104 #[.pointer (some ⟨b, k, none⟩)] w fun e w' => ∃ v, e = .returned v ∧ w'.ownsRow w.heap.size 3 1 v (refsOf t).length ((refsOf t).map (.int .i64)) ∧ Below w.heap.size w w' := by
  obtain ⟨vp, vm, vo, hl, k0, k1, k2, k3, k4, k5, k6, k7, k8, k9⟩ := ht
  obtain ⟨op, cp, rfl⟩ := hl.parts.form
  obtain ⟨om, cm, rfl⟩ := hl.meths.form
  obtain ⟨-, hpm, hpl, hpat⟩ := hl.parts.at
  obtain ⟨-, hmm, hml, hmat⟩ := hl.meths.at
  have hnp : t.parts.length ≤ 9223372036854775807 := by unfold maxLen at hpm; omega
  have hnm : t.meths.length ≤ 9223372036854775807 := by unfold maxLen at hmm; omega
  obtain ⟨S, hSl, hSP⟩ := choose_list (P := fun i s => ∀ h : i < t.meths.length, SigAt w om i t.meths[i] s ∧ s.n ≤ 9223372036854775807 ∧ (0 < s.n → ∃ ab aoff, s.o = some ⟨ab, aoff, none⟩)) t.meths.length (fun i hi => by
    obtain ⟨mb, moff, rfl, va, vr, hv, m0, m1, m2, m3, m4⟩ := hmat i t.meths[i] (List.getElem?_eq_getElem hi)
    have hargs := hv.args
    obtain ⟨oa, ca, rfl⟩ := hv.args.form
    obtain ⟨-, ham, hal, haat⟩ := hv.args.at
    refine ⟨⟨oa, t.meths[i].args.length, ca, t.meths[i].result⟩, fun _ => ⟨⟨?_, ?_, rfl, rfl, hargs⟩, ?_, ?_⟩⟩
    · intro b' o' e; cases e; exact m1
    · intro b' o' e; cases e; exact m2
    · show t.meths[i].args.length ≤ _
      unfold maxLen at ham; omega
    · intro h0
      obtain ⟨ab, aoff, e, _⟩ := haat 0 t.meths[i].args[0] (List.getElem?_eq_getElem h0)
      exact ⟨ab, aoff, e⟩)
  have hcells : (placesL (supB t.kind) b k op t.parts.length om S).map w.cell? = (refsOf t).map cellI := by
    unfold placesL refsOf
    rw [List.map_append, List.map_append, List.map_append, List.map_append, partAts_cells hl.parts]
    congr 1
    · unfold superAts
      split
      · simp [cellI]; exact k6
      · rfl
    · congr 1
      by_cases h0 : S.length = 0
      · have : t.meths = [] := List.eq_nil_of_length_eq_zero (by omega)
        rw [h0, this]; simp [methAts]
      · obtain ⟨mb, moff, rfl, _⟩ := hmat 0 t.meths[0] (List.getElem?_eq_getElem (by omega))
        rw [methAts_cells (M := t.meths) hSl (fun i h1 h2 => (hSP i h1 h2).1) S.length (Nat.le_refl _), hSl, List.take_length]
  have hval : ∀ x ∈ placesL (supB t.kind) b k op t.parts.length om S, w.cell? x = some (.int .i64 (valI w x)) := by
    intro x hx
    have h1 : w.cell? x ∈ (refsOf t).map cellI := by rw [← hcells]; exact List.mem_map_of_mem hx
    obtain ⟨y, _, hy⟩ := List.mem_map.1 h1
    unfold valI
    rw [← hy]; rfl
  have hmap : (placesL (supB t.kind) b k op t.parts.length om S).map (fun x => Value.int .i64 (valI w x)) = (refsOf t).map (.int .i64) := by
    have h2 : ((placesL (supB t.kind) b k op t.parts.length om S).map (fun x => Value.int .i64 (valI w x))).map some = ((refsOf t).map (Value.int .i64)).map some := by
      rw [List.map_map, List.map_map, show (some ∘ Value.int .i64 : Int → Option Value) = cellI from rfl, ← hcells]
      exact List.map_congr_left fun x hx => (hval x hx).symm
    exact (List.map_inj_right (fun x y h => by injection h)).1 h2
  have hL : (placesL (supB t.kind) b k op t.parts.length om S).length = (refsOf t).length := by
    have := congrArg List.length hcells
    simpa using this
  have := references_shape b k t.kind op t.parts.length cp om cm S hnp (by omega) (fun s hs => by
      obtain ⟨i, hi, rfl⟩ := List.mem_iff_getElem.1 hs
      exact (hSP i hi (by omega)).2)
    (fun h0 => by
      obtain ⟨ab, aoff, e, _⟩ := hpat 0 t.parts[0] (List.getElem?_eq_getElem h0)
      exact ⟨ab, aoff, e⟩)
    (fun h0 => by
      obtain ⟨ab, aoff, e, _⟩ := hmat 0 t.meths[0] (List.getElem?_eq_getElem (by omega))
      exact ⟨ab, aoff, e⟩)
    w ⟨k0, k7, by rw [hSl]; exact k8⟩
    (fun m h mb moff e => ((hSP m h (by omega)).1.hdr mb moff e))
    (fun m h mb moff e => ((hSP m h (by omega)).1.res mb moff e))
    (valI w) (by rw [hL]; exact hlen) hval
  rw [hL, hmap] at this
  exact this
end Go.Proofs.YteaokkaidcbdlaaGreatDoor
/- the classes grow finer: the measure of classes' loop -/
namespace Go.Proofs.YteaokkaidcbdlaaGreatDoor
open Go Go.RowKit Go.Shelf
/-! ### The classes grow finer: what ends classes' loop -/
theorem getD_snoc_lt {l : List Nat} {a i : Nat} (h : i < l.length) : (l ++ [a]).getD i 0 = l.getD i 0 := by
  simp [List.getD_eq_getElem?_getD, List.getElem?_append_left h]
theorem getD_snoc_len {l : List Nat} {a n : Nat} (h : l.length = n) : (l ++ [a]).getD n 0 = a := by
  subst h; simp [List.getD_eq_getElem?_getD]
theorem leasts_spec (same : Nat → Nat → Bool) : ∀ n, (leastsS same n).2.length = n ∧
    (∀ i, i < n → (leastsS same n).2.getD i 0 ≤ i ∧ ((leastsS same n).2.getD i 0 = i ∨ same ((leastsS same n).2.getD i 0) i = true) ∧ (leastsS same n).2.getD ((leastsS same n).2.getD i 0) 0 = (leastsS same n).2.getD i 0) ∧
    (∀ f ∈ (leastsS same n).1, f < n ∧ (leastsS same n).2.getD f 0 = f)
  | 0 => ⟨rfl, fun i h => by omega, fun f h => by simp [leastsS] at h⟩
  | n + 1 => by
    obtain ⟨h1, h2, h3⟩ := leasts_spec same n
    rw [leastsS_succ]
    generalize leastsS same n = r at h1 h2 h3 ⊢
    obtain ⟨F, N⟩ := r
    simp only at h1 h2 h3
    unfold stepL
    simp only
    cases hf : F.findIdx? (fun f => same f n) with
    | none =>
      simp only
      refine ⟨by simp [h1], fun i hi => ?_, fun f hf => ?_⟩
      · by_cases hin : i < n
        · obtain ⟨a1, a2, a3⟩ := h2 i hin
          rw [getD_snoc_lt (by omega), getD_snoc_lt (by omega)]
          exact ⟨a1, a2, a3⟩
        · obtain rfl : i = n := by omega
          rw [getD_snoc_len h1, getD_snoc_len h1]
          exact ⟨Nat.le_refl _, .inl rfl, rfl⟩
      · rw [List.mem_append, List.mem_singleton] at hf
        rcases hf with hf | rfl
        · obtain ⟨b1, b2⟩ := h3 f hf
          exact ⟨by omega, by rw [getD_snoc_lt (by omega)]; exact b2⟩
        · exact ⟨by omega, getD_snoc_len h1⟩
    | some j =>
      simp only
      rw [List.findIdx?_eq_some_iff_getElem] at hf
      obtain ⟨hj, hs, -⟩ := hf
      have hg : F.getD j 0 = F[j] := by simp [List.getD_eq_getElem?_getD, List.getElem?_eq_getElem hj]
      rw [hg]
      obtain ⟨b1, b2⟩ := h3 F[j] (List.getElem_mem hj)
      refine ⟨by simp [h1], fun i hi => ?_, fun f hf => ?_⟩
      · by_cases hin : i < n
        · obtain ⟨a1, a2, a3⟩ := h2 i hin
          rw [getD_snoc_lt (by omega), getD_snoc_lt (by omega)]
          exact ⟨a1, a2, a3⟩
        · obtain rfl : i = n := by omega
          rw [getD_snoc_len h1, getD_snoc_lt (by omega)]
          exact ⟨by omega, .inr hs, b2⟩
      · obtain ⟨c1, c2⟩ := h3 f hf
        exact ⟨by omega, by rw [getD_snoc_lt (by omega)]; exact c2⟩
/-- How many are their own class. -/
def ownN (c : List Nat) (n : Nat) : Nat := ((List.range n).filter fun i => c.getD i 0 == i).length
/-- Classes that hold together only what was together are the same, or more. -/
theorem finer_grows {c c' : List Nat} {n : Nat} (hc : c.length = n) (hc' : c'.length = n) (h : ∀ i, i < n → c.getD i 0 ≤ i)
    (h' : ∀ i, i < n → c'.getD i 0 ≤ i ∧ c'.getD (c'.getD i 0) 0 = c'.getD i 0) (hs : ∀ i, i < n → c.getD (c'.getD i 0) 0 = c.getD i 0) (hne : c' ≠ c) : ownN c n < ownN c' n := by
  have hsub : ∀ i, i < n → c.getD i 0 = i → c'.getD i 0 = i := by
    intro i hi he
    have a := hs i hi
    have b := (h' i hi).1
    have d := h (c'.getD i 0) (by omega)
    omega
  have hex : ∃ i, i < n ∧ c'.getD i 0 = i ∧ c.getD i 0 ≠ i := by
    apply Classical.byContradiction
    intro hno
    apply hne
    apply List.ext_getElem (by omega)
    intro i h1 h2
    have hi : i < n := by omega
    have g1 : c'[i] = c'.getD i 0 := by simp [List.getD_eq_getElem?_getD, List.getElem?_eq_getElem h1]
    have g2 : c[i] = c.getD i 0 := by simp [List.getD_eq_getElem?_getD, List.getElem?_eq_getElem h2]
    rw [g1, g2]
    obtain ⟨a, b⟩ := h' i hi
    have hj : c.getD (c'.getD i 0) 0 = c'.getD i 0 := by
      apply Classical.byContradiction
      intro hq
      exact hno ⟨c'.getD i 0, by omega, b, hq⟩
    rw [← hs i hi, hj]
  obtain ⟨k, hk, e1, e2⟩ := hex
  unfold ownN
  have hle : ∀ m, m ≤ n → ((List.range m).filter fun i => c.getD i 0 == i).length + (if k < m then 1 else 0) ≤ ((List.range m).filter fun i => c'.getD i 0 == i).length := by
    intro m
    induction m with
    | zero => intro _; simp
    | succ m ih =>
      intro hm
      have := ih (by omega)
      rw [List.range_succ, List.filter_append, List.filter_append, List.length_append, List.length_append]
      by_cases h1 : c.getD m 0 = m
      · have h2 := hsub m (by omega) h1
        have hkm : k ≠ m := fun e => e2 (by rw [e]; exact h1)
        simp only [List.filter_cons, List.filter_nil, h1, h2, beq_self_eq_true, if_true, List.length_singleton]
        split <;> split at this <;> omega
      · have h1' : (c.getD m 0 == m) = false := by simp only [beq_eq_false_iff_ne]; exact h1
        by_cases hkm : k = m
        · subst hkm
          simp only [List.filter_cons, List.filter_nil, h1', e1, beq_self_eq_true, if_true, List.length_singleton]
          simp at this ⊢
          omega
        · simp only [List.filter_cons, List.filter_nil, h1']
          simp only [Bool.false_eq_true, if_false, List.length_nil]
          split <;> split at this <;> omega
  have := hle n (Nat.le_refl _)
  rw [if_pos hk] at this
  omega
theorem ownN_le (c : List Nat) (n : Nat) : ownN c n ≤ n := by
  unfold ownN
  exact Nat.le_trans (List.length_filter_le _ _) (by simp)
end Go.Proofs.YteaokkaidcbdlaaGreatDoor
