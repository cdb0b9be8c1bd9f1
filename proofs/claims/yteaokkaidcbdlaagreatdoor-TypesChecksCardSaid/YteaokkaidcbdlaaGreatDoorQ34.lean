/- Part 34 of 51: the texts Ng, Nb, one behind the other. -/
import Derived.Test.YteaokkaidcbdlaaGreatDoorQ33
import Derived.Tactics
import Derived.Tactics2
import Derived.WalkKit
import Derived.LoopTactic
import Derived.Outline
import Derived.Lib.Hide
import Derived.Handy
import Derived.KernelRfl
import Derived.Deep.LoopGhost
import Derived.CallsIn
import Derived.Deep.QuietTactic
import Derived.BigQuiet
import Derived.Deep.Draws
import Derived.WalkSpells
import Derived.Lib.Walk
import Derived.Lib.Strings
import Derived.Maps.OwnOps
import Derived.Maps.OwnSet
import Derived.Deep.RegionWith
import Derived.StillTailTactics
import Derived.WalkMore
import Derived.RangeFuncNested
import Derived.RangeFuncBound
import Derived.RangeFuncCalls
import Derived.RangeFuncLeaves
import Derived.RangeFuncBox
import Derived.Shelf.Abstract
import Derived.OwnWalkIn
import Derived.TacticsInMore
import Derived.LoopNIn
import Derived.LoopIn
import Derived.RecoverIn
import Derived.Maps.AppendAt
import Derived.RegionTactic
import Derived.ChangeAlike
import Derived.OwnWalk
import Derived.Deep.AppendLies
import Derived.Deep.DeepCutAuto
import Derived.Deep.RegionLaw
import Derived.Deep.RegionHeld3
import Derived.Laws.EntriesVeiled
/- The loop of places' body: each round writes one cell of the new value. -/
namespace Go.Proofs.YteaokkaidcbdlaaGreatDoor
open Go Go.RowKit Go.Shelf
attribute [local go_sem] Oper.semAt_some
theorem holds_put {W : World} {l : Nat} {o : Obj} (o' : Obj) (hl : W.heap[l]? = some o) (ho : o.isCells = false) : Holds W (W.putObj l o') := by
  intro a v hv
  have hne : a.block ≠ l := by
    intro e
    unfold World.cell? at hv
    rw [e, hl] at hv
    cases o <;> first | (cases ho; done) | (simp at hv; done)
  have h2 : (W.putObj l o').heap[a.block]? = W.heap[a.block]? := World.putObj_heap_other (by omega)
  unfold World.cell? at hv ⊢
  rw [h2]; exact hv
theorem frozen_block {W W' : World} {a : Addr} (h : W'.heap[a.block]? = W.heap[a.block]?) : W'.frozen? a = W.frozen? a := by
  unfold World.frozen?; rw [h]
/-- What holds between two changes of places. -/
structure IN (W wr : World) (tf : Int → Int) (L : List Addr) (cb : Nat) (pv fv : Value) (p : List Addr) (W' : World) : Prop where
  pre : p <+: L
  hold : Holds (setAll (newV wr tf) wr p) W'
  bel : Below W.heap.size W W'
  fz : ∀ a ∈ L, a.block < W'.heap.size ∧ W'.frozen? a = false ∧ ∃ cs ty, W'.heap[a.block]? = some (.cells cs ty (0, 0))
  cb : Boxed W' cb 126 pv
  f : Boxed W' (W.heap.size + 1) 94 fv
  r : Blk W' (W.heap.size + 2) zeroTyC 62
  t : ∃ cs, W'.heap[W.heap.size]? = some (.cells cs 62 (0, 0)) ∧ cs.size = 10
theorem IN.below {W wr W1 W2 : World} {tf : Int → Int} {L p : List Addr} {cb : Nat} {pv fv : Value} (h : IN W wr tf L cb pv fv p W1) (hb : Below W1.heap.size W1 W2) : IN W wr tf L cb pv fv p W2 :=
  ⟨h.pre, h.hold.trans (.below hb), h.bel.trans (hb.mono h.bel.size), fun a ha => by
    obtain ⟨h1, h2, cs, ty, h3⟩ := h.fz a ha
    exact ⟨Nat.lt_of_lt_of_le h1 hb.size, (frozen_block (hb.block _ h1)).trans h2, cs, ty, (hb.block _ h1).trans h3⟩, (hb.block _ h.cb.lt).trans h.cb, (hb.block _ h.f.lt).trans h.f, h.r.below hb h.r.lt, by
    obtain ⟨cs, h1, h2⟩ := h.t
    exact ⟨cs, (hb.block _ (Array.getElem?_eq_some_iff.1 h1).1).trans h1, h2⟩⟩
theorem IN.put {W wr W1 : World} {tf : Int → Int} {L p : List Addr} {cb : Nat} {pv fv : Value} (h : IN W wr tf L cb pv fv p W1) {l : Nat} {o : Obj} (o' : Obj) (hl : W1.heap[l]? = some o) (ho : o.isCells = false) (hlW : W.heap.size ≤ l) : IN W wr tf L cb pv fv p (W1.putObj l o') := by
  have hot : ∀ (b : Nat) (cs : Array Value) (t : TypeId) (f : Nat × Nat), W1.heap[b]? = some (.cells cs t f) → (W1.putObj l o').heap[b]? = some (.cells cs t f) := fun b cs t f hb => by
    have hne : b ≠ l := by rintro rfl; rw [hl] at hb; cases hb; cases ho
    exact (World.putObj_heap_other (by omega)).trans hb
  refine ⟨h.pre, h.hold.trans (holds_put o' hl ho), h.bel.grown (grownBy_putObj' W1 l o') h.bel.size (fun j e => by cases e; exact hlW), fun a ha => ?_, hot _ _ _ _ h.cb, hot _ _ _ _ h.f, hot _ _ _ _ h.r, by
    obtain ⟨cs, h1, h2⟩ := h.t
    exact ⟨cs, hot _ _ _ _ h1, h2⟩⟩
  obtain ⟨h1, h2, cs, ty, h3⟩ := h.fz a ha
  have h4 := hot _ _ _ _ h3
  exact ⟨(Array.getElem?_eq_some_iff.1 h4).1, (frozen_block (h4.trans h3.symm)).trans h2, cs, ty, h4⟩
/-- One more place is changed. -/
theorem IN.more {W wr W1 : World} {tf : Int → Int} {L p : List Addr} {cb : Nat} {pv fv : Value} (h : IN W wr tf L cb pv fv p W1) {x : Addr} (hpx : p ++ [x] <+: L) (hs : ((setAll (newV wr tf) wr p).cell? x).isSome = true) (hbx : W.heap.size ≤ x.block) (hsp : x.spot = none)
    (hcb : x.block ≠ cb) (hf : x.block ≠ W.heap.size + 1) (hr : x.block ≠ W.heap.size + 2) : IN W wr tf L cb pv fv (p ++ [x]) (W1.setCell x (newV wr tf x)) := by
  obtain ⟨xb, xo, xs⟩ := x
  cases hsp
  have hbt : ∀ b, b ≠ xb → (W1.setCell ⟨xb, xo, none⟩ (newV wr tf ⟨xb, xo, none⟩)).heap[b]? = W1.heap[b]? := fun b hne => by
    show (W1.heap.modify xb _)[b]? = _
    rw [Array.getElem?_modify, if_neg (by omega)]
  refine ⟨hpx, by rw [setAll_snoc]; exact h.hold.set hs, h.bel.setCell (p := ⟨xb, xo, none⟩) hbx _, fun a ha => ?_, (hbt _ (fun e => hcb e.symm)).trans h.cb, (hbt _ (fun e => hf e.symm)).trans h.f, h.r.other xo _ (fun e => hr e.symm), ?ht⟩
  case ht =>
    obtain ⟨cs, h1, h2⟩ := h.t
    by_cases e : W.heap.size = xb
    · subst e
      refine ⟨cs.setIfInBounds xo (newV wr tf ⟨W.heap.size, xo, none⟩), ?_, by simpa using h2⟩
      show (W1.heap.modify W.heap.size _)[W.heap.size]? = _
      rw [Array.getElem?_modify, if_pos rfl, h1]; rfl
    · exact ⟨cs, (hbt _ e).trans h1, h2⟩
  obtain ⟨h1, h2, cs, ty, h3⟩ := h.fz a ha
  refine ⟨by simpa using h1, by rw [World.frozen?_setCell]; exact h2, ?_⟩
  by_cases e : a.block = xb
  · refine ⟨cs.setIfInBounds xo (newV wr tf ⟨xb, xo, none⟩), ty, ?_⟩
    rw [e] at h3 ⊢
    show (W1.heap.modify xb _)[xb]? = _
    rw [Array.getElem?_modify, if_pos rfl, h3]; rfl
  · exact ⟨cs, ty, (hbt _ e).trans h3⟩
theorem IN.cell {W wr W1 : World} {tf : Int → Int} {L p : List Addr} {cb : Nat} {pv fv : Value} (h : IN W wr tf L cb pv fv p W1) {a : Addr} {v : Value} (ha : a ∉ p) (hv : wr.cell? a = some v) : W1.cell? a = some v :=
  h.hold _ _ ((setAll_other _ _ ha).trans hv)
section
variable {W wr : World} {t : TyD} {fv vo : Value} {N cp cm : Nat} {op om : Option Addr} {X : List MV}
theorem RN.val (h : RN W wr t fv N (.slice op t.parts.length cp) (.slice om t.meths.length cm) vo X t.meths.length) {a : Addr} (ha : a ∈ allL W t op om X) : ∃ v : Int, wr.cell? a = some (.int .i64 v) ∧ v ∈ refsOf t := by
  have hXl : X.length = t.meths.length := by rw [← h.xm]; simp
  unfold allL placesL at ha
  unfold refsOf
  rw [List.mem_append, List.mem_append] at ha
  rcases ha with ha | ha | ha
  · unfold superAts at ha
    split at ha
    · rename_i hs
      simp at ha; subst ha
      exact ⟨t.super, h.b.cell 6, by simp [hs]⟩
    · simp at ha
  · by_cases h0 : 0 < t.parts.length
    · obtain ⟨g, rfl⟩ := row_some h.rp h0
      obtain ⟨i, hi, rfl⟩ := mem_partAts.1 ha
      have := (cell_parts h.rp rfl hi).2
      refine ⟨t.parts[i].type, by simpa using this, ?_⟩
      rw [List.mem_append, List.mem_append]
      exact .inr (.inl (List.mem_map_of_mem (List.getElem_mem hi)))
    · rw [show t.parts.length = 0 by omega, partAts_zero] at ha; simp at ha
  · by_cases h0 : 0 < t.meths.length
    · obtain ⟨mb, rfl⟩ := row_some h.rm h0
      obtain ⟨i, hi, _, hr⟩ := mem_methAts (fun s hs h0 => by
        obtain ⟨j, hj, rfl⟩ := List.mem_iff_getElem.1 hs
        obtain ⟨o, c, _, e2, e3⟩ := h.sig (i := j) (by simpa using hj)
        rw [List.getElem_map, e2] at h0 ⊢
        obtain ⟨ab, e4, _⟩ := e3 h0
        exact ⟨ab, 0, e4⟩) _ (Nat.le_refl _) ha
      have hi' : i < X.length := by simpa using hi
      have hmem : X[i].1 ∈ t.meths := by rw [← h.xm]; exact List.mem_map_of_mem (List.getElem_mem hi')
      obtain ⟨o, c, e1, e2, e3⟩ := h.sig hi'
      obtain ⟨r1, _⟩ := h.own i hi' (by omega)
      rw [List.getElem_map, e2] at hr
      have hsub : ∀ v ∈ sigRefs X[i].1, v ∈ (if supB t.kind then [t.super] else []) ++ (t.parts.map (·.type) ++ t.meths.flatMap sigRefs) := fun v hv => by
        rw [List.mem_append, List.mem_append]
        exact .inr (.inr (List.mem_flatMap.2 ⟨_, hmem, hv⟩))
      rcases hr with ⟨ab, aoff, j, e4, hj, rfl⟩ | ⟨hr, rfl⟩
      · simp only at e4 hj
        subst e4
        rw [e1] at r1
        obtain ⟨g, e5, _, e6⟩ := row_cell r1 j hj
        cases e5
        refine ⟨X[i].1.args[j], by simpa using e6, hsub _ ?_⟩
        unfold sigRefs
        rw [List.mem_append]
        exact .inl (List.getElem_mem hj)
      · refine ⟨X[i].1.result, ?_, hsub _ ?_⟩
        · have := cell_mv h.rm hXl.symm hi' (k := 2) (by omega)
          rw [show 0 + i * 5 + 1 + 1 = i * 5 + 2 by omega]
          exact this
        · unfold sigRefs
          rw [List.mem_append, if_neg hr]
          exact .inr (by simp)
    · have : X = [] := List.eq_nil_of_length_eq_zero (by omega)
      subst this
      simp [methAts] at ha
/-- The changes' start. -/
theorem RN.start (h : RN W wr t fv N (.slice op t.parts.length cp) (.slice om t.meths.length cm) vo X t.meths.length) (tf : Int → Int) (pv : Value) : IN W wr tf (allL W t op om X) wr.heap.size pv fv [] (wr.alloc (.cells #[pv] 126)) := by
  have hb : Below wr.heap.size wr (wr.alloc (.cells #[pv] 126)) := (Below.refl _ _).alloc (Nat.le_refl _) _
  refine ⟨List.nil_prefix, .below hb, h.bel.trans (hb.mono h.bel.size), fun a ha => ?_, Boxed.new _ _ _, h.f.alloc _, h.r.alloc _, ?_⟩
  · obtain ⟨_, cs, ty, h1, _⟩ := h.tag ha
    have hlt := (Array.getElem?_eq_some_iff.1 h1).1
    have h2 := (hb.block _ hlt).trans h1
    exact ⟨(Array.getElem?_eq_some_iff.1 h2).1, by simp [World.frozen?, h2], cs, ty, h2⟩
  · have h1 : wr.heap[W.heap.size]? = some (.cells _ 62 (0, 0)) := h.b
    exact ⟨_, (hb.block _ (Array.getElem?_eq_some_iff.1 h1).1).trans h1, rfl⟩
theorem sig_cell (h : RN W wr t fv N (.slice op t.parts.length cp) (.slice om t.meths.length cm) vo X t.meths.length) {m : Nat} (hm : m < X.length) {mb moff : Nat} (e : om = some ⟨mb, moff, none⟩) : moff = 0 ∧ wr.cell? ⟨mb, m * 5 + 1, none⟩ = some (.slice (sigOf X[m]).o (sigOf X[m]).n (sigOf X[m]).cap) ∧ wr.cell? ⟨mb, m * 5 + 2, none⟩ = some (.int .i64 X[m].1.result) ∧ ∃ cs, wr.heap[mb]? = some (.cells cs 74 (0, 0)) := by
  have hXl : X.length = t.meths.length := by rw [← h.xm]; simp
  obtain ⟨g, e2⟩ := row_some h.rm (by omega)
  rw [e2] at e; cases e
  subst e2
  obtain ⟨_, cs, h3⟩ := row_block h.rm
  obtain ⟨o, c, s1, s2, _⟩ := h.sig hm
  refine ⟨rfl, ?_, cell_mv h.rm hXl.symm hm (k := 2) (by omega), cs, h3⟩
  have := cell_mv h.rm hXl.symm hm (k := 1) (by omega)
  rw [s2]
  rw [this]
  simp [mvC, s1]
/-- What the iterator reads, while places are changed. -/
theorem RN.reads (h : RN W wr t fv N (.slice op t.parts.length cp) (.slice om t.meths.length cm) vo X t.meths.length) {tf : Int → Int} {cb : Nat} {pv : Value} {p : List Addr} {W1 : World} (hI : IN W wr tf (allL W t op om X) cb pv fv p W1) :
    W1.cell? ⟨W.heap.size, 0, none⟩ = some (.int .u8 t.kind) ∧ W1.cell? ⟨W.heap.size, 0 + 7, none⟩ = some (.slice op t.parts.length cp) ∧ W1.cell? ⟨W.heap.size, 0 + 8, none⟩ = some (.slice om t.meths.length cm) := by
  have hbt : wr.heap[W.heap.size]? = some (.cells _ 62 (0, 0)) := h.b
  have hk : ∀ k, k ≠ 6 → (⟨W.heap.size, k, none⟩ : Addr) ∉ p := fun k hk e => h.out hbt (fun _ e => absurd e hk) (fun e => by cases e) (by decide) (fun e => by cases e) (hI.pre.subset e)
  exact ⟨hI.cell (hk 0 (by decide)) (h.b.cell 0), hI.cell (hk 7 (by decide)) (h.b.cell 7), hI.cell (hk 8 (by decide)) (h.b.cell 8)⟩
theorem RN.sigs (h : RN W wr t fv N (.slice op t.parts.length cp) (.slice om t.meths.length cm) vo X t.meths.length) {tf : Int → Int} {cb : Nat} {pv : Value} {p : List Addr} {W1 : World} (hI : IN W wr tf (allL W t op om X) cb pv fv p W1) {m : Nat} (hm : m < (X.map sigOf).length) {mb moff : Nat} (e : om = some ⟨mb, moff, none⟩) :
    W1.cell? ⟨mb, moff + m * 5 + 1, none⟩ = some (.slice (X.map sigOf)[m].o (X.map sigOf)[m].n (X.map sigOf)[m].cap) := by
  have hm' : m < X.length := by simpa using hm
  obtain ⟨rfl, h1, _, cs, h3⟩ := sig_cell h hm' e
  rw [List.getElem_map, Nat.zero_add]
  exact hI.cell (fun e => h.out h3 (fun e => by cases e) (fun e => by cases e) (by decide) (fun _ i hi e => by omega) (hI.pre.subset e)) h1
theorem RN.ress (h : RN W wr t fv N (.slice op t.parts.length cp) (.slice om t.meths.length cm) vo X t.meths.length) {tf : Int → Int} {cb : Nat} {pv : Value} {W1 : World} {m j : Nat} (hm : m < (X.map sigOf).length)
    (hI : IN W wr tf (allL W t op om X) cb pv fv ((superAts (supB t.kind) W.heap.size 0 ++ (partAts op t.parts.length ++ methAts om (X.map sigOf) m)) ++ (argAts (X.map sigOf)[m].o (X.map sigOf)[m].n).take j) W1) {mb moff : Nat} (e : om = some ⟨mb, moff, none⟩) :
    W1.cell? ⟨mb, moff + m * 5 + 1 + 1, none⟩ = some (.int .i64 (X.map sigOf)[m].res) := by
  have hm' : m < X.length := by simpa using hm
  obtain ⟨rfl, _, h2, cs, h3⟩ := sig_cell h hm' e
  obtain ⟨o, c, s1, s2, _⟩ := h.sig hm'
  have hres : (X.map sigOf)[m].res = X[m].1.result := by rw [List.getElem_map, s2]
  rw [hres]
  have hcell : (⟨mb, 0 + m * 5 + 1 + 1, none⟩ : Addr) = ⟨mb, m * 5 + 2, none⟩ := by rw [Nat.zero_add]
  rw [hcell]
  refine hI.cell (fun hin => ?_) h2
  by_cases hr : X[m].1.result = -1
  · refine h.out h3 (fun e => by cases e) (fun e => by cases e) (by decide) (fun _ i hi e => ?_) (hI.pre.subset hin)
    obtain rfl : m = i := by omega
    exact hr
  · have hnd := h.nodup
    subst e
    have hpre : (superAts (supB t.kind) W.heap.size 0 ++ (partAts op t.parts.length ++ methAts (some ⟨mb, 0, none⟩) (X.map sigOf) m)) ++ (argAts (X.map sigOf)[m].o (X.map sigOf)[m].n ++ [⟨mb, m * 5 + 2, none⟩]) <+: allL W t op (some ⟨mb, 0, none⟩) X := by
      unfold allL placesL
      have h4 := methAts_succ mb 0 (X.map sigOf) m hm
      have h5 := methAts_pre (some ⟨mb, 0, none⟩) (X.map sigOf) (show m + 1 ≤ (X.map sigOf).length by omega)
      rw [h4] at h5
      have h6 : sigAts (X.map sigOf)[m].o (X.map sigOf)[m].n mb (0 + m * 5 + 1) (X.map sigOf)[m].res = argAts (X.map sigOf)[m].o (X.map sigOf)[m].n ++ [⟨mb, m * 5 + 2, none⟩] := by
        unfold sigAts
        rw [hres, if_neg hr, Nat.zero_add]
      rw [h6] at h5
      rw [List.append_assoc, List.append_assoc]
      exact pre_of (pre_of h5)
    have hnd2 := hnd.sublist hpre.sublist
    rw [← List.append_assoc, List.nodup_append] at hnd2
    refine hnd2.2.2 _ ?_ _ (List.mem_singleton.2 rfl) rfl
    rw [List.mem_append] at hin ⊢
    rcases hin with hin | hin
    · exact .inl hin
    · exact .inr (List.mem_of_mem_take hin)
/-- The copy's cells, all together. -/
theorem row_eq {w : World} {b : Nat} {cs : Array Value} {ty : TypeId} {l : List Value} (h : w.heap[b]? = some (.cells cs ty (0, 0))) (hs : cs.size = l.length) (hc : ∀ k u, l[k]? = some u → w.cell? ⟨b, k, none⟩ = some u) : cs = l.toArray := by
  apply Array.ext
  · simpa using hs
  · intro i h1 h2
    have h3 : i < l.length := by simpa using h2
    have h4 := hc i l[i] (List.getElem?_eq_getElem h3)
    unfold World.cell? at h4
    rw [h] at h4
    simp at h4
    obtain ⟨_, h5⟩ := Array.getElem?_eq_some_iff.1 h4
    simpa using h5
end
theorem HoldsFrom.refl (k : Nat) (w : World) : HoldsFrom k w w := fun _ _ _ _ h => h
theorem HoldsFrom.set {k : Nat} {W W' : World} (h : HoldsFrom (k + 1) W W') (i : Nat) (u : Value) : HoldsFrom (k + 1) W (W'.setCell ⟨k, i, none⟩ u) := fun b j hb v hv =>
  (World.cell?_setCell_other _ _ _ _ (fun e => by cases e; omega)).trans (h b j hb v hv)
/-- A type whose cells lie in blocks of a range alone. -/
def Far (S E : Nat) (w : World) (u1 u2 u3 : Value) (t : TyD) : Prop := ∀ W', (∀ b i v, S ≤ b → b < E → w.cell? ⟨b, i, none⟩ = some v → W'.cell? ⟨b, i, none⟩ = some v) → TyL W' u1 u2 u3 t
theorem Far.self {S E : Nat} {w : World} {u1 u2 u3 : Value} {t : TyD} (h : Far S E w u1 u2 u3 t) : TyL w u1 u2 u3 t := h w fun _ _ _ _ _ h => h
theorem Far.kept {S E : Nat} {w w' : World} {u1 u2 u3 : Value} {t : TyD} (h : Far S E w u1 u2 u3 t) (hk : ∀ b, S ≤ b → b < E → w'.heap[b]? = w.heap[b]?) : Far S E w' u1 u2 u3 t := fun W' hW => h W' fun b i v h1 h2 hv => hW b i v h1 h2 (by
  unfold World.cell? at hv ⊢
  rw [hk b h1 h2]; exact hv)
/-- A type's ten cells are written. -/
def tyPut (w : World) (b : Nat) (U : TyD) (v7 v8 v9 : Value) : World :=
  (((((((((w.setCell ⟨b, 0, none⟩ (.int .u8 U.kind)).setCell ⟨b, 1, none⟩ (.int .i64 U.low)).setCell ⟨b, 2, none⟩ (.int .i64 U.high)).setCell ⟨b, 3, none⟩ (.bool U.branded)).setCell ⟨b, 4, none⟩ (.string U.brand)).setCell ⟨b, 5, none⟩ (.string U.opq)).setCell ⟨b, 6, none⟩ (.int .i64 U.super)).setCell ⟨b, 7, none⟩ v7).setCell ⟨b, 8, none⟩ v8).setCell ⟨b, 9, none⟩ v9
theorem tyPut_blk {w : World} {b : Nat} (U : TyD) (v7 v8 v9 : Value) (h : Blk w b zeroTyC 62) : Blk (tyPut w b U v7 v8 v9) b (tyC U v7 v8 v9) 62 :=
  (((((((((h.set 0 (.int .u8 U.kind)).set 1 (.int .i64 U.low)).set 2 (.int .i64 U.high)).set 3 (.bool U.branded)).set 4 (.string U.brand)).set 5 (.string U.opq)).set 6 (.int .i64 U.super)).set 7 v7).set 8 v8).set 9 v9
theorem tyPut_holds {w : World} {b : Nat} (U : TyD) (v7 v8 v9 : Value) : HoldsFrom (b + 1) w (tyPut w b U v7 v8 v9) :=
  ((((((((((HoldsFrom.refl (b + 1) w).set 0 (.int .u8 U.kind)).set 1 (.int .i64 U.low)).set 2 (.int .i64 U.high)).set 3 (.bool U.branded)).set 4 (.string U.brand)).set 5 (.string U.opq)).set 6 (.int .i64 U.super)).set 7 v7).set 8 v8).set 9 v9
theorem tyPut_heap {w : World} {b k : Nat} (U : TyD) (v7 v8 v9 : Value) (h : k ≠ b) : (tyPut w b U v7 v8 v9).heap[k]? = w.heap[k]? := by
  unfold tyPut
  have hs : ∀ (w : World) i v, (w.setCell ⟨b, i, none⟩ v).heap[k]? = w.heap[k]? := fun w i v => heap_setCell_other w ⟨b, i, none⟩ k v h
  rw [hs, hs, hs, hs, hs, hs, hs, hs, hs, hs]
theorem tyPut_below {w w0 : World} {b B : Nat} (U : TyD) (v7 v8 v9 : Value) (hB : B ≤ b) (h : Below B w0 w) : Below B w0 (tyPut w b U v7 v8 v9) := by
  have hs : ∀ (w : World) i v, Below B w0 w → Below B w0 (w.setCell ⟨b, i, none⟩ v) := fun w i v h => h.setCell (p := ⟨b, i, none⟩) hB v
  exact hs _ _ _ (hs _ _ _ (hs _ _ _ (hs _ _ _ (hs _ _ _ (hs _ _ _ (hs _ _ _ (hs _ _ _ (hs _ _ _ (hs _ _ _ h)))))))))
end Go.Proofs.YteaokkaidcbdlaaGreatDoor
/- renumbered (77): a copy of a type with other numbers. -/
namespace Go.Proofs.YteaokkaidcbdlaaGreatDoor
open Go Go.RowKit Go.Shelf
attribute [local go_sem] Oper.semAt_some
set_option maxRecDepth 100000 in
set_option maxHeartbeats 16000000 in
theorem renumbered_any (t : TyD) (v1 v2 v3 : Value) (ff : Nat) (caps : Array Value) (tf : Int → Int) (W : World) (ht : TyL W v1 v2 v3 t) (hp : t.parts.length ≤ 1000) (hm : t.meths.length ≤ 1000) (ho : t.overs.length ≤ 1000) (hma : ∀ m ∈ t.meths, m.args.length ≤ 1000 ∧ m.raises.length ≤ 1000)
    (htf : ∀ W', Below W.heap.size W W' → ∀ x ∈ refsOf t, Calls Tryz.prog ff (#[.int .i64 x] ++ caps) W' fun e w' => e = .returned (.int .i64 (tf x)) ∧ w' = W') (hff : ∀ args w, (callFunc ff args).run Tryz.prog w = .ok (.enter ff args) w) :
    Calls Tryz.prog 77 #[tyVal t v1 v2 v3, .func (.func ff) #[] caps] W fun e w' => ∃ u1 u2 u3, e = .returned (tyVal (mapTy tf t) u1 u2 u3) ∧ Far W.heap.size w'.heap.size w' u1 u2 u3 (mapTy tf t) ∧ Below W.heap.size W w' := by
  refine (callsIn_wide (n := 2)).1 ?_
  refine callsIn_of_wp_marks Tryz.func77 rfl trivial ?_ rfl
  obtain ⟨o1, c1, rfl⟩ := ht.parts.form
  obtain ⟨o2, c2, rfl⟩ := ht.meths.form
  obtain ⟨o3, c3, rfl⟩ := ht.overs.form
  unfold tyVal
  simp only [Tryz.ntmps77, List.size_toArray, List.length_cons, List.length_nil, Nat.reduceAdd, Nat.reduceSub, Array.replicate_succ, Array.replicate_zero, List.push_toArray, List.append_toArray, List.nil_append, List.cons_append]
  have HTF := hide htf
  clear htf
  gi_wp2
  have hb0 : Below W.heap.size W (((W.alloc (.cells #[.int .u8 t.kind, .int .i64 t.low, .int .i64 t.high, .bool t.branded, .string t.brand, .string t.opq, .int .i64 t.super, .slice o1 t.parts.length c1, .slice o2 t.meths.length c2, .slice o3 t.overs.length c3] 62)).alloc (.cells #[.func (.func ff) #[] caps] 94)).alloc (.cells zeroTyC.toArray 62)) := (((Below.refl _ _).alloc (Nat.le_refl _) _).alloc (by simp) _).alloc (by simp; omega) _
  have bt0 : Blk (((W.alloc (.cells #[.int .u8 t.kind, .int .i64 t.low, .int .i64 t.high, .bool t.branded, .string t.brand, .string t.opq, .int .i64 t.super, .slice o1 t.parts.length c1, .slice o2 t.meths.length c2, .slice o3 t.overs.length c3] 62)).alloc (.cells #[.func (.func ff) #[] caps] 94)).alloc (.cells zeroTyC.toArray 62)) W.heap.size (tyC t (.slice o1 t.parts.length c1) (.slice o2 t.meths.length c2) (.slice o3 t.overs.length c3)) 62 := ((Blk.new W (tyC t (.slice o1 t.parts.length c1) (.slice o2 t.meths.length c2) (.slice o3 t.overs.length c3)) 62).alloc _).alloc _
  have bf0 : Boxed (((W.alloc (.cells #[.int .u8 t.kind, .int .i64 t.low, .int .i64 t.high, .bool t.branded, .string t.brand, .string t.opq, .int .i64 t.super, .slice o1 t.parts.length c1, .slice o2 t.meths.length c2, .slice o3 t.overs.length c3] 62)).alloc (.cells #[.func (.func ff) #[] caps] 94)).alloc (.cells zeroTyC.toArray 62)) (W.heap.size + 1) 94 (.func (.func ff) #[] caps) := by
    have := (Boxed.new (W.alloc (.cells #[.int .u8 t.kind, .int .i64 t.low, .int .i64 t.high, .bool t.branded, .string t.brand, .string t.opq, .int .i64 t.super, .slice o1 t.parts.length c1, .slice o2 t.meths.length c2, .slice o3 t.overs.length c3] 62)) 94 (.func (.func ff) #[] caps)).alloc (.cells zeroTyC.toArray 62)
    rwa [World.size_alloc] at this
  have br0 : Blk (((W.alloc (.cells #[.int .u8 t.kind, .int .i64 t.low, .int .i64 t.high, .bool t.branded, .string t.brand, .string t.opq, .int .i64 t.super, .slice o1 t.parts.length c1, .slice o2 t.meths.length c2, .slice o3 t.overs.length c3] 62)).alloc (.cells #[.func (.func ff) #[] caps] 94)).alloc (.cells zeroTyC.toArray 62)) (W.heap.size + 2) zeroTyC 62 := by
    have := Blk.new ((W.alloc (.cells #[.int .u8 t.kind, .int .i64 t.low, .int .i64 t.high, .bool t.branded, .string t.brand, .string t.opq, .int .i64 t.super, .slice o1 t.parts.length c1, .slice o2 t.meths.length c2, .slice o3 t.overs.length c3] 62)).alloc (.cells #[.func (.func ff) #[] caps] 94)) zeroTyC 62
    simpa using this
  have hs0 : W.heap.size + 3 ≤ ((((W.alloc (.cells #[.int .u8 t.kind, .int .i64 t.low, .int .i64 t.high, .bool t.branded, .string t.brand, .string t.opq, .int .i64 t.super, .slice o1 t.parts.length c1, .slice o2 t.meths.length c2, .slice o3 t.overs.length c3] 62)).alloc (.cells #[.func (.func ff) #[] caps] 94)).alloc (.cells zeroTyC.toArray 62))).heap.size := by simp
  change Fence.wide.fn 119 ∧ CallsIn Fence.wide 1 Tryz.prog 119 _ (((W.alloc (.cells #[.int .u8 t.kind, .int .i64 t.low, .int .i64 t.high, .bool t.branded, .string t.brand, .string t.opq, .int .i64 t.super, .slice o1 t.parts.length c1, .slice o2 t.meths.length c2, .slice o3 t.overs.length c3] 62)).alloc (.cells #[.func (.func ff) #[] caps] 94)).alloc (.cells zeroTyC.toArray 62)) _
  generalize (((W.alloc (.cells #[.int .u8 t.kind, .int .i64 t.low, .int .i64 t.high, .bool t.branded, .string t.brand, .string t.opq, .int .i64 t.super, .slice o1 t.parts.length c1, .slice o2 t.meths.length c2, .slice o3 t.overs.length c3] 62)).alloc (.cells #[.func (.func ff) #[] caps] 94)).alloc (.cells zeroTyC.toArray 62)) = W0 at hb0 bt0 bf0 br0 hs0 ⊢
  refine ⟨trivial, ?_⟩
  refine (callsIn_wide.2 (clone_parts _ t.parts _ (ht.parts.mono fun _ _ _ _ => PartAt.go (.below hb0)) (by omega))).mono ?_
  rintro e w1 ⟨vp, rfl, r1, hb1⟩
  obtain ⟨op, cp, rfl⟩ := row_form r1
  have bt1 := bt0.below hb1 bt0.lt
  have bf1 : Boxed w1 _ 94 _ := (hb1.block _ bf0.lt).trans bf0
  have br1 := br0.below hb1 br0.lt
  have hbw1 := hb0.trans (hb1.mono hb0.size)
  have c17 := bt1.cell 7
  have z17 := bt1.frozen 7
  have c19 := bt1.cell 9
  simp only [tyC, List.getElem?_cons_zero, List.getElem?_cons_succ] at c17 c19
  gi_wp2
  have bt2 := bt1.set 7 (.slice op t.parts.length cp)
  change Blk _ _ (tyC t (.slice op t.parts.length cp) (.slice o2 t.meths.length c2) (.slice o3 t.overs.length c3)) _ at bt2
  have bf2 := box_otherN bf1 (show W.heap.size + 1 ≠ W.heap.size by omega) 7 (.slice op t.parts.length cp)
  have br2 := br1.other 7 (.slice op t.parts.length cp) (show W.heap.size + 2 ≠ W.heap.size by omega)
  have r12 := row_setB r1 (show W.heap.size < W0.heap.size by omega) 7 (.slice op t.parts.length cp)
  have hbw2 := hbw1.setCell (p := ⟨W.heap.size, 7, none⟩) (Nat.le_refl _) (.slice op t.parts.length cp)
  have hsz2 : W0.heap.size ≤ (w1.setCell ⟨W.heap.size, 7, none⟩ (.slice op t.parts.length cp)).heap.size := by simp; exact hb1.size
  generalize w1.setCell ⟨W.heap.size, 7, none⟩ (.slice op t.parts.length cp) = w2 at bt2 bf2 br2 r12 hbw2 hsz2 ⊢
  clear bt1 bf1 br1 r1 hb1 hbw1 c17 z17 c19
  refine ⟨trivial, ?_⟩
  refine (callsIn_wide.2 (clone_overs _ t.overs _ (ht.overs.mono fun _ _ _ _ => OverAt.go (.below hbw2)) (by omega))).mono ?_
  rintro e w3 ⟨vo, rfl, r3, hb3⟩
  obtain ⟨oo, co, rfl⟩ := row_form r3
  have bt3 := bt2.below hb3 bt2.lt
  have bf3 : Boxed w3 _ 94 _ := (hb3.block _ bf2.lt).trans bf2
  have br3 := br2.below hb3 br2.lt
  have r13 := Row.below r12 hb3
  have hbw3 := hbw2.trans (hb3.mono hbw2.size)
  have c39 := bt3.cell 9
  have z39 := bt3.frozen 9
  have c38 := bt3.cell 8
  simp only [tyC, List.getElem?_cons_zero, List.getElem?_cons_succ] at c39 c38
  gi_wp2
  have bt4 := bt3.set 9 (.slice oo t.overs.length co)
  change Blk _ _ (tyC t (.slice op t.parts.length cp) (.slice o2 t.meths.length c2) (.slice oo t.overs.length co)) _ at bt4
  have bf4 := box_otherN bf3 (show W.heap.size + 1 ≠ W.heap.size by omega) 9 (.slice oo t.overs.length co)
  have br4 := br3.other 9 (.slice oo t.overs.length co) (show W.heap.size + 2 ≠ W.heap.size by omega)
  have r14 := row_setB r13 (show W.heap.size < W0.heap.size by omega) 9 (.slice oo t.overs.length co)
  have r34 := row_setB r3 (show W.heap.size < w2.heap.size by omega) 9 (.slice oo t.overs.length co)
  have hbw4 := hbw3.setCell (p := ⟨W.heap.size, 9, none⟩) (Nat.le_refl _) (.slice oo t.overs.length co)
  have hsz4 : W0.heap.size ≤ (w3.setCell ⟨W.heap.size, 9, none⟩ (.slice oo t.overs.length co)).heap.size := by simp; have := hb3.size; omega
  generalize w3.setCell ⟨W.heap.size, 9, none⟩ (.slice oo t.overs.length co) = w4 at bt4 bf4 br4 r14 r34 hbw4 hsz4 ⊢
  clear bt3 bf3 br3 r3 r13 hb3 hbw3 c39 z39 c38 bt2 bf2 br2 r12 hbw2
  refine ⟨trivial, ?_⟩
  refine (callsIn_wide.2 (clone_meths _ t.meths W _ (.below hbw4) ht.meths (by omega))).mono ?_
  rintro e w5 ⟨vm, M, rfl, hM, hMV, r5, hb5⟩
  obtain ⟨om, cm, rfl⟩ := row_form r5
  have bt5 := bt4.below hb5 bt4.lt
  have bf5 : Boxed w5 _ 94 _ := (hb5.block _ bf4.lt).trans bf4
  have br5 := br4.below hb5 br4.lt
  have r15 := Row.below r14 hb5
  have r35 := Row.below r34 hb5
  have hbw5 := hbw4.trans (hb5.mono hbw4.size)
  have c58 := bt5.cell 8
  have z58 := bt5.frozen 8
  simp only [tyC, List.getElem?_cons_zero, List.getElem?_cons_succ] at c58
  gi_wp2
  have bt6 := bt5.set 8 (.slice om t.meths.length cm)
  change Blk _ _ (tyC t (.slice op t.parts.length cp) (.slice om t.meths.length cm) (.slice oo t.overs.length co)) _ at bt6
  have hRN : RN W (w5.setCell ⟨W.heap.size, 8, none⟩ (.slice om t.meths.length cm)) t (.func (.func ff) #[] caps) W0.heap.size (.slice op t.parts.length cp) (.slice om t.meths.length cm) (.slice oo t.overs.length co) M 0 := by
    refine ⟨hbw5.setCell (p := ⟨W.heap.size, 8, none⟩) (Nat.le_refl _) _, hs0, bt6, box_otherN bf5 (by omega) 8 _, br5.other 8 _ (by omega), row_setB r15 (by omega) 8 _, Row.mono (row_setB r35 (by omega) 8 _) (by omega), Row.mono (row_setB r5 (by omega) 8 _) (by omega), hM, fun j h hj => by omega, fun j h _ => hMV _ (List.getElem_mem h), fun j k h hj hk => by omega⟩
  generalize w5.setCell ⟨W.heap.size, 8, none⟩ (.slice om t.meths.length cm) = w6 at hRN bt6 ⊢
  generalize W0.heap.size = N at hRN
  clear bt5 bf5 br5 r15 r35 r5 hb5 hbw5 c58 z58 bt4 bf4 br4 r14 r34 hbw4 hsz4 bt0 bf0 br0 hs0 hb0 bt6 hM hMV hsz2
  have hml : t.meths.length ≤ 1000 := hm
  gi_loopw [23] (fun i wr => ∃ (q : Nat) (X : List MV), q ≤ t.meths.length ∧ i = .int .i64 q ∧ RN W wr t (.func (.func ff) #[] caps) N (.slice op t.parts.length cp) (.slice om t.meths.length cm) (.slice oo t.overs.length co) X q) (fun i _ => t.meths.length - (intOf i).toNat)
  case atStart => exact ⟨0, M, Nat.zero_le _, rfl, hRN⟩
  case round =>
    clear hRN
    obtain ⟨q, X, hq, rfl, hR⟩ := hrel
    have hXl : X.length = t.meths.length := by rw [← hR.xm]; simp
    by_cases hlt : q < t.meths.length
    · have hlt' : (q : Int) < t.meths.length := by omega
      obtain ⟨mb, rfl⟩ := row_some hR.rm (by omega)
      have hqX : q < X.length := by omega
      have hmem : X[q].1 ∈ t.meths := by rw [← hR.xm]; exact List.mem_map_of_mem (List.getElem_mem hqX)
      obtain ⟨ha1, ha2⟩ := hma _ hmem
      have hold := hR.old q hqX (Nat.le_refl _)
      have cb8 := hR.b.cell 8
      simp only [tyC, List.getElem?_cons_zero, List.getElem?_cons_succ] at cb8
      have c1m : wr.cell? ⟨mb, q * 5 + 1, none⟩ = some X[q].2.1 := by
        rw [World.ownsRow.cellAt hR.rm (q * 5 + 1) (by omega)]
        unfold mvCells; rw [flat_get (sz := 5) (fun _ => rfl) X q 1 hqX (by omega)]; rfl
      have HC1 := hide (clone_ints X[q].2.1 X[q].1.args wr (hold.args.mono fun _ _ _ _ => IntAt.go (.below hR.bel)) (by omega))
      have hform1 := hold.args.form
      have hform2 := hold.raises.form
      have HSTEP := hide (fun (w1 w3 : World) (n1 n3 : Value) (hb1 : Below wr.heap.size wr w1) r1 hb3 r3 => RN.step (w1 := w1) (w3 := w3) (v1 := n1) (v3 := n3) hR hqX hb1 r1 hb3 r3)
      gi_wp2
      refine ⟨trivial, ?_⟩
      refine (callsIn_wide.2 (unhide HC1)).mono ?_
      rintro e w1 ⟨n1, rfl, r1, hb1⟩
      obtain ⟨on1, cn1, rfl⟩ := row_form r1
      have rm1 := Row.below hR.rm hb1
      have hb1W := hR.bel.trans (hb1.mono hR.bel.size)
      obtain ⟨hmN, cs1, hm1⟩ := row_block rm1
      have c1w := Holds.below hb1 _ _ c1m
      have z1w : w1.frozen? ⟨mb, q * 5 + 1, none⟩ = false := by simp [World.frozen?, hm1]
      have rm2 := row_setN rm1 (q * 5 + 1) (.slice on1 X[q].1.args.length cn1)
      rw [mv_set1 X q hqX] at rm2
      have hqs : q < (X.set q (X[q].1, (.slice on1 X[q].1.args.length cn1), X[q].2.2)).length := by simpa using hqX
      have c3m : (w1.setCell ⟨mb, q * 5 + 1, none⟩ (.slice on1 X[q].1.args.length cn1)).cell? ⟨mb, q * 5 + 1 + 2, none⟩ = some X[q].2.2 := by
        rw [show q * 5 + 1 + 2 = q * 5 + 3 by omega, World.ownsRow.cellAt rm2 (q * 5 + 3) (by omega)]
        unfold mvCells
        rw [flat_get (sz := 5) (fun _ => rfl) _ q 3 hqs (by omega)]
        simp [mvC]
      have hb2W : Below W.heap.size W (w1.setCell ⟨mb, q * 5 + 1, none⟩ (.slice on1 X[q].1.args.length cn1)) := hb1W.setCell (p := ⟨mb, q * 5 + 1, none⟩) (show W.heap.size ≤ mb by have := hR.hN; omega) (.slice on1 X[q].1.args.length cn1)
      have HC2 := hide (clone_strs X[q].2.2 X[q].1.raises (w1.setCell ⟨mb, q * 5 + 1, none⟩ (.slice on1 X[q].1.args.length cn1)) (hold.raises.mono fun _ _ _ _ => StrAt.go (.below hb2W)) (by omega))
      clear HC1
      gi_wp2
      refine ⟨trivial, ?_⟩
      refine (callsIn_wide.2 (unhide HC2)).mono ?_
      rintro e w3 ⟨n3, rfl, r3, hb3⟩
      obtain ⟨on3, cn3, rfl⟩ := row_form r3
      have rm3 := Row.below rm2 hb3
      obtain ⟨_, cs3, hm3⟩ := row_block rm3
      have c3w : w3.cell? ⟨mb, q * 5 + 1 + 2, none⟩ = some X[q].2.2 := Holds.below hb3 _ _ c3m
      have z3w : w3.frozen? ⟨mb, q * 5 + 1 + 2, none⟩ = false := by simp [World.frozen?, hm3]
      have hfin := unhide HSTEP w1 w3 _ _ hb1 r1 hb3 r3
      clear HC2 HSTEP
      gi_wp2
      go_roundw
      case rel => exact ⟨q + 1, _, by omega, by go_num, hfin⟩
      case measure => simp [intOf]; omega
    · obtain rfl : q = t.meths.length := by omega
      have HPL := hide (fun w => places_any ⟨W.heap.size, 0, none⟩ w)
      gi_wp2_with (refine ⟨trivial, ?_⟩; gi_at_call 116; refine (callsIn_wide.2 (unhide HPL _)).mono ?_; rintro e w5 ⟨rfl, rfl⟩)
      have hI0 := hR.start tf (.pointer (some ⟨W.heap.size, 0, none⟩))
      have hnd := hR.nodup
      clear HPL
      have hw5 : (wr.alloc (.cells #[.pointer (some ⟨W.heap.size, 0, none⟩)] 126)).heap.size = wr.heap.size + 1 := by simp
      generalize wr.alloc (.cells #[.pointer (some ⟨W.heap.size, 0, none⟩)] 126) = w5 at hI0 hw5 ⊢
      have hbsz := hR.bel.size
      have HW5 := Lib.hid hw5
      clear hw5
      have HND := Lib.hid hnd
      clear hnd
      refine wpIn_rangeGives (gf := 168) (lb := #[.pointer (some ⟨wr.heap.size, 0, none⟩)]) (fun x : Addr => #[.pointer (some x)]) (allL W t op om X) (by simp [go_sem]) (enters_of Tryz.func168 (by kernel_rfl) rfl) (fun _ => rfl)
        (IN W wr tf (allL W t op om X) wr.heap.size (.pointer (some ⟨W.heap.size, 0, none⟩)) (.func (.func ff) #[] caps))
        hI0 ?it ?ia ?ip ?a1 ?assign ?body ?done
      case it =>
        intro l J hJI hY W' h0
        have hXl : X.length = t.meths.length := by rw [← hR.xm]; simp
        have := places_in l wr.heap.size W.heap.size 0 t.kind op t.parts.length cp om cm (X.map sigOf) (by omega) (by simp; omega)
          (fun s hs => by
            obtain ⟨i, hi, rfl⟩ := List.mem_iff_getElem.1 hs
            have hi' : i < X.length := by simpa using hi
            have hmem : X[i].1 ∈ t.meths := by rw [← hR.xm]; exact List.mem_map_of_mem (List.getElem_mem hi')
            obtain ⟨o, c, _, e2, e3⟩ := hR.sig hi'
            rw [List.getElem_map, e2]
            exact ⟨by have := (hma _ hmem).1; show X[i].1.args.length ≤ _; omega, fun h0 => by obtain ⟨ab, e4, _⟩ := e3 h0; exact ⟨ab, 0, e4⟩⟩)
          (fun h0 => by obtain ⟨g, e⟩ := row_some hR.rp h0; exact ⟨g, 0, e⟩)
          (fun h0 => by obtain ⟨g, e⟩ := row_some hR.rm (by simpa [hXl] using h0); exact ⟨g, 0, e⟩)
          J (fun p W1 h => ⟨(hJI p W1 h).cb.cell, by have := hR.reads (hJI p W1 h); simpa [hXl] using this⟩)
          (fun m h p W1 hj mb moff e => hR.sigs (hJI p W1 hj) h e)
          (fun m h j W1 _ hj mb moff e => hR.ress h (hJI _ W1 hj) e)
          hY W' h0
        exact this
      case ia =>
        rintro pre W' o' h
        exact h.below ((Below.refl _ _).alloc (Nat.le_refl _) _)
      case ip =>
        rintro pre W' l o1 o' h hl ho hoc
        exact h.put o' ho hoc (by have := HW5.out; omega)
      case assign =>
        intro l x W' K hK
        gi_wp2
        exact hK
      case body =>
        rintro l pre x W1 hpx hI
        have hin : x ∈ allL W t op om X := hpx.subset (by simp)
        obtain ⟨v, hv, hvr⟩ := hR.val hin
        have hxp : x ∉ pre := by
          intro e
          have := HND.out.sublist hpx.sublist
          rw [List.nodup_append] at this
          exact this.2.2 _ e _ (List.mem_singleton.2 rfl) rfl
        have hx1 := hI.cell hxp hv
        have hnv : newV wr tf x = .int .i64 (tf v) := by unfold newV valI; rw [hv]
        obtain ⟨hbx, _, _, _, hsp, _⟩ := hR.tag hin
        obtain ⟨hx2, hx3, hx4⟩ := hR.apart hin
        have c3 := hI.f.cell
        have zx := (hI.fz x hin).2.1
        have hmore := fun nn => (hI.below (W2 := W1.drewN nn) (below_drewN' (Below.refl _ _) nn)).more hpx (by rw [setAll_other _ _ hxp, hv]; rfl) hbx hsp (by omega) hx3 hx4
        rw [hnv] at hmore
        have HM := hide hmore
        have HC := hide (fun w1 (hb : ∃ n, w1 = W1.drewN n) => unhide HTF w1 (by obtain ⟨n, rfl⟩ := hb; exact below_drewN' hI.bel n) v hvr)
        have hmx : Tryz.prog.follows .mixedOrders = true := by kernel_rfl
        clear hmore hnv hI hR hma hin hvr hv hpx hxp hbsz hbx hx2 hx3 hx4
        gi_wp2
        refine tail_round 7 hmx (by kernel_rfl) (by kernel_rfl) (by rintro ⟨a, w, h⟩; exact absurd h.1 (by simp)) ?_
        simp only [List.take_succ_cons, List.take_zero, List.drop_succ_cons, List.drop_zero]
        repeat (go_big_quiet_step (fail))
        go_big_quiet_want
        go_big_quiet_op
        refine ⟨.int .i64 (tf v), fun nn => (unhide HC (W1.drewN nn) ⟨nn, rfl⟩).mono ?_, ?_⟩
        · rintro e w2 ⟨rfl, rfl⟩
          exact ⟨rfl, nn, rfl⟩
        go_big_quiet_on
        repeat (go_big_quiet_step (fail))
        refine wpQuiet_nil ?_
        rintro _ ⟨nd, rfl⟩
        have hq1 : (W1.drewN nd).cell? x = some (.int .i64 v) := by simpa using hx1
        have hq2 : (W1.drewN nd).frozen? x = false := by simpa using zx
        have hq3 := unhide HM nd
        generalize hWn : W1.drewN nd = W2 at hq1 hq2 hq3 ⊢
        have hkf : KeepsFrom w5.heap.size W1 (W2.setCell x (.int .i64 (tf v))) := by
          rw [← hWn]; exact (keepsFrom_below (below_drewN' (Below.refl _ _) nd)).trans ((KeepsOthers.setCell _ _ _).from _)
        clear hWn
        go_wp2
      case done =>
        rintro W6 hI hK6
        have hcs := hR.cells (tf := tf) (W' := W6) (fun i v h => hI.hold _ v h)
        have hRD := hide (fun (W' : World) (h : HoldsFrom (W.heap.size + 3) W6 W') => hR.done (tf := tf) (W' := W') (fun b i hb v hv => h b i hb v (hI.hold _ v hv)))
        have hNn := hR.hN
        have hbt6 : W6.heap[W.heap.size]? = some (.cells (tyC (mapTy tf t) (.slice op t.parts.length cp) (.slice om t.meths.length cm) (.slice oo t.overs.length co)).toArray 62 (0, 0)) := by
          obtain ⟨cs, h1, h2⟩ := hI.t
          rw [← row_eq h1 (by rw [h2]; rfl) hcs]; exact h1
        have hr6 : W6.heap[W.heap.size + 2]? = some (.cells zeroTyC.toArray 62 (0, 0)) := hI.r
        have hbl6 := hI.bel
        generalize hU : mapTy tf t = U at hRD hcs hbt6
        have d0 : W6.cell? ⟨W.heap.size, 0, none⟩ = some (.int .u8 U.kind) := hcs 0 _ rfl
        have d1 : W6.cell? ⟨W.heap.size, 1, none⟩ = some (.int .i64 U.low) := hcs 1 _ rfl
        have d2 : W6.cell? ⟨W.heap.size, 2, none⟩ = some (.int .i64 U.high) := hcs 2 _ rfl
        have d3 : W6.cell? ⟨W.heap.size, 3, none⟩ = some (.bool U.branded) := hcs 3 _ rfl
        have d4 : W6.cell? ⟨W.heap.size, 4, none⟩ = some (.string U.brand) := hcs 4 _ rfl
        have d5 : W6.cell? ⟨W.heap.size, 5, none⟩ = some (.string U.opq) := hcs 5 _ rfl
        have d6 : W6.cell? ⟨W.heap.size, 6, none⟩ = some (.int .i64 U.super) := hcs 6 _ rfl
        have d7 : W6.cell? ⟨W.heap.size, 7, none⟩ = some (.slice op t.parts.length cp) := hcs 7 _ rfl
        have d8 : W6.cell? ⟨W.heap.size, 8, none⟩ = some (.slice om t.meths.length cm) := hcs 8 _ rfl
        have d9 : W6.cell? ⟨W.heap.size, 9, none⟩ = some (.slice oo t.overs.length co) := hcs 9 _ rfl
        have hw2 : W.heap.size + 2 < wr.heap.size := by
          have h2 := hR.r.lt
          exact h2
        have hr7 : Blk W6 (W.heap.size + 1 + 1) zeroTyC 62 := hI.r
        have zr := hr7.frozen
        have f0 := hr7.cell 0
        have f1 := hr7.cell 1
        have f2 := hr7.cell 2
        have f3 := hr7.cell 3
        have f4 := hr7.cell 4
        have f5 := hr7.cell 5
        have f6 := hr7.cell 6
        have f7 := hr7.cell 7
        have f8 := hr7.cell 8
        have f9 := hr7.cell 9
        simp only [zeroTyC, List.getElem?_cons_zero, List.getElem?_cons_succ] at f0 f1 f2 f3 f4 f5 f6 f7 f8 f9
        have HR7 := hide hr7
        clear hcs hI hR hI0 hr7 hbt6 hr6
        gi_wp2
        have hb7 := tyPut_blk U (.slice op t.parts.length cp) (.slice om t.meths.length cm) (.slice oo t.overs.length co) (unhide HR7)
        have hh7 := tyPut_holds (w := W6) (b := W.heap.size + 2) U (.slice op t.parts.length cp) (.slice om t.meths.length cm) (.slice oo t.overs.length co)
        have hl7 := tyPut_below U (.slice op t.parts.length cp) (.slice om t.meths.length cm) (.slice oo t.overs.length co) (show W.heap.size ≤ W.heap.size + 2 by omega) hbl6
        have hk7 := (tyPut_heap (w := W6) (b := W.heap.size + 2) (k := w5.heap.size) U (.slice op t.parts.length cp) (.slice om t.meths.length cm) (.slice oo t.overs.length co) (by have := HW5.out; omega)).trans hK6
        refine (show bodyPostM Fence.wide 2 Tryz.prog Tryz.f77 _ Exit.ret _ (tyPut W6 (W.heap.size + 2) U (.slice op t.parts.length cp) (.slice om t.meths.length cm) (.slice oo t.overs.length co)) from ?_)
        change Blk (tyPut W6 (W.heap.size + 2) U (.slice op t.parts.length cp) (.slice om t.meths.length cm) (.slice oo t.overs.length co)) (W.heap.size + 2) _ 62 at hb7
        generalize tyPut W6 (W.heap.size + 2) U (.slice op t.parts.length cp) (.slice om t.meths.length cm) (.slice oo t.overs.length co) = W7 at hb7 hh7 hl7 hk7 ⊢
        refine ⟨by simp, .inl ⟨_, _, rfl, run_takeDeferred hk7, ?_⟩⟩
        have hbp : (W7.putObj w5.heap.size (.deferred none)).heap[W.heap.size + 2]? = some (.cells (tyC U (.slice op t.parts.length cp) (.slice om t.meths.length cm) (.slice oo t.overs.length co)).toArray 62 (0, 0)) := (World.putObj_heap_other (by have := HW5.out; omega)).trans hb7
        refine ⟨_, results_cell_row rfl _ _ (W.heap.size + 2) 62 _ (0, 0) _ rfl hbp Tryz.underlying62 rfl (by kernel_rfl), .slice op t.parts.length cp, .slice om t.meths.length cm, .slice oo t.overs.length co, by rw [hU]; rfl, ?_, ?_⟩
        · rw [hU]
          intro W'' hW''
          refine unhide hRD _ (fun b i hb v hv => ?_)
          have h8 := holds_put (.deferred none) hk7 rfl _ _ (hh7 b i hb v hv)
          exact hW'' b i v (by omega) (block_lt_of_cell h8) h8
        · exact hl7.grown (grownBy_putObj' W7 _ _) hl7.size (fun j e => by cases e; have := HW5.out; omega)
end Go.Proofs.YteaokkaidcbdlaaGreatDoor
