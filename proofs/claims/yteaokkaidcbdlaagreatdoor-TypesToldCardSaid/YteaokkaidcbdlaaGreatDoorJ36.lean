/- Part 36 of 53: the texts Nc, Ne, Nf, Ng, one behind the other. -/
import Derived.Test.YteaokkaidcbdlaaGreatDoorJ34
import Derived.Test.YteaokkaidcbdlaaGreatDoorJ35
import Derived.Tactics
import Derived.Tactics2
import Derived.WalkKit
import Derived.LoopTactic
import Derived.Outline
import Derived.Lib.Hide
import Derived.Handy
import Derived.KernelRfl
import Derived.Deep.LoopGhost
import Derived.CallsIn
import Derived.Deep.QuietTactic
import Derived.BigQuiet
import Derived.Deep.Draws
import Derived.WalkSpells
import Derived.Lib.Walk
import Derived.Lib.Strings
import Derived.Maps.OwnOps
import Derived.Maps.OwnSet
import Derived.Deep.RegionWith
import Derived.StillTailTactics
import Derived.WalkMore
import Derived.RangeFuncNested
import Derived.RangeFuncBound
import Derived.RangeFuncCalls
import Derived.RangeFuncLeaves
import Derived.RangeFuncBox
import Derived.Shelf.Abstract
import Derived.OwnWalkIn
import Derived.TacticsInMore
import Derived.LoopNIn
import Derived.LoopIn
import Derived.RecoverIn
import Derived.Maps.AppendAt
import Derived.RegionTactic
import Derived.ChangeAlike
import Derived.OwnWalk
import Derived.Deep.AppendLies
import Derived.Deep.DeepCutAuto
import Derived.Deep.RegionLaw
import Derived.Deep.RegionHeld3
import Derived.Laws.EntriesVeiled
namespace Go.Proofs.YteaokkaidcbdlaaGreatDoor
open Go Go.RowKit Go.Shelf
attribute [local go_sem] Oper.semAt_some
def zeroTyC : List Value := [.int .u8 0, .int .i64 0, .int .i64 0, .bool false, .string ⟨#[]⟩, .string ⟨#[]⟩, .int .i64 0, .slice none 0 0, .slice none 0 0, .slice none 0 0]
structure RN (W wr : World) (t : TyD) (fv : Value) (N : Nat) (vp vm vo : Value) (X : List MV) (i : Nat) : Prop where
  bel : Below W.heap.size W wr
  hN : W.heap.size + 3 ≤ N
  b : Blk wr W.heap.size (tyC t vp vm vo) 62
  f : Boxed wr (W.heap.size + 1) 94 fv
  r : Blk wr (W.heap.size + 2) zeroTyC 62
  rp : wr.ownsRow N 93 2 vp t.parts.length (partCells t.parts)
  ro : wr.ownsRow N 116 2 vo t.overs.length (overCells t.overs)
  rm : wr.ownsRow N 74 5 vm t.meths.length (mvCells X)
  xm : X.map (·.1) = t.meths
  own : ∀ j (h : j < X.length), j < i → wr.ownsRow N 3 1 X[j].2.1 X[j].1.args.length (X[j].1.args.map (.int .i64)) ∧ wr.ownsRow N 9 1 X[j].2.2 X[j].1.raises.length (X[j].1.raises.map .string)
  old : ∀ j (h : j < X.length), i ≤ j → MethV W X[j].2.1 X[j].2.2 X[j].1
  dis : ∀ j k (h : k < X.length) (hj : j < k), k < i → ∀ g, X[j].2.1.ownBlock = some g → X[k].2.1.ownBlock ≠ some g
theorem row_setB {w : World} {base b : Nat} {e : TypeId} {sz n : Nat} {v : Value} {xs : List Value} (h : w.ownsRow base e sz v n xs) (hb : b < base) (i : Nat) (u : Value) : (w.setCell ⟨b, i, none⟩ u).ownsRow base e sz v n xs := by
  refine h.kept (grownBy_setN w b i u) (.inr ?_)
  intro e'; have := (h.lt b e').1; omega
theorem box_otherN {W : World} {B B' : Nat} {t : TypeId} {v : Value} (h : Boxed W B t v) (hne : B ≠ B') (i : Nat) (u : Value) : Boxed (W.setCell ⟨B', i, none⟩ u) B t v := h.kept (grownBy_setN W B' i u) (fun e => hne (by cases e; rfl))
theorem row_setT {w : World} {base b : Nat} {e t : TypeId} {sz n : Nat} {v : Value} {xs : List Value} {cs : Array Value} {f : Nat × Nat} (h : w.ownsRow base e sz v n xs) (hb : w.heap[b]? = some (.cells cs t f)) (hne : t ≠ e) (i : Nat) (u : Value) : (w.setCell ⟨b, i, none⟩ u).ownsRow base e sz v n xs := by
  refine h.kept (grownBy_setN w b i u) (.inr ?_)
  intro e'
  rcases h.2 with ⟨rfl, _⟩ | ⟨g, cap, cur, rfl, _, hgb, _⟩
  · simp [Value.ownBlock] at e'
  · simp only [Value.ownBlock, Option.some.injEq] at e'
    subst e'
    rw [hb] at hgb; cases hgb; exact hne rfl
theorem row_block {w : World} {base : Nat} {e : TypeId} {sz g n c : Nat} {xs : List Value} (h : w.ownsRow base e sz (.slice (some ⟨g, 0, none⟩) n c) n xs) : base ≤ g ∧ ∃ cs, w.heap[g]? = some (.cells cs e (0, 0)) := by
  rcases h.2 with ⟨h0, _⟩ | ⟨g', cap, cur, h0, hg, hgb, _⟩
  · cases h0
  · cases h0; exact ⟨hg, cur, hgb⟩
theorem mv_set1 (X : List MV) (q : Nat) (hq : q < X.length) (v : Value) : (mvCells X).set (q * 5 + 1) v = mvCells (X.set q (X[q].1, v, X[q].2.2)) := flat_set (f := mvC) (sz := 5) (fun _ => rfl) X q 1 hq (by omega) rfl
theorem mv_set3 (X : List MV) (q : Nat) (hq : q < X.length) (v : Value) : (mvCells X).set (q * 5 + 3) v = mvCells (X.set q (X[q].1, X[q].2.1, v)) := flat_set (f := mvC) (sz := 5) (fun _ => rfl) X q 3 hq (by omega) rfl
theorem RN.step {W wr w1 w3 : World} {t : TyD} {fv vp vo v1 v3 : Value} {N mb cm : Nat} {X : List MV} {q : Nat} (h : RN W wr t fv N vp (.slice (some ⟨mb, 0, none⟩) t.meths.length cm) vo X q) (hq : q < X.length) (hb1 : Below wr.heap.size wr w1)
    (r1 : w1.ownsRow wr.heap.size 3 1 v1 X[q].1.args.length (X[q].1.args.map (.int .i64))) (hb3 : Below (w1.setCell ⟨mb, q * 5 + 1, none⟩ v1).heap.size (w1.setCell ⟨mb, q * 5 + 1, none⟩ v1) w3)
    (r3 : w3.ownsRow (w1.setCell ⟨mb, q * 5 + 1, none⟩ v1).heap.size 9 1 v3 X[q].1.raises.length (X[q].1.raises.map .string)) :
    RN W (w3.setCell ⟨mb, q * 5 + 3, none⟩ v3) t fv N vp (.slice (some ⟨mb, 0, none⟩) t.meths.length cm) vo (X.set q (X[q].1, v1, v3)) (q + 1) := by
  have hN := h.hN
  have hNs : N ≤ wr.heap.size := by
    obtain ⟨h1, cs, h2⟩ := row_block h.rm
    have := (Array.getElem?_eq_some_iff.1 h2).1
    omega
  have hXl : X.length = t.meths.length := by rw [← h.xm]; simp
  have rm1 := Row.below h.rm hb1
  obtain ⟨hmb, cs1, hm1⟩ := row_block rm1
  have rm2 := row_setN rm1 (q * 5 + 1) v1
  rw [mv_set1 X q hq] at rm2
  obtain ⟨_, cs2, hm2⟩ := row_block rm2
  have hs1 : (w1.setCell ⟨mb, q * 5 + 1, none⟩ v1).heap.size = w1.heap.size := by simp
  have rm3 := Row.below rm2 hb3
  obtain ⟨_, cs3, hm3⟩ := row_block rm3
  have hqs : q < (X.set q (X[q].1, v1, X[q].2.2)).length := by simpa using hq
  have rm4 := row_setN rm3 (q * 5 + 3) v3
  rw [mv_set3 _ q hqs] at rm4
  have hXX : (X.set q (X[q].1, v1, X[q].2.2)).set q ((X.set q (X[q].1, v1, X[q].2.2))[q].1, (X.set q (X[q].1, v1, X[q].2.2))[q].2.1, v3) = X.set q (X[q].1, v1, v3) := by simp
  rw [hXX] at rm4
  have hsz1 := hb1.size
  have hsz3 := hb3.size
  have rowk : ∀ {e : TypeId} {sz n base : Nat} {v : Value} {xs : List Value}, e ≠ 74 → wr.ownsRow base e sz v n xs → (w3.setCell ⟨mb, q * 5 + 3, none⟩ v3).ownsRow base e sz v n xs := fun he hr =>
    row_setT (Row.below (row_setT (Row.below hr hb1) hm1 (Ne.symm he) (q * 5 + 1) v1) hb3) hm3 (Ne.symm he) (q * 5 + 3) v3
  have hbel : Below W.heap.size W (w3.setCell ⟨mb, q * 5 + 3, none⟩ v3) := by
    have h1 := (h.bel.trans (hb1.mono h.bel.size)).setCell (p := ⟨mb, q * 5 + 1, none⟩) (show W.heap.size ≤ mb by omega) v1
    exact (h1.trans (hb3.mono h1.size)).setCell (p := ⟨mb, q * 5 + 3, none⟩) (show W.heap.size ≤ mb by omega) v3
  have blk : ∀ {b : Nat} {cs : List Value} {ty : TypeId}, b < mb → b < wr.heap.size → Blk wr b cs ty → Blk (w3.setCell ⟨mb, q * 5 + 3, none⟩ v3) b cs ty := fun hlt hlw hb =>
    ((((hb.below hb1 hlw).other (q * 5 + 1) v1 (by omega)).below hb3 (by omega)).other (q * 5 + 3) v3 (by omega))
  refine ⟨hbel, hN, blk (by omega) (by omega) h.b, ?_, blk (by omega) (by omega) h.r, rowk (by decide) h.rp, rowk (by decide) h.ro, rm4, ?_, ?_, ?_, ?_⟩
  · have hf1 : Boxed w1 (W.heap.size + 1) 94 fv := (hb1.block _ h.f.lt).trans h.f
    have hf2 := box_otherN hf1 (show W.heap.size + 1 ≠ mb by omega) (q * 5 + 1) v1
    have hf3 : Boxed w3 (W.heap.size + 1) 94 fv := (hb3.block _ hf2.lt).trans hf2
    exact box_otherN hf3 (show W.heap.size + 1 ≠ mb by omega) (q * 5 + 3) v3
  · rw [List.map_set, ← h.xm]
    have : (X.map (·.1))[q]'(by simpa using hq) = X[q].1 := by simp
    conv => lhs; rw [← this]
    exact List.set_getElem_self _
  · intro j hj hjq
    by_cases e : j = q
    · subst e
      simp only [List.getElem_set_self]
      refine ⟨?_, ?_⟩
      · exact Row.mono (row_setT (Row.below (row_setT r1 hm1 (by decide) (j * 5 + 1) v1) hb3) hm3 (by decide) (j * 5 + 3) v3) hNs
      · exact Row.mono (row_setT r3 hm3 (by decide) (j * 5 + 3) v3) (by omega)
    · have hj' : j < X.length := by simpa using hj
      have hg : (X.set q (X[q].1, v1, v3))[j] = X[j] := List.getElem_set_ne (Ne.symm e) _
      rw [hg]
      obtain ⟨a1, a2⟩ := h.own j hj' (by omega)
      exact ⟨rowk (by decide) a1, rowk (by decide) a2⟩
  · intro j hj hjq
    have hj' : j < X.length := by simpa using hj
    have hg : (X.set q (X[q].1, v1, v3))[j] = X[j] := List.getElem_set_ne (by omega) _
    rw [hg]
    exact h.old j hj' (by omega)
  · intro j k hk hjk hkq g hg hgk
    have hk' : k < X.length := by simpa using hk
    have hgj : (X.set q (X[q].1, v1, v3))[j]'(by omega) = X[j]'(by omega) := List.getElem_set_ne (by omega) _
    rw [hgj] at hg
    by_cases e : k = q
    · subst e
      simp only [List.getElem_set_self] at hgk
      have h1 := (h.own j (by omega) (by omega)).1.lt g hg
      have h2 := (r1.lt g hgk).1
      omega
    · have hg2 : (X.set q (X[q].1, v1, v3))[k] = X[k] := List.getElem_set_ne (Ne.symm e) _
      rw [hg2] at hgk
      exact h.dis j k hk' hjk (by omega) g hg hgk
end Go.Proofs.YteaokkaidcbdlaaGreatDoor

namespace Go.Proofs.YteaokkaidcbdlaaGreatDoor
open Go Go.RowKit Go.Shelf
def sigOf (x : MV) : SigD := match x.2.1 with | .slice o n c => ⟨o, n, c, x.1.result⟩ | _ => ⟨none, 0, 0, x.1.result⟩
section
variable {W wr : World} {t : TyD} {fv vo : Value} {N cp cm : Nat} {op om : Option Addr} {X : List MV}
def allL (W : World) (t : TyD) (op om : Option Addr) (X : List MV) : List Addr := placesL (supB t.kind) W.heap.size 0 op t.parts.length om (X.map sigOf)
theorem RN.sig (h : RN W wr t fv N (.slice op t.parts.length cp) (.slice om t.meths.length cm) vo X t.meths.length) {i : Nat} (hi : i < X.length) :
    ∃ o c, X[i].2.1 = .slice o X[i].1.args.length c ∧ sigOf X[i] = ⟨o, X[i].1.args.length, c, X[i].1.result⟩ ∧ (0 < X[i].1.args.length → ∃ ab, o = some ⟨ab, 0, none⟩ ∧ N ≤ ab ∧ ∃ cs, wr.heap[ab]? = some (.cells cs 3 (0, 0))) := by
  have hXl : X.length = t.meths.length := by rw [← h.xm]; simp
  obtain ⟨r1, _⟩ := h.own i hi (by omega)
  obtain ⟨o, c, e⟩ := row_form r1
  refine ⟨o, c, e, by unfold sigOf; rw [e], fun h0 => ?_⟩
  rw [e] at r1
  obtain ⟨g, rfl⟩ := row_some r1 h0
  obtain ⟨h2, cs, h3⟩ := row_block r1
  exact ⟨g, rfl, h2, cs, h3⟩
theorem RN.tag (h : RN W wr t fv N (.slice op t.parts.length cp) (.slice om t.meths.length cm) vo X t.meths.length) {a : Addr} (ha : a ∈ allL W t op om X) :
    W.heap.size ≤ a.block ∧ ∃ cs ty, wr.heap[a.block]? = some (.cells cs ty (0, 0)) ∧ a.spot = none ∧ ((ty = 62 ∧ a.off = 6 ∧ supB t.kind = true) ∨ (ty = 93 ∧ a.off % 2 = 1) ∨ ty = 3 ∨ (ty = 74 ∧ ∃ i, ∃ hi : i < X.length, a.off = i * 5 + 2 ∧ X[i].1.result ≠ -1)) := by
  have hXl : X.length = t.meths.length := by rw [← h.xm]; simp
  have hN := h.hN
  unfold allL placesL at ha
  rw [List.mem_append, List.mem_append] at ha
  rcases ha with ha | ha | ha
  · unfold superAts at ha
    split at ha
    · rename_i hs
      simp at ha; subst ha
      exact ⟨Nat.le_refl _, _, 62, h.b, rfl, .inl ⟨rfl, rfl, hs⟩⟩
    · simp at ha
  · by_cases h0 : 0 < t.parts.length
    · obtain ⟨g, rfl⟩ := row_some h.rp h0
      obtain ⟨h2, cs, h3⟩ := row_block h.rp
      obtain ⟨i, hi, rfl⟩ := mem_partAts.1 ha
      exact ⟨by show W.heap.size ≤ g; omega, cs, 93, h3, rfl, .inr (.inl ⟨rfl, by show (0 + i * 2 + 1) % 2 = 1; omega⟩)⟩
    · rw [show t.parts.length = 0 by omega, partAts_zero] at ha; simp at ha
  · by_cases h0 : 0 < t.meths.length
    · obtain ⟨mb, rfl⟩ := row_some h.rm h0
      obtain ⟨h2, cs, h3⟩ := row_block h.rm
      obtain ⟨i, hi, _, hr⟩ := mem_methAts (fun s hs h0 => by
        obtain ⟨j, hj, rfl⟩ := List.mem_iff_getElem.1 hs
        obtain ⟨o, c, _, e2, e3⟩ := h.sig (i := j) (by simpa using hj)
        rw [List.getElem_map, e2] at h0 ⊢
        obtain ⟨ab, e4, _⟩ := e3 h0
        exact ⟨ab, 0, e4⟩) _ (Nat.le_refl _) ha
      have hi' : i < X.length := by simpa using hi
      obtain ⟨o, c, _, e2, e3⟩ := h.sig hi'
      rw [List.getElem_map, e2] at hr
      rcases hr with ⟨ab, aoff, j, e1, hj, rfl⟩ | ⟨hr, rfl⟩
      · obtain ⟨ab', e4, h5, cs', h6⟩ := e3 (by show 0 < X[i].1.args.length; exact Nat.lt_of_le_of_lt (Nat.zero_le _) hj)
        simp only at e1
        rw [e4] at e1; cases e1
        exact ⟨by show W.heap.size ≤ ab; omega, cs', 3, h6, rfl, .inr (.inr (.inl rfl))⟩
      · exact ⟨by show W.heap.size ≤ mb; omega, cs, 74, h3, rfl, .inr (.inr (.inr ⟨rfl, i, hi', by show 0 + i * 5 + 1 + 1 = i * 5 + 2; omega, hr⟩))⟩
    · have : X = [] := List.eq_nil_of_length_eq_zero (by omega)
      subst this
      simp [methAts] at ha
theorem RN.nodup (h : RN W wr t fv N (.slice op t.parts.length cp) (.slice om t.meths.length cm) vo X t.meths.length) : (allL W t op om X).Nodup := by
  have hXl : X.length = t.meths.length := by rw [← h.xm]; simp
  have hN := h.hN
  have hparts : ∀ a ∈ partAts op t.parts.length, ∃ cs, wr.heap[a.block]? = some (.cells cs 93 (0, 0)) := by
    intro a ha
    by_cases h0 : 0 < t.parts.length
    · obtain ⟨g, rfl⟩ := row_some h.rp h0
      obtain ⟨h2, cs, h3⟩ := row_block h.rp
      obtain ⟨i, hi, rfl⟩ := mem_partAts.1 ha
      exact ⟨cs, h3⟩
    · rw [show t.parts.length = 0 by omega, partAts_zero] at ha; simp at ha
  have hmeths : ∀ a ∈ methAts om (X.map sigOf) (X.map sigOf).length, ∃ cs ty, wr.heap[a.block]? = some (.cells cs ty (0, 0)) ∧ (ty = 3 ∨ ty = 74) := by
    intro a ha
    by_cases h0 : 0 < t.meths.length
    · obtain ⟨mb, rfl⟩ := row_some h.rm h0
      obtain ⟨h2, cs, h3⟩ := row_block h.rm
      obtain ⟨i, hi, _, hr⟩ := mem_methAts (fun s hs h0 => by
        obtain ⟨j, hj, rfl⟩ := List.mem_iff_getElem.1 hs
        obtain ⟨o, c, _, e2, e3⟩ := h.sig (i := j) (by simpa using hj)
        rw [List.getElem_map, e2] at h0 ⊢
        obtain ⟨ab, e4, _⟩ := e3 h0
        exact ⟨ab, 0, e4⟩) _ (Nat.le_refl _) ha
      have hi' : i < X.length := by simpa using hi
      obtain ⟨o, c, _, e2, e3⟩ := h.sig hi'
      rw [List.getElem_map, e2] at hr
      rcases hr with ⟨ab, aoff, j, e1, hj, rfl⟩ | ⟨hr, rfl⟩
      · obtain ⟨ab', e4, h5, cs', h6⟩ := e3 (by show 0 < X[i].1.args.length; exact Nat.lt_of_le_of_lt (Nat.zero_le _) hj)
        simp only at e1
        rw [e4] at e1; cases e1
        exact ⟨cs', 3, h6, .inl rfl⟩
      · exact ⟨cs, 74, h3, .inr rfl⟩
    · have : X = [] := List.eq_nil_of_length_eq_zero (by omega)
      subst this
      simp [methAts] at ha
  unfold allL placesL
  rw [List.nodup_append, List.nodup_append]
  refine ⟨by unfold superAts; split <;> simp, ⟨?_, ?_, ?_⟩, ?_⟩
  · by_cases h0 : 0 < t.parts.length
    · obtain ⟨g, rfl⟩ := row_some h.rp h0
      exact partAts_nodup
    · rw [show t.parts.length = 0 by omega, partAts_zero]; simp
  · by_cases h0 : 0 < t.meths.length
    · obtain ⟨mb, rfl⟩ := row_some h.rm h0
      obtain ⟨h2, cs, h3⟩ := row_block h.rm
      refine methAts_nodup (fun s hs h0 => ?_) (fun i j hi hj hij ab aoff ab' aoff' hp1 hp2 e1 e2 => ?_) _ (Nat.le_refl _)
      · obtain ⟨j, hj, rfl⟩ := List.mem_iff_getElem.1 hs
        obtain ⟨o, c, _, e2, e3⟩ := h.sig (i := j) (by simpa using hj)
        rw [List.getElem_map, e2] at h0 ⊢
        obtain ⟨ab, e4, _, cs', h6⟩ := e3 h0
        refine ⟨ab, 0, e4, ?_⟩
        rintro rfl
        rw [h3] at h6; cases h6
      · have hi' : i < X.length := by simpa using hi
        have hj' : j < X.length := by simpa using hj
        obtain ⟨o, c, a1, a2, _⟩ := h.sig hi'
        obtain ⟨o', c', b1, b2, _⟩ := h.sig hj'
        rw [List.getElem_map, a2] at e1
        rw [List.getElem_map, b2] at e2
        simp only at e1 e2
        subst e1 e2
        rintro rfl
        exact h.dis i j hj' hij (by omega) ab (by rw [a1]; rfl) (by rw [b1]; rfl)
    · have : X = [] := List.eq_nil_of_length_eq_zero (by omega)
      subst this
      simp [methAts]
  · intro a ha b hb e
    subst e
    obtain ⟨cs, h1⟩ := hparts a ha
    obtain ⟨cs', ty, h2, h3⟩ := hmeths a hb
    rw [h1] at h2; cases h2
    rcases h3 with h3 | h3 <;> cases h3
  · intro a ha b hb e
    subst e
    unfold superAts at ha
    split at ha
    · simp at ha; subst ha
      have hbt : wr.heap[W.heap.size]? = some (.cells _ 62 (0, 0)) := h.b
      rw [List.mem_append] at hb
      rcases hb with hb | hb
      · obtain ⟨cs, h1⟩ := hparts _ hb
        rw [hbt] at h1; cases h1
      · obtain ⟨cs', ty, h2, h3⟩ := hmeths _ hb
        rw [hbt] at h2; cases h2
        rcases h3 with h3 | h3 <;> cases h3
    · simp at ha
end
end Go.Proofs.YteaokkaidcbdlaaGreatDoor

namespace Go.Proofs.YteaokkaidcbdlaaGreatDoor
open Go Go.RowKit Go.Shelf
section
variable {W wr : World} {t : TyD} {fv vo : Value} {N cp cm : Nat} {op om : Option Addr} {X : List MV}
theorem RN.out (h : RN W wr t fv N (.slice op t.parts.length cp) (.slice om t.meths.length cm) vo X t.meths.length) {b k : Nat} {cs : Array Value} {ty : TypeId} (hb : wr.heap[b]? = some (.cells cs ty (0, 0)))
    (h1 : ty = 62 → k = 6 → supB t.kind = false) (h2 : ty = 93 → k % 2 = 0) (h3 : ty ≠ 3) (h4 : ty = 74 → ∀ i (hi : i < X.length), k = i * 5 + 2 → X[i].1.result = -1) : (⟨b, k, none⟩ : Addr) ∉ allL W t op om X := by
  intro ha
  obtain ⟨_, cs', ty', e1, _, e2⟩ := h.tag ha
  simp only at e1 e2
  rw [hb] at e1; cases e1
  rcases e2 with ⟨e2, e3, e4⟩ | ⟨e2, e3⟩ | e2 | ⟨e2, i, hi, e3, e4⟩
  · rw [h1 e2 e3] at e4; cases e4
  · have := h2 e2; omega
  · exact h3 e2
  · exact e4 (h4 e2 i hi e3)
theorem RN.apart (h : RN W wr t fv N (.slice op t.parts.length cp) (.slice om t.meths.length cm) vo X t.meths.length) {a : Addr} (ha : a ∈ allL W t op om X) : a.block < wr.heap.size ∧ a.block ≠ W.heap.size + 1 ∧ a.block ≠ W.heap.size + 2 := by
  have hXl : X.length = t.meths.length := by rw [← h.xm]; simp
  obtain ⟨_, cs, ty, h1, _, h2⟩ := h.tag ha
  refine ⟨(Array.getElem?_eq_some_iff.1 h1).1, fun e => ?_, fun e => ?_⟩
  · have hf : wr.heap[W.heap.size + 1]? = some (.cells _ 94 (0, 0)) := h.f
    rw [e, hf] at h1; cases h1
    rcases h2 with ⟨h2, _⟩ | ⟨h2, _⟩ | h2 | ⟨h2, _⟩ <;> cases h2
  · rw [e] at h1
    unfold allL placesL at ha
    rw [List.mem_append, List.mem_append] at ha
    have hN := h.hN
    rcases ha with ha | ha | ha
    · unfold superAts at ha
      split at ha
      · simp at ha; subst ha; simp at e
      · simp at ha
    · by_cases h0 : 0 < t.parts.length
      · obtain ⟨g, rfl⟩ := row_some h.rp h0
        obtain ⟨h3, _⟩ := row_block h.rp
        obtain ⟨i, hi, rfl⟩ := mem_partAts.1 ha
        simp at e; omega
      · rw [show t.parts.length = 0 by omega, partAts_zero] at ha; simp at ha
    · by_cases h0 : 0 < t.meths.length
      · obtain ⟨mb, rfl⟩ := row_some h.rm h0
        obtain ⟨h3, _⟩ := row_block h.rm
        obtain ⟨i, hi, _, hr⟩ := mem_methAts (fun s hs h0 => by
          obtain ⟨j, hj, rfl⟩ := List.mem_iff_getElem.1 hs
          obtain ⟨o, c, _, e2, e3⟩ := h.sig (i := j) (by simpa using hj)
          rw [List.getElem_map, e2] at h0 ⊢
          obtain ⟨ab, e4, _⟩ := e3 h0
          exact ⟨ab, 0, e4⟩) _ (Nat.le_refl _) ha
        have hi' : i < X.length := by simpa using hi
        obtain ⟨o, c, _, e2, e3⟩ := h.sig hi'
        rw [List.getElem_map, e2] at hr
        rcases hr with ⟨ab, aoff, j, e4, hj, rfl⟩ | ⟨hr, rfl⟩
        · obtain ⟨ab', e5, h5, _⟩ := e3 (by show 0 < X[i].1.args.length; exact Nat.lt_of_le_of_lt (Nat.zero_le _) hj)
          simp only at e4
          rw [e5] at e4; cases e4
          simp at e; omega
        · simp at e; omega
      · have : X = [] := List.eq_nil_of_length_eq_zero (by omega)
        subst this
        simp [methAts] at ha
def HoldsFrom (k : Nat) (W W' : World) : Prop := ∀ b i, k ≤ b → ∀ v, W.cell? ⟨b, i, none⟩ = some v → W'.cell? ⟨b, i, none⟩ = some v
def newV (wr : World) (tf : Int → Int) (a : Addr) : Value := .int .i64 (tf (valI wr a))
theorem RN.keep (h : RN W wr t fv N (.slice op t.parts.length cp) (.slice om t.meths.length cm) vo X t.meths.length) {tf : Int → Int} {W' : World} {b k : Nat} {cs : Array Value} {ty : TypeId} (hH : ∀ v, (setAll (newV wr tf) wr (allL W t op om X)).cell? ⟨b, k, none⟩ = some v → W'.cell? ⟨b, k, none⟩ = some v) (hb : wr.heap[b]? = some (.cells cs ty (0, 0)))
    (h1 : ty = 62 → k = 6 → supB t.kind = false) (h2 : ty = 93 → k % 2 = 0) (h3 : ty ≠ 3) (h4 : ty = 74 → ∀ i (hi : i < X.length), k = i * 5 + 2 → X[i].1.result = -1) {v : Value} (hv : wr.cell? ⟨b, k, none⟩ = some v) : W'.cell? ⟨b, k, none⟩ = some v :=
  hH _ ((setAll_other _ _ (h.out hb h1 h2 h3 h4)).trans hv)
theorem RN.turn (h : RN W wr t fv N (.slice op t.parts.length cp) (.slice om t.meths.length cm) vo X t.meths.length) {tf : Int → Int} {W' : World} {a : Addr} (hH : ∀ v, (setAll (newV wr tf) wr (allL W t op om X)).cell? a = some v → W'.cell? a = some v) (ha : a ∈ allL W t op om X) {x : Int} (hx : wr.cell? a = some (.int .i64 x)) : W'.cell? a = some (.int .i64 (tf x)) := by
  refine hH _ ((setAll_in _ _ h.nodup ha (by rw [hx]; rfl)).trans ?_)
  unfold newV valI
  rw [hx]
theorem in_all_super (hs : supB t.kind = true) : (⟨W.heap.size, 6, none⟩ : Addr) ∈ allL W t op om X := by
  unfold allL placesL superAts
  rw [if_pos hs]; simp
theorem in_all_part {g : Nat} {i : Nat} (hi : i < t.parts.length) (ho : op = some ⟨g, 0, none⟩) : (⟨g, i * 2 + 1, none⟩ : Addr) ∈ allL W t op om X := by
  unfold allL placesL
  rw [List.mem_append, List.mem_append, ho]
  exact .inr (.inl (mem_partAts.2 ⟨i, hi, by simp⟩))
theorem in_all_meth {mb : Nat} {i : Nat} (hi : i < X.length) (ho : om = some ⟨mb, 0, none⟩) {a : Addr} (ha : a ∈ sigAts (sigOf X[i]).o (sigOf X[i]).n mb (i * 5 + 1) (sigOf X[i]).res) : a ∈ allL W t op om X := by
  unfold allL placesL
  rw [List.mem_append, List.mem_append, ho]
  refine .inr (.inr (in_methAts (i := i) (by simpa using hi) ?_))
  rw [List.getElem_map]
  simpa using ha
theorem cell_parts {w : World} {base g n cap : Nat} {l : List PartD} (h : w.ownsRow base 93 2 (.slice (some ⟨g, 0, none⟩) n cap) n (partCells l)) (hn : n = l.length) {i : Nat} (hi : i < l.length) : w.cell? ⟨g, i * 2, none⟩ = some (.string l[i].name) ∧ w.cell? ⟨g, i * 2 + 1, none⟩ = some (.int .i64 l[i].type) := by
  have e0 := World.ownsRow.cellAt h (i * 2) (by omega)
  have e1 := World.ownsRow.cellAt h (i * 2 + 1) (by omega)
  unfold partCells at e0 e1
  have f0 := flat_get (f := fun p : PartD => [Value.string p.name, .int .i64 p.type]) (sz := 2) (fun _ => rfl) l i 0 hi (by omega)
  rw [Nat.add_zero] at f0
  rw [f0] at e0
  rw [flat_get (sz := 2) (fun _ => rfl) l i 1 hi (by omega)] at e1
  exact ⟨e0, e1⟩
theorem cell_overs {w : World} {base g n cap : Nat} {l : List OverD} (h : w.ownsRow base 116 2 (.slice (some ⟨g, 0, none⟩) n cap) n (overCells l)) (hn : n = l.length) {i : Nat} (hi : i < l.length) : w.cell? ⟨g, i * 2, none⟩ = some (.string l[i].name) ∧ w.cell? ⟨g, i * 2 + 1, none⟩ = some (.string l[i].proc) := by
  have e0 := World.ownsRow.cellAt h (i * 2) (by omega)
  have e1 := World.ownsRow.cellAt h (i * 2 + 1) (by omega)
  unfold overCells at e0 e1
  have f0 := flat_get (f := fun p : OverD => [Value.string p.name, .string p.proc]) (sz := 2) (fun _ => rfl) l i 0 hi (by omega)
  rw [Nat.add_zero] at f0
  rw [f0] at e0
  rw [flat_get (sz := 2) (fun _ => rfl) l i 1 hi (by omega)] at e1
  exact ⟨e0, e1⟩
theorem cell_mv {w : World} {base g n cap : Nat} {l : List MV} (h : w.ownsRow base 74 5 (.slice (some ⟨g, 0, none⟩) n cap) n (mvCells l)) (hn : n = l.length) {i : Nat} (hi : i < l.length) {k : Nat} (hk : k < 5) : w.cell? ⟨g, i * 5 + k, none⟩ = (mvC l[i])[k]? := by
  have e1 := World.ownsRow.cellAt h (i * 5 + k) (by omega)
  unfold mvCells at e1
  rw [flat_get (sz := 5) (fun _ => rfl) l i k hi hk] at e1
  exact e1
theorem row_caps {w : World} {base : Nat} {e : TypeId} {sz n c : Nat} {o : Option Addr} {xs : List Value} (h : w.ownsRow base e sz (.slice o n c) n xs) : n ≤ c ∧ c ≤ maxLen := by
  rcases h.2 with ⟨h0, h1⟩ | ⟨g, cap, cur, h0, _, _, h2, h3, _⟩
  · cases h0; exact ⟨Nat.le_refl _, by decide⟩
  · cases h0; exact ⟨h2, h3⟩
theorem RN.done {co : Nat} {oo : Option Addr} (h : RN W wr t fv N (.slice op t.parts.length cp) (.slice om t.meths.length cm) (.slice oo t.overs.length co) X t.meths.length) {tf : Int → Int} {W' : World} (hH : HoldsFrom (W.heap.size + 3) (setAll (newV wr tf) wr (allL W t op om X)) W') :
    TyL W' (.slice op t.parts.length cp) (.slice om t.meths.length cm) (.slice oo t.overs.length co) (mapTy tf t) := by
  have hXl : X.length = t.meths.length := by rw [← h.xm]; simp
  have hNn := h.hN
  have hbt : wr.heap[W.heap.size]? = some (.cells _ 62 (0, 0)) := h.b
  refine ⟨?_, ?_, ?_⟩
  · obtain ⟨c1, c2⟩ := row_caps h.rp
    have hl : (mapTy tf t).parts.length = t.parts.length := by simp [mapTy]
    refine ⟨op, cp, by rw [hl], by rw [hl]; exact c1, c2, fun i x hx => ?_⟩
    obtain ⟨hi, rfl⟩ := List.getElem?_eq_some_iff.1 hx
    have hi' : i < t.parts.length := by omega
    obtain ⟨g, rfl⟩ := row_some h.rp (by omega)
    obtain ⟨h2, cs, h3⟩ := row_block h.rp
    obtain ⟨e0, e1⟩ := cell_parts h.rp rfl hi'
    refine ⟨g, 0, rfl, ?_, ?_⟩
    · rw [Nat.zero_add]
      have := h.keep (hH _ _ (by omega)) h3 (fun e => by cases e) (fun _ => by omega) (by decide) (fun e => by cases e) e0
      simpa [mapTy] using this
    · rw [Nat.zero_add]
      have := h.turn (hH _ _ (by omega)) (in_all_part hi' rfl) e1
      simpa [mapTy] using this
  · obtain ⟨c1, c2⟩ := row_caps h.rm
    have hl : (mapTy tf t).meths.length = t.meths.length := by simp [mapTy]
    refine ⟨om, cm, by rw [hl], by rw [hl]; exact c1, c2, fun i x hx => ?_⟩
    obtain ⟨hi, rfl⟩ := List.getElem?_eq_some_iff.1 hx
    have hi' : i < t.meths.length := by omega
    have hiX : i < X.length := by omega
    obtain ⟨mb, rfl⟩ := row_some h.rm (by omega)
    obtain ⟨h2, cs, h3⟩ := row_block h.rm
    have hxm : X[i].1 = t.meths[i] := by
      have : (X.map (·.1))[i]'(by simpa using hiX) = t.meths[i] := by simp [h.xm]
      simpa using this
    obtain ⟨o, c, s1, s2, s3⟩ := h.sig hiX
    obtain ⟨r1, r2⟩ := h.own i hiX (by omega)
    have k0 : ∀ k u, k < 5 → k ≠ 2 → (mvC X[i])[k]? = some u → W'.cell? ⟨mb, i * 5 + k, none⟩ = some u := fun k u hk hk2 hu =>
      h.keep (hH _ _ (by omega)) h3 (fun e => by cases e) (fun e => by cases e) (by decide) (fun _ j hj e => by omega) ((cell_mv h.rm hXl.symm hiX hk).trans hu)
    have hmm : (mapTy tf t).meths[i] = mapM tf X[i].1 := by simp [mapTy, hxm]
    rw [hmm]
    refine ⟨mb, 0, rfl, X[i].2.1, X[i].2.2, ⟨?_, ?_⟩, ?_, ?_, ?_, ?_, ?_⟩
    · rw [s1] at r1 ⊢
      obtain ⟨d1, d2⟩ := row_caps r1
      refine ⟨o, c, by simp [mapM], by simp [mapM]; exact d1, d2, fun j y hy => ?_⟩
      obtain ⟨hj, rfl⟩ := List.getElem?_eq_some_iff.1 hy
      have hj' : j < X[i].1.args.length := by simpa [mapM] using hj
      obtain ⟨ab, rfl, _, _⟩ := s3 (by omega)
      obtain ⟨g, e4, _, e5⟩ := row_cell r1 j hj'
      cases e4
      refine ⟨ab, 0, rfl, ?_⟩
      have hin : (⟨ab, j, none⟩ : Addr) ∈ allL W t op (some ⟨mb, 0, none⟩) X := in_all_meth hiX rfl (by
        rw [s2]
        have := in_sigAts_arg (s := ⟨some ⟨ab, 0, none⟩, X[i].1.args.length, c, X[i].1.result⟩) (b := mb) (k := i * 5 + 1) (ab := ab) (aoff := 0) (j := j) rfl hj'
        simpa using this)
      have := h.turn (hH _ _ (by omega)) hin e5
      unfold IntAt
      simpa [mapM] using this
    · obtain ⟨o', c', e'⟩ := row_form r2
      rw [e'] at r2 ⊢
      obtain ⟨d1, d2⟩ := row_caps r2
      refine ⟨o', c', rfl, d1, d2, fun j y hy => ?_⟩
      obtain ⟨hj, rfl⟩ := List.getElem?_eq_some_iff.1 hy
      have hj' : j < X[i].1.raises.length := hj
      obtain ⟨g, rfl⟩ := row_some r2 (by omega)
      obtain ⟨h2', cs', h3'⟩ := row_block r2
      have e5 : wr.cell? ⟨g, j, none⟩ = some (.string X[i].1.raises[j]) := by
        rw [Row1.cells r2 j hj']; simp [hj']
      refine ⟨g, 0, rfl, ?_⟩
      have := h.keep (hH _ _ (by omega)) h3' (fun e => by cases e) (fun e => by cases e) (by decide) (fun e => by cases e) e5
      unfold StrAt
      simpa [mapM] using this
    · have := k0 0 _ (by omega) (by omega) rfl
      simpa [mapM] using this
    · have := k0 1 _ (by omega) (by omega) rfl
      simpa [mapM] using this
    · have e2 : wr.cell? ⟨mb, i * 5 + 2, none⟩ = some (.int .i64 X[i].1.result) := cell_mv h.rm hXl.symm hiX (k := 2) (by omega)
      by_cases hr : X[i].1.result = -1
      · have := h.keep (hH _ _ (by omega)) h3 (fun e => by cases e) (fun e => by cases e) (by decide) (fun _ j hj e => by
          have : j = i := by omega
          subst this; exact hr) e2
        simpa [mapM, hr] using this
      · have hin : (⟨mb, i * 5 + 2, none⟩ : Addr) ∈ allL W t op (some ⟨mb, 0, none⟩) X := in_all_meth hiX rfl (by
          rw [s2]
          exact in_sigAts_res (s := ⟨o, X[i].1.args.length, c, X[i].1.result⟩) (b := mb) (k := i * 5 + 1) hr)
        have := h.turn (hH _ _ (by omega)) hin e2
        simpa [mapM, hr] using this
    · have := k0 3 _ (by omega) (by omega) rfl
      simpa [mapM] using this
    · have := k0 4 _ (by omega) (by omega) rfl
      simpa [mapM] using this
  · obtain ⟨c1, c2⟩ := row_caps h.ro
    refine ⟨oo, co, rfl, c1, c2, fun i x hx => ?_⟩
    obtain ⟨hi, rfl⟩ := List.getElem?_eq_some_iff.1 hx
    obtain ⟨g, rfl⟩ := row_some h.ro (by have : i < t.overs.length := hi; omega)
    obtain ⟨h2, cs, h3⟩ := row_block h.ro
    obtain ⟨e0, e1⟩ := cell_overs h.ro rfl hi
    refine ⟨g, 0, rfl, ?_, ?_⟩
    · rw [Nat.zero_add]
      exact h.keep (hH _ _ (by omega)) h3 (fun e => by cases e) (fun e => by cases e) (by decide) (fun e => by cases e) e0
    · rw [Nat.zero_add]
      exact h.keep (hH _ _ (by omega)) h3 (fun e => by cases e) (fun e => by cases e) (by decide) (fun e => by cases e) e1
theorem RN.cells {co : Nat} {oo : Option Addr} (h : RN W wr t fv N (.slice op t.parts.length cp) (.slice om t.meths.length cm) (.slice oo t.overs.length co) X t.meths.length) {tf : Int → Int} {W' : World} (hH : ∀ i v, (setAll (newV wr tf) wr (allL W t op om X)).cell? ⟨W.heap.size, i, none⟩ = some v → W'.cell? ⟨W.heap.size, i, none⟩ = some v) :
    ∀ k u, (tyC (mapTy tf t) (.slice op t.parts.length cp) (.slice om t.meths.length cm) (.slice oo t.overs.length co))[k]? = some u → W'.cell? ⟨W.heap.size, k, none⟩ = some u := by
  have hXl : X.length = t.meths.length := by rw [← h.xm]; simp
  have hNn := h.hN
  have hbt : wr.heap[W.heap.size]? = some (.cells _ 62 (0, 0)) := h.b
  · intro k u hk
    have hold := h.b.cell
    by_cases h6 : k = 6
    · subst h6
      simp [tyC] at hk
      subst hk
      by_cases hs : supB t.kind = true
      · have := h.turn (hH _) (in_all_super hs) (hold 6)
        simpa [mapTy, hs] using this
      · have hs' : supB t.kind = false := by simpa using hs
        have := h.keep (hH _) hbt (fun _ _ => hs') (fun e => by cases e) (by decide) (fun e => by cases e) (hold 6)
        simpa [mapTy, hs'] using this
    · refine h.keep (hH _) hbt (fun _ e => absurd e h6) (fun e => by cases e) (by decide) (fun e => by cases e) ((hold k).trans ?_)
      match k with
      | 0 => exact hk
      | 1 => exact hk
      | 2 => exact hk
      | 3 => exact hk
      | 4 => exact hk
      | 5 => exact hk
      | 6 => exact absurd rfl h6
      | 7 => exact hk
      | 8 => exact hk
      | 9 => exact hk
      | k + 10 => simp [tyC] at hk
end
end Go.Proofs.YteaokkaidcbdlaaGreatDoor

namespace Go.Proofs.YteaokkaidcbdlaaGreatDoor
open Go Go.RowKit Go.Shelf
attribute [local go_sem] Oper.semAt_some
theorem holds_put {W : World} {l : Nat} {o : Obj} (o' : Obj) (hl : W.heap[l]? = some o) (ho : o.isCells = false) : Holds W (W.putObj l o') := by
  intro a v hv
  have hne : a.block ≠ l := by
    intro e
    unfold World.cell? at hv
    rw [e, hl] at hv
    cases o <;> first | (cases ho; done) | (simp at hv; done)
  have h2 : (W.putObj l o').heap[a.block]? = W.heap[a.block]? := World.putObj_heap_other (by omega)
  unfold World.cell? at hv ⊢
  rw [h2]; exact hv
theorem frozen_block {W W' : World} {a : Addr} (h : W'.heap[a.block]? = W.heap[a.block]?) : W'.frozen? a = W.frozen? a := by
  unfold World.frozen?; rw [h]
structure IN (W wr : World) (tf : Int → Int) (L : List Addr) (cb : Nat) (pv fv : Value) (p : List Addr) (W' : World) : Prop where
  pre : p <+: L
  hold : Holds (setAll (newV wr tf) wr p) W'
  bel : Below W.heap.size W W'
  fz : ∀ a ∈ L, a.block < W'.heap.size ∧ W'.frozen? a = false ∧ ∃ cs ty, W'.heap[a.block]? = some (.cells cs ty (0, 0))
  cb : Boxed W' cb 126 pv
  f : Boxed W' (W.heap.size + 1) 94 fv
  r : Blk W' (W.heap.size + 2) zeroTyC 62
  t : ∃ cs, W'.heap[W.heap.size]? = some (.cells cs 62 (0, 0)) ∧ cs.size = 10
theorem IN.below {W wr W1 W2 : World} {tf : Int → Int} {L p : List Addr} {cb : Nat} {pv fv : Value} (h : IN W wr tf L cb pv fv p W1) (hb : Below W1.heap.size W1 W2) : IN W wr tf L cb pv fv p W2 :=
  ⟨h.pre, h.hold.trans (.below hb), h.bel.trans (hb.mono h.bel.size), fun a ha => by
    obtain ⟨h1, h2, cs, ty, h3⟩ := h.fz a ha
    exact ⟨Nat.lt_of_lt_of_le h1 hb.size, (frozen_block (hb.block _ h1)).trans h2, cs, ty, (hb.block _ h1).trans h3⟩, (hb.block _ h.cb.lt).trans h.cb, (hb.block _ h.f.lt).trans h.f, h.r.below hb h.r.lt, by
    obtain ⟨cs, h1, h2⟩ := h.t
    exact ⟨cs, (hb.block _ (Array.getElem?_eq_some_iff.1 h1).1).trans h1, h2⟩⟩
theorem IN.put {W wr W1 : World} {tf : Int → Int} {L p : List Addr} {cb : Nat} {pv fv : Value} (h : IN W wr tf L cb pv fv p W1) {l : Nat} {o : Obj} (o' : Obj) (hl : W1.heap[l]? = some o) (ho : o.isCells = false) (hlW : W.heap.size ≤ l) : IN W wr tf L cb pv fv p (W1.putObj l o') := by
  have hot : ∀ (b : Nat) (cs : Array Value) (t : TypeId) (f : Nat × Nat), W1.heap[b]? = some (.cells cs t f) → (W1.putObj l o').heap[b]? = some (.cells cs t f) := fun b cs t f hb => by
    have hne : b ≠ l := by rintro rfl; rw [hl] at hb; cases hb; cases ho
    exact (World.putObj_heap_other (by omega)).trans hb
  refine ⟨h.pre, h.hold.trans (holds_put o' hl ho), h.bel.grown (grownBy_putObj' W1 l o') h.bel.size (fun j e => by cases e; exact hlW), fun a ha => ?_, hot _ _ _ _ h.cb, hot _ _ _ _ h.f, hot _ _ _ _ h.r, by
    obtain ⟨cs, h1, h2⟩ := h.t
    exact ⟨cs, hot _ _ _ _ h1, h2⟩⟩
  obtain ⟨h1, h2, cs, ty, h3⟩ := h.fz a ha
  have h4 := hot _ _ _ _ h3
  exact ⟨(Array.getElem?_eq_some_iff.1 h4).1, (frozen_block (h4.trans h3.symm)).trans h2, cs, ty, h4⟩
theorem IN.more {W wr W1 : World} {tf : Int → Int} {L p : List Addr} {cb : Nat} {pv fv : Value} (h : IN W wr tf L cb pv fv p W1) {x : Addr} (hpx : p ++ [x] <+: L) (hs : ((setAll (newV wr tf) wr p).cell? x).isSome = true) (hbx : W.heap.size ≤ x.block) (hsp : x.spot = none)
    (hcb : x.block ≠ cb) (hf : x.block ≠ W.heap.size + 1) (hr : x.block ≠ W.heap.size + 2) : IN W wr tf L cb pv fv (p ++ [x]) (W1.setCell x (newV wr tf x)) := by
  obtain ⟨xb, xo, xs⟩ := x
  cases hsp
  have hbt : ∀ b, b ≠ xb → (W1.setCell ⟨xb, xo, none⟩ (newV wr tf ⟨xb, xo, none⟩)).heap[b]? = W1.heap[b]? := fun b hne => by
    show (W1.heap.modify xb _)[b]? = _
    rw [Array.getElem?_modify, if_neg (by omega)]
  refine ⟨hpx, by rw [setAll_snoc]; exact h.hold.set hs, h.bel.setCell (p := ⟨xb, xo, none⟩) hbx _, fun a ha => ?_, (hbt _ (fun e => hcb e.symm)).trans h.cb, (hbt _ (fun e => hf e.symm)).trans h.f, h.r.other xo _ (fun e => hr e.symm), ?ht⟩
  case ht =>
    obtain ⟨cs, h1, h2⟩ := h.t
    by_cases e : W.heap.size = xb
    · subst e
      refine ⟨cs.setIfInBounds xo (newV wr tf ⟨W.heap.size, xo, none⟩), ?_, by simpa using h2⟩
      show (W1.heap.modify W.heap.size _)[W.heap.size]? = _
      rw [Array.getElem?_modify, if_pos rfl, h1]; rfl
    · exact ⟨cs, (hbt _ e).trans h1, h2⟩
  obtain ⟨h1, h2, cs, ty, h3⟩ := h.fz a ha
  refine ⟨by simpa using h1, by rw [World.frozen?_setCell]; exact h2, ?_⟩
  by_cases e : a.block = xb
  · refine ⟨cs.setIfInBounds xo (newV wr tf ⟨xb, xo, none⟩), ty, ?_⟩
    rw [e] at h3 ⊢
    show (W1.heap.modify xb _)[xb]? = _
    rw [Array.getElem?_modify, if_pos rfl, h3]; rfl
  · exact ⟨cs, ty, (hbt _ e).trans h3⟩
theorem IN.cell {W wr W1 : World} {tf : Int → Int} {L p : List Addr} {cb : Nat} {pv fv : Value} (h : IN W wr tf L cb pv fv p W1) {a : Addr} {v : Value} (ha : a ∉ p) (hv : wr.cell? a = some v) : W1.cell? a = some v :=
  h.hold _ _ ((setAll_other _ _ ha).trans hv)
section
variable {W wr : World} {t : TyD} {fv vo : Value} {N cp cm : Nat} {op om : Option Addr} {X : List MV}
theorem RN.val (h : RN W wr t fv N (.slice op t.parts.length cp) (.slice om t.meths.length cm) vo X t.meths.length) {a : Addr} (ha : a ∈ allL W t op om X) : ∃ v : Int, wr.cell? a = some (.int .i64 v) ∧ v ∈ refsOf t := by
  have hXl : X.length = t.meths.length := by rw [← h.xm]; simp
  unfold allL placesL at ha
  unfold refsOf
  rw [List.mem_append, List.mem_append] at ha
  rcases ha with ha | ha | ha
  · unfold superAts at ha
    split at ha
    · rename_i hs
      simp at ha; subst ha
      exact ⟨t.super, h.b.cell 6, by simp [hs]⟩
    · simp at ha
  · by_cases h0 : 0 < t.parts.length
    · obtain ⟨g, rfl⟩ := row_some h.rp h0
      obtain ⟨i, hi, rfl⟩ := mem_partAts.1 ha
      have := (cell_parts h.rp rfl hi).2
      refine ⟨t.parts[i].type, by simpa using this, ?_⟩
      rw [List.mem_append, List.mem_append]
      exact .inr (.inl (List.mem_map_of_mem (List.getElem_mem hi)))
    · rw [show t.parts.length = 0 by omega, partAts_zero] at ha; simp at ha
  · by_cases h0 : 0 < t.meths.length
    · obtain ⟨mb, rfl⟩ := row_some h.rm h0
      obtain ⟨i, hi, _, hr⟩ := mem_methAts (fun s hs h0 => by
        obtain ⟨j, hj, rfl⟩ := List.mem_iff_getElem.1 hs
        obtain ⟨o, c, _, e2, e3⟩ := h.sig (i := j) (by simpa using hj)
        rw [List.getElem_map, e2] at h0 ⊢
        obtain ⟨ab, e4, _⟩ := e3 h0
        exact ⟨ab, 0, e4⟩) _ (Nat.le_refl _) ha
      have hi' : i < X.length := by simpa using hi
      have hmem : X[i].1 ∈ t.meths := by rw [← h.xm]; exact List.mem_map_of_mem (List.getElem_mem hi')
      obtain ⟨o, c, e1, e2, e3⟩ := h.sig hi'
      obtain ⟨r1, _⟩ := h.own i hi' (by omega)
      rw [List.getElem_map, e2] at hr
      have hsub : ∀ v ∈ sigRefs X[i].1, v ∈ (if supB t.kind then [t.super] else []) ++ (t.parts.map (·.type) ++ t.meths.flatMap sigRefs) := fun v hv => by
        rw [List.mem_append, List.mem_append]
        exact .inr (.inr (List.mem_flatMap.2 ⟨_, hmem, hv⟩))
      rcases hr with ⟨ab, aoff, j, e4, hj, rfl⟩ | ⟨hr, rfl⟩
      · simp only at e4 hj
        subst e4
        rw [e1] at r1
        obtain ⟨g, e5, _, e6⟩ := row_cell r1 j hj
        cases e5
        refine ⟨X[i].1.args[j], by simpa using e6, hsub _ ?_⟩
        unfold sigRefs
        rw [List.mem_append]
        exact .inl (List.getElem_mem hj)
      · refine ⟨X[i].1.result, ?_, hsub _ ?_⟩
        · have := cell_mv h.rm hXl.symm hi' (k := 2) (by omega)
          rw [show 0 + i * 5 + 1 + 1 = i * 5 + 2 by omega]
          exact this
        · unfold sigRefs
          rw [List.mem_append, if_neg hr]
          exact .inr (by simp)
    · have : X = [] := List.eq_nil_of_length_eq_zero (by omega)
      subst this
      simp [methAts] at ha
theorem RN.start (h : RN W wr t fv N (.slice op t.parts.length cp) (.slice om t.meths.length cm) vo X t.meths.length) (tf : Int → Int) (pv : Value) : IN W wr tf (allL W t op om X) wr.heap.size pv fv [] (wr.alloc (.cells #[pv] 126)) := by
  have hb : Below wr.heap.size wr (wr.alloc (.cells #[pv] 126)) := (Below.refl _ _).alloc (Nat.le_refl _) _
  refine ⟨List.nil_prefix, .below hb, h.bel.trans (hb.mono h.bel.size), fun a ha => ?_, Boxed.new _ _ _, h.f.alloc _, h.r.alloc _, ?_⟩
  · obtain ⟨_, cs, ty, h1, _⟩ := h.tag ha
    have hlt := (Array.getElem?_eq_some_iff.1 h1).1
    have h2 := (hb.block _ hlt).trans h1
    exact ⟨(Array.getElem?_eq_some_iff.1 h2).1, by simp [World.frozen?, h2], cs, ty, h2⟩
  · have h1 : wr.heap[W.heap.size]? = some (.cells _ 62 (0, 0)) := h.b
    exact ⟨_, (hb.block _ (Array.getElem?_eq_some_iff.1 h1).1).trans h1, rfl⟩
theorem sig_cell (h : RN W wr t fv N (.slice op t.parts.length cp) (.slice om t.meths.length cm) vo X t.meths.length) {m : Nat} (hm : m < X.length) {mb moff : Nat} (e : om = some ⟨mb, moff, none⟩) : moff = 0 ∧ wr.cell? ⟨mb, m * 5 + 1, none⟩ = some (.slice (sigOf X[m]).o (sigOf X[m]).n (sigOf X[m]).cap) ∧ wr.cell? ⟨mb, m * 5 + 2, none⟩ = some (.int .i64 X[m].1.result) ∧ ∃ cs, wr.heap[mb]? = some (.cells cs 74 (0, 0)) := by
  have hXl : X.length = t.meths.length := by rw [← h.xm]; simp
  obtain ⟨g, e2⟩ := row_some h.rm (by omega)
  rw [e2] at e; cases e
  subst e2
  obtain ⟨_, cs, h3⟩ := row_block h.rm
  obtain ⟨o, c, s1, s2, _⟩ := h.sig hm
  refine ⟨rfl, ?_, cell_mv h.rm hXl.symm hm (k := 2) (by omega), cs, h3⟩
  have := cell_mv h.rm hXl.symm hm (k := 1) (by omega)
  rw [s2]
  rw [this]
  simp [mvC, s1]
theorem RN.reads (h : RN W wr t fv N (.slice op t.parts.length cp) (.slice om t.meths.length cm) vo X t.meths.length) {tf : Int → Int} {cb : Nat} {pv : Value} {p : List Addr} {W1 : World} (hI : IN W wr tf (allL W t op om X) cb pv fv p W1) :
    W1.cell? ⟨W.heap.size, 0, none⟩ = some (.int .u8 t.kind) ∧ W1.cell? ⟨W.heap.size, 0 + 7, none⟩ = some (.slice op t.parts.length cp) ∧ W1.cell? ⟨W.heap.size, 0 + 8, none⟩ = some (.slice om t.meths.length cm) := by
  have hbt : wr.heap[W.heap.size]? = some (.cells _ 62 (0, 0)) := h.b
  have hk : ∀ k, k ≠ 6 → (⟨W.heap.size, k, none⟩ : Addr) ∉ p := fun k hk e => h.out hbt (fun _ e => absurd e hk) (fun e => by cases e) (by decide) (fun e => by cases e) (hI.pre.subset e)
  exact ⟨hI.cell (hk 0 (by decide)) (h.b.cell 0), hI.cell (hk 7 (by decide)) (h.b.cell 7), hI.cell (hk 8 (by decide)) (h.b.cell 8)⟩
theorem RN.sigs (h : RN W wr t fv N (.slice op t.parts.length cp) (.slice om t.meths.length cm) vo X t.meths.length) {tf : Int → Int} {cb : Nat} {pv : Value} {p : List Addr} {W1 : World} (hI : IN W wr tf (allL W t op om X) cb pv fv p W1) {m : Nat} (hm : m < (X.map sigOf).length) {mb moff : Nat} (e : om = some ⟨mb, moff, none⟩) :
    W1.cell? ⟨mb, moff + m * 5 + 1, none⟩ = some (.slice (X.map sigOf)[m].o (X.map sigOf)[m].n (X.map sigOf)[m].cap) := by
  have hm' : m < X.length := by simpa using hm
  obtain ⟨rfl, h1, _, cs, h3⟩ := sig_cell h hm' e
  rw [List.getElem_map, Nat.zero_add]
  exact hI.cell (fun e => h.out h3 (fun e => by cases e) (fun e => by cases e) (by decide) (fun _ i hi e => by omega) (hI.pre.subset e)) h1
theorem RN.ress (h : RN W wr t fv N (.slice op t.parts.length cp) (.slice om t.meths.length cm) vo X t.meths.length) {tf : Int → Int} {cb : Nat} {pv : Value} {W1 : World} {m j : Nat} (hm : m < (X.map sigOf).length)
    (hI : IN W wr tf (allL W t op om X) cb pv fv ((superAts (supB t.kind) W.heap.size 0 ++ (partAts op t.parts.length ++ methAts om (X.map sigOf) m)) ++ (argAts (X.map sigOf)[m].o (X.map sigOf)[m].n).take j) W1) {mb moff : Nat} (e : om = some ⟨mb, moff, none⟩) :
    W1.cell? ⟨mb, moff + m * 5 + 1 + 1, none⟩ = some (.int .i64 (X.map sigOf)[m].res) := by
  have hm' : m < X.length := by simpa using hm
  obtain ⟨rfl, _, h2, cs, h3⟩ := sig_cell h hm' e
  obtain ⟨o, c, s1, s2, _⟩ := h.sig hm'
  have hres : (X.map sigOf)[m].res = X[m].1.result := by rw [List.getElem_map, s2]
  rw [hres]
  have hcell : (⟨mb, 0 + m * 5 + 1 + 1, none⟩ : Addr) = ⟨mb, m * 5 + 2, none⟩ := by rw [Nat.zero_add]
  rw [hcell]
  refine hI.cell (fun hin => ?_) h2
  by_cases hr : X[m].1.result = -1
  · refine h.out h3 (fun e => by cases e) (fun e => by cases e) (by decide) (fun _ i hi e => ?_) (hI.pre.subset hin)
    obtain rfl : m = i := by omega
    exact hr
  · have hnd := h.nodup
    subst e
    have hpre : (superAts (supB t.kind) W.heap.size 0 ++ (partAts op t.parts.length ++ methAts (some ⟨mb, 0, none⟩) (X.map sigOf) m)) ++ (argAts (X.map sigOf)[m].o (X.map sigOf)[m].n ++ [⟨mb, m * 5 + 2, none⟩]) <+: allL W t op (some ⟨mb, 0, none⟩) X := by
      unfold allL placesL
      have h4 := methAts_succ mb 0 (X.map sigOf) m hm
      have h5 := methAts_pre (some ⟨mb, 0, none⟩) (X.map sigOf) (show m + 1 ≤ (X.map sigOf).length by omega)
      rw [h4] at h5
      have h6 : sigAts (X.map sigOf)[m].o (X.map sigOf)[m].n mb (0 + m * 5 + 1) (X.map sigOf)[m].res = argAts (X.map sigOf)[m].o (X.map sigOf)[m].n ++ [⟨mb, m * 5 + 2, none⟩] := by
        unfold sigAts
        rw [hres, if_neg hr, Nat.zero_add]
      rw [h6] at h5
      rw [List.append_assoc, List.append_assoc]
      exact pre_of (pre_of h5)
    have hnd2 := hnd.sublist hpre.sublist
    rw [← List.append_assoc, List.nodup_append] at hnd2
    refine hnd2.2.2 _ ?_ _ (List.mem_singleton.2 rfl) rfl
    rw [List.mem_append] at hin ⊢
    rcases hin with hin | hin
    · exact .inl hin
    · exact .inr (List.mem_of_mem_take hin)
theorem row_eq {w : World} {b : Nat} {cs : Array Value} {ty : TypeId} {l : List Value} (h : w.heap[b]? = some (.cells cs ty (0, 0))) (hs : cs.size = l.length) (hc : ∀ k u, l[k]? = some u → w.cell? ⟨b, k, none⟩ = some u) : cs = l.toArray := by
  apply Array.ext
  · simpa using hs
  · intro i h1 h2
    have h3 : i < l.length := by simpa using h2
    have h4 := hc i l[i] (List.getElem?_eq_getElem h3)
    unfold World.cell? at h4
    rw [h] at h4
    simp at h4
    obtain ⟨_, h5⟩ := Array.getElem?_eq_some_iff.1 h4
    simpa using h5
end
theorem HoldsFrom.refl (k : Nat) (w : World) : HoldsFrom k w w := fun _ _ _ _ h => h
theorem HoldsFrom.set {k : Nat} {W W' : World} (h : HoldsFrom (k + 1) W W') (i : Nat) (u : Value) : HoldsFrom (k + 1) W (W'.setCell ⟨k, i, none⟩ u) := fun b j hb v hv =>
  (World.cell?_setCell_other _ _ _ _ (fun e => by cases e; omega)).trans (h b j hb v hv)
def Far (S E : Nat) (w : World) (u1 u2 u3 : Value) (t : TyD) : Prop := ∀ W', (∀ b i v, S ≤ b → b < E → w.cell? ⟨b, i, none⟩ = some v → W'.cell? ⟨b, i, none⟩ = some v) → TyL W' u1 u2 u3 t
theorem Far.self {S E : Nat} {w : World} {u1 u2 u3 : Value} {t : TyD} (h : Far S E w u1 u2 u3 t) : TyL w u1 u2 u3 t := h w fun _ _ _ _ _ h => h
theorem Far.kept {S E : Nat} {w w' : World} {u1 u2 u3 : Value} {t : TyD} (h : Far S E w u1 u2 u3 t) (hk : ∀ b, S ≤ b → b < E → w'.heap[b]? = w.heap[b]?) : Far S E w' u1 u2 u3 t := fun W' hW => h W' fun b i v h1 h2 hv => hW b i v h1 h2 (by
  unfold World.cell? at hv ⊢
  rw [hk b h1 h2]; exact hv)
def tyPut (w : World) (b : Nat) (U : TyD) (v7 v8 v9 : Value) : World :=
  (((((((((w.setCell ⟨b, 0, none⟩ (.int .u8 U.kind)).setCell ⟨b, 1, none⟩ (.int .i64 U.low)).setCell ⟨b, 2, none⟩ (.int .i64 U.high)).setCell ⟨b, 3, none⟩ (.bool U.branded)).setCell ⟨b, 4, none⟩ (.string U.brand)).setCell ⟨b, 5, none⟩ (.string U.opq)).setCell ⟨b, 6, none⟩ (.int .i64 U.super)).setCell ⟨b, 7, none⟩ v7).setCell ⟨b, 8, none⟩ v8).setCell ⟨b, 9, none⟩ v9
theorem tyPut_blk {w : World} {b : Nat} (U : TyD) (v7 v8 v9 : Value) (h : Blk w b zeroTyC 62) : Blk (tyPut w b U v7 v8 v9) b (tyC U v7 v8 v9) 62 :=
  (((((((((h.set 0 (.int .u8 U.kind)).set 1 (.int .i64 U.low)).set 2 (.int .i64 U.high)).set 3 (.bool U.branded)).set 4 (.string U.brand)).set 5 (.string U.opq)).set 6 (.int .i64 U.super)).set 7 v7).set 8 v8).set 9 v9
theorem tyPut_holds {w : World} {b : Nat} (U : TyD) (v7 v8 v9 : Value) : HoldsFrom (b + 1) w (tyPut w b U v7 v8 v9) :=
  ((((((((((HoldsFrom.refl (b + 1) w).set 0 (.int .u8 U.kind)).set 1 (.int .i64 U.low)).set 2 (.int .i64 U.high)).set 3 (.bool U.branded)).set 4 (.string U.brand)).set 5 (.string U.opq)).set 6 (.int .i64 U.super)).set 7 v7).set 8 v8).set 9 v9
theorem tyPut_heap {w : World} {b k : Nat} (U : TyD) (v7 v8 v9 : Value) (h : k ≠ b) : (tyPut w b U v7 v8 v9).heap[k]? = w.heap[k]? := by
  unfold tyPut
  have hs : ∀ (w : World) i v, (w.setCell ⟨b, i, none⟩ v).heap[k]? = w.heap[k]? := fun w i v => heap_setCell_other w ⟨b, i, none⟩ k v h
  rw [hs, hs, hs, hs, hs, hs, hs, hs, hs, hs]
theorem tyPut_below {w w0 : World} {b B : Nat} (U : TyD) (v7 v8 v9 : Value) (hB : B ≤ b) (h : Below B w0 w) : Below B w0 (tyPut w b U v7 v8 v9) := by
  have hs : ∀ (w : World) i v, Below B w0 w → Below B w0 (w.setCell ⟨b, i, none⟩ v) := fun w i v h => h.setCell (p := ⟨b, i, none⟩) hB v
  exact hs _ _ _ (hs _ _ _ (hs _ _ _ (hs _ _ _ (hs _ _ _ (hs _ _ _ (hs _ _ _ (hs _ _ _ (hs _ _ _ (hs _ _ _ h)))))))))
end Go.Proofs.YteaokkaidcbdlaaGreatDoor

