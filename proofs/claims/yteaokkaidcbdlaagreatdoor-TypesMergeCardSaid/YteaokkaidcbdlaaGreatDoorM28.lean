/- Part 28 of 53: the texts Nc, Ne, Nf, Ng, Nb, Pk, Mg, Um, one behind the other. -/
import Derived.Test.YteaokkaidcbdlaaGreatDoorM26
import Derived.Test.YteaokkaidcbdlaaGreatDoorM27
import Derived.Test.YteaokkaidcbdlaaGreatDoorM15
import Derived.Test.YteaokkaidcbdlaaGreatDoorM25
import Derived.Test.YteaokkaidcbdlaaGreatDoorM22
namespace Go.Proofs.YteaokkaidcbdlaaGreatDoor
open Go Go.RowKit Go.Shelf
attribute [local go_sem] Oper.semAt_some
def zeroTyC : List Value := [.int .u8 0, .int .i64 0, .int .i64 0, .bool false, .string ⟨#[]⟩, .string ⟨#[]⟩, .int .i64 0, .slice none 0 0, .slice none 0 0, .slice none 0 0]
structure RN (W wr : World) (t : TyD) (fv : Value) (N : Nat) (vp vm vo : Value) (X : List MV) (i : Nat) : Prop where
 bel : Below W.heap.size W wr
 hN : W.heap.size + 3 ≤ N
 b : Blk wr W.heap.size (tyC t vp vm vo) 62
 f : Boxed wr (W.heap.size + 1) 94 fv
 r : Blk wr (W.heap.size + 2) zeroTyC 62
 rp : wr.ownsRow N 93 2 vp t.parts.length (partCells t.parts)
 ro : wr.ownsRow N 116 2 vo t.overs.length (overCells t.overs)
 rm : wr.ownsRow N 74 5 vm t.meths.length (mvCells X)
 xm : X.map (·.1) = t.meths
 own : ∀ j (h : j < X.length), j < i → wr.ownsRow N 3 1 X[j].2.1 X[j].1.args.length (X[j].1.args.map (.int .i64)) ∧ wr.ownsRow N 9 1 X[j].2.2 X[j].1.raises.length (X[j].1.raises.map .string)
 old : ∀ j (h : j < X.length), i ≤ j → MethV W X[j].2.1 X[j].2.2 X[j].1
 dis : ∀ j k (h : k < X.length) (hj : j < k), k < i → ∀ g, X[j].2.1.ownBlock = some g → X[k].2.1.ownBlock ≠ some g
theorem row_setB {w : World} {base b : Nat} {e : TypeId} {sz n : Nat} {v : Value} {xs : List Value} (h : w.ownsRow base e sz v n xs) (hb : b < base) (i : Nat) (u : Value) : (w.setCell ⟨b, i, none⟩ u).ownsRow base e sz v n xs := by
 refine h.kept (grownBy_setN w b i u) (.inr ?_)
 intro e'; have := (h.lt b e').1; omega
theorem box_otherN {W : World} {B B' : Nat} {t : TypeId} {v : Value} (h : Boxed W B t v) (hne : B ≠ B') (i : Nat) (u : Value) : Boxed (W.setCell ⟨B', i, none⟩ u) B t v := h.kept (grownBy_setN W B' i u) (fun e => hne (by cases e; rfl))
theorem row_setT {w : World} {base b : Nat} {e t : TypeId} {sz n : Nat} {v : Value} {xs : List Value} {cs : Array Value} {f : Nat × Nat} (h : w.ownsRow base e sz v n xs) (hb : w.heap[b]? = some (.cells cs t f)) (hne : t ≠ e) (i : Nat) (u : Value) : (w.setCell ⟨b, i, none⟩ u).ownsRow base e sz v n xs := by
 refine h.kept (grownBy_setN w b i u) (.inr ?_)
 intro e'
 rcases h.2 with ⟨rfl, _⟩ | ⟨g, cap, cur, rfl, _, hgb, _⟩
 ·simp [Value.ownBlock] at e'
 ·simp only [Value.ownBlock, Option.some.injEq] at e'
  subst e'
  rw [hb] at hgb; cases hgb; exact hne rfl
theorem row_block {w : World} {base : Nat} {e : TypeId} {sz g n c : Nat} {xs : List Value} (h : w.ownsRow base e sz (.slice (some ⟨g, 0, none⟩) n c) n xs) : base ≤ g ∧ ∃ cs, w.heap[g]? = some (.cells cs e (0, 0)) := by
 rcases h.2 with ⟨h0, _⟩ | ⟨g', cap, cur, h0, hg, hgb, _⟩
 ·cases h0
 ·cases h0; exact ⟨hg, cur, hgb⟩
theorem mv_set1 (X : List MV) (q : Nat) (hq : q < X.length) (v : Value) : (mvCells X).set (q * 5 + 1) v = mvCells (X.set q (X[q].1, v, X[q].2.2)) := flat_set (f := mvC) (sz := 5) (fun _ => rfl) X q 1 hq (by omega) rfl
theorem mv_set3 (X : List MV) (q : Nat) (hq : q < X.length) (v : Value) : (mvCells X).set (q * 5 + 3) v = mvCells (X.set q (X[q].1, X[q].2.1, v)) := flat_set (f := mvC) (sz := 5) (fun _ => rfl) X q 3 hq (by omega) rfl
theorem RN.step {W wr w1 w3 : World} {t : TyD} {fv vp vo v1 v3 : Value} {N mb cm : Nat} {X : List MV} {q : Nat} (h : RN W wr t fv N vp (.slice (some ⟨mb, 0, none⟩) t.meths.length cm) vo X q) (hq : q < X.length) (hb1 : Below wr.heap.size wr w1)
    (r1 : w1.ownsRow wr.heap.size 3 1 v1 X[q].1.args.length (X[q].1.args.map (.int .i64))) (hb3 : Below (w1.setCell ⟨mb, q * 5 + 1, none⟩ v1).heap.size (w1.setCell ⟨mb, q * 5 + 1, none⟩ v1) w3)
    (r3 : w3.ownsRow (w1.setCell ⟨mb, q * 5 + 1, none⟩ v1).heap.size 9 1 v3 X[q].1.raises.length (X[q].1.raises.map .string)) :
    RN W (w3.setCell ⟨mb, q * 5 + 3, none⟩ v3) t fv N vp (.slice (some ⟨mb, 0, none⟩) t.meths.length cm) vo (X.set q (X[q].1, v1, v3)) (q + 1) := by
  have hN := h.hN
  have hNs : N ≤ wr.heap.size := by
   obtain ⟨h1, cs, h2⟩ := row_block h.rm
   have := (Array.getElem?_eq_some_iff.1 h2).1
   omega
  have hXl : X.length = t.meths.length := by rw [← h.xm]; simp
  have rm1 := Row.below h.rm hb1
  obtain ⟨hmb, cs1, hm1⟩ := row_block rm1
  have rm2 := row_setN rm1 (q * 5 + 1) v1
  rw [mv_set1 X q hq] at rm2
  obtain ⟨_, cs2, hm2⟩ := row_block rm2
  have hs1 : (w1.setCell ⟨mb, q * 5 + 1, none⟩ v1).heap.size = w1.heap.size := by simp
  have rm3 := Row.below rm2 hb3
  obtain ⟨_, cs3, hm3⟩ := row_block rm3
  have hqs : q < (X.set q (X[q].1, v1, X[q].2.2)).length := by simpa using hq
  have rm4 := row_setN rm3 (q * 5 + 3) v3
  rw [mv_set3 _ q hqs] at rm4
  have hXX : (X.set q (X[q].1, v1, X[q].2.2)).set q ((X.set q (X[q].1, v1, X[q].2.2))[q].1, (X.set q (X[q].1, v1, X[q].2.2))[q].2.1, v3) = X.set q (X[q].1, v1, v3) := by simp
  rw [hXX] at rm4
  have hsz1 := hb1.size
  have hsz3 := hb3.size
  have rowk : ∀ {e : TypeId} {sz n base : Nat} {v : Value} {xs : List Value}, e ≠ 74 → wr.ownsRow base e sz v n xs → (w3.setCell ⟨mb, q * 5 + 3, none⟩ v3).ownsRow base e sz v n xs := fun he hr =>
   row_setT (Row.below (row_setT (Row.below hr hb1) hm1 (Ne.symm he) (q * 5 + 1) v1) hb3) hm3 (Ne.symm he) (q * 5 + 3) v3
  have hbel : Below W.heap.size W (w3.setCell ⟨mb, q * 5 + 3, none⟩ v3) := by
   have h1 := (h.bel.trans (hb1.mono h.bel.size)).setCell (p := ⟨mb, q * 5 + 1, none⟩) (show W.heap.size ≤ mb by omega) v1
   exact (h1.trans (hb3.mono h1.size)).setCell (p := ⟨mb, q * 5 + 3, none⟩) (show W.heap.size ≤ mb by omega) v3
  have blk : ∀ {b : Nat} {cs : List Value} {ty : TypeId}, b < mb → b < wr.heap.size → Blk wr b cs ty → Blk (w3.setCell ⟨mb, q * 5 + 3, none⟩ v3) b cs ty := fun hlt hlw hb =>
   ((((hb.below hb1 hlw).other (q * 5 + 1) v1 (by omega)).below hb3 (by omega)).other (q * 5 + 3) v3 (by omega))
  refine ⟨hbel, hN, blk (by omega) (by omega) h.b, ?_, blk (by omega) (by omega) h.r, rowk (by decide) h.rp, rowk (by decide) h.ro, rm4, ?_, ?_, ?_, ?_⟩
  ·have hf1 : Boxed w1 (W.heap.size + 1) 94 fv := (hb1.block _ h.f.lt).trans h.f
   have hf2 := box_otherN hf1 (show W.heap.size + 1 ≠ mb by omega) (q * 5 + 1) v1
   have hf3 : Boxed w3 (W.heap.size + 1) 94 fv := (hb3.block _ hf2.lt).trans hf2
   exact box_otherN hf3 (show W.heap.size + 1 ≠ mb by omega) (q * 5 + 3) v3
  ·rw [List.map_set, ← h.xm]
   have : (X.map (·.1))[q]'(by simpa using hq) = X[q].1 := by simp
   conv => lhs; rw [← this]
   exact List.set_getElem_self _
  ·intro j hj hjq
   by_cases e : j = q
   ·subst e
    simp only [List.getElem_set_self]
    refine ⟨?_, ?_⟩
    ·exact Row.mono (row_setT (Row.below (row_setT r1 hm1 (by decide) (j * 5 + 1) v1) hb3) hm3 (by decide) (j * 5 + 3) v3) hNs
    ·exact Row.mono (row_setT r3 hm3 (by decide) (j * 5 + 3) v3) (by omega)
   ·have hj' : j < X.length := by simpa using hj
    have hg : (X.set q (X[q].1, v1, v3))[j] = X[j] := List.getElem_set_ne (Ne.symm e) _
    rw [hg]
    obtain ⟨a1, a2⟩ := h.own j hj' (by omega)
    exact ⟨rowk (by decide) a1, rowk (by decide) a2⟩
  ·intro j hj hjq
   have hj' : j < X.length := by simpa using hj
   have hg : (X.set q (X[q].1, v1, v3))[j] = X[j] := List.getElem_set_ne (by omega) _
   rw [hg]
   exact h.old j hj' (by omega)
  ·intro j k hk hjk hkq g hg hgk
   have hk' : k < X.length := by simpa using hk
   have hgj : (X.set q (X[q].1, v1, v3))[j]'(by omega) = X[j]'(by omega) := List.getElem_set_ne (by omega) _
   rw [hgj] at hg
   by_cases e : k = q
   ·subst e
    simp only [List.getElem_set_self] at hgk
    have h1 := (h.own j (by omega) (by omega)).1.lt g hg
    have h2 := (r1.lt g hgk).1
    omega
   ·have hg2 : (X.set q (X[q].1, v1, v3))[k] = X[k] := List.getElem_set_ne (Ne.symm e) _
    rw [hg2] at hgk
    exact h.dis j k hk' hjk (by omega) g hg hgk
end Go.Proofs.YteaokkaidcbdlaaGreatDoor

namespace Go.Proofs.YteaokkaidcbdlaaGreatDoor
open Go Go.RowKit Go.Shelf
def sigOf (x : MV) : SigD := match x.2.1 with | .slice o n c => ⟨o, n, c, x.1.result⟩ | _ => ⟨none, 0, 0, x.1.result⟩
section
variable {W wr : World} {t : TyD} {fv vo : Value} {N cp cm : Nat} {op om : Option Addr} {X : List MV}
def allL (W : World) (t : TyD) (op om : Option Addr) (X : List MV) : List Addr := placesL (supB t.kind) W.heap.size 0 op t.parts.length om (X.map sigOf)
theorem RN.sig (h : RN W wr t fv N (.slice op t.parts.length cp) (.slice om t.meths.length cm) vo X t.meths.length) {i : Nat} (hi : i < X.length) :
    ∃ o c, X[i].2.1 = .slice o X[i].1.args.length c ∧ sigOf X[i] = ⟨o, X[i].1.args.length, c, X[i].1.result⟩ ∧ (0 < X[i].1.args.length → ∃ ab, o = some ⟨ab, 0, none⟩ ∧ N ≤ ab ∧ ∃ cs, wr.heap[ab]? = some (.cells cs 3 (0, 0))) := by
  have hXl : X.length = t.meths.length := by rw [← h.xm]; simp
  obtain ⟨r1, _⟩ := h.own i hi (by omega)
  obtain ⟨o, c, e⟩ := row_form r1
  refine ⟨o, c, e, by unfold sigOf; rw [e], fun h0 => ?_⟩
  rw [e] at r1
  obtain ⟨g, rfl⟩ := row_some r1 h0
  obtain ⟨h2, cs, h3⟩ := row_block r1
  exact ⟨g, rfl, h2, cs, h3⟩
theorem RN.tag (h : RN W wr t fv N (.slice op t.parts.length cp) (.slice om t.meths.length cm) vo X t.meths.length) {a : Addr} (ha : a ∈ allL W t op om X) :
    W.heap.size ≤ a.block ∧ ∃ cs ty, wr.heap[a.block]? = some (.cells cs ty (0, 0)) ∧ a.spot = none ∧ ((ty = 62 ∧ a.off = 6 ∧ supB t.kind = true) ∨ (ty = 93 ∧ a.off % 2 = 1) ∨ ty = 3 ∨ (ty = 74 ∧ ∃ i, ∃ hi : i < X.length, a.off = i * 5 + 2 ∧ X[i].1.result ≠ -1)) := by
  have hXl : X.length = t.meths.length := by rw [← h.xm]; simp
  have hN := h.hN
  unfold allL placesL at ha
  rw [List.mem_append, List.mem_append] at ha
  rcases ha with ha | ha | ha
  ·unfold superAts at ha
   split at ha
   ·rename_i hs
    simp at ha; subst ha
    exact ⟨Nat.le_refl _, _, 62, h.b, rfl, .inl ⟨rfl, rfl, hs⟩⟩
   ·simp at ha
  ·by_cases h0 : 0 < t.parts.length
   ·obtain ⟨g, rfl⟩ := row_some h.rp h0
    obtain ⟨h2, cs, h3⟩ := row_block h.rp
    obtain ⟨i, hi, rfl⟩ := mem_partAts.1 ha
    exact ⟨by show W.heap.size ≤ g; omega, cs, 93, h3, rfl, .inr (.inl ⟨rfl, by show (0 + i * 2 + 1) % 2 = 1; omega⟩)⟩
   ·rw [show t.parts.length = 0 by omega, partAts_zero] at ha; simp at ha
  ·by_cases h0 : 0 < t.meths.length
   ·obtain ⟨mb, rfl⟩ := row_some h.rm h0
    obtain ⟨h2, cs, h3⟩ := row_block h.rm
    obtain ⟨i, hi, _, hr⟩ := mem_methAts (fun s hs h0 => by
     obtain ⟨j, hj, rfl⟩ := List.mem_iff_getElem.1 hs
     obtain ⟨o, c, _, e2, e3⟩ := h.sig (i := j) (by simpa using hj)
     rw [List.getElem_map, e2] at h0 ⊢
     obtain ⟨ab, e4, _⟩ := e3 h0
     exact ⟨ab, 0, e4⟩) _ (Nat.le_refl _) ha
    have hi' : i < X.length := by simpa using hi
    obtain ⟨o, c, _, e2, e3⟩ := h.sig hi'
    rw [List.getElem_map, e2] at hr
    rcases hr with ⟨ab, aoff, j, e1, hj, rfl⟩ | ⟨hr, rfl⟩
    ·obtain ⟨ab', e4, h5, cs', h6⟩ := e3 (by show 0 < X[i].1.args.length; exact Nat.lt_of_le_of_lt (Nat.zero_le _) hj)
     simp only at e1
     rw [e4] at e1; cases e1
     exact ⟨by show W.heap.size ≤ ab; omega, cs', 3, h6, rfl, .inr (.inr (.inl rfl))⟩
    ·exact ⟨by show W.heap.size ≤ mb; omega, cs, 74, h3, rfl, .inr (.inr (.inr ⟨rfl, i, hi', by show 0 + i * 5 + 1 + 1 = i * 5 + 2; omega, hr⟩))⟩
   ·have : X = [] := List.eq_nil_of_length_eq_zero (by omega)
    subst this
    simp [methAts] at ha
theorem RN.nodup (h : RN W wr t fv N (.slice op t.parts.length cp) (.slice om t.meths.length cm) vo X t.meths.length) : (allL W t op om X).Nodup := by
 have hXl : X.length = t.meths.length := by rw [← h.xm]; simp
 have hN := h.hN
 have hparts : ∀ a ∈ partAts op t.parts.length, ∃ cs, wr.heap[a.block]? = some (.cells cs 93 (0, 0)) := by
  intro a ha
  by_cases h0 : 0 < t.parts.length
  ·obtain ⟨g, rfl⟩ := row_some h.rp h0
   obtain ⟨h2, cs, h3⟩ := row_block h.rp
   obtain ⟨i, hi, rfl⟩ := mem_partAts.1 ha
   exact ⟨cs, h3⟩
  ·rw [show t.parts.length = 0 by omega, partAts_zero] at ha; simp at ha
 have hmeths : ∀ a ∈ methAts om (X.map sigOf) (X.map sigOf).length, ∃ cs ty, wr.heap[a.block]? = some (.cells cs ty (0, 0)) ∧ (ty = 3 ∨ ty = 74) := by
  intro a ha
  by_cases h0 : 0 < t.meths.length
  ·obtain ⟨mb, rfl⟩ := row_some h.rm h0
   obtain ⟨h2, cs, h3⟩ := row_block h.rm
   obtain ⟨i, hi, _, hr⟩ := mem_methAts (fun s hs h0 => by
    obtain ⟨j, hj, rfl⟩ := List.mem_iff_getElem.1 hs
    obtain ⟨o, c, _, e2, e3⟩ := h.sig (i := j) (by simpa using hj)
    rw [List.getElem_map, e2] at h0 ⊢
    obtain ⟨ab, e4, _⟩ := e3 h0
    exact ⟨ab, 0, e4⟩) _ (Nat.le_refl _) ha
   have hi' : i < X.length := by simpa using hi
   obtain ⟨o, c, _, e2, e3⟩ := h.sig hi'
   rw [List.getElem_map, e2] at hr
   rcases hr with ⟨ab, aoff, j, e1, hj, rfl⟩ | ⟨hr, rfl⟩
   ·obtain ⟨ab', e4, h5, cs', h6⟩ := e3 (by show 0 < X[i].1.args.length; exact Nat.lt_of_le_of_lt (Nat.zero_le _) hj)
    simp only at e1
    rw [e4] at e1; cases e1
    exact ⟨cs', 3, h6, .inl rfl⟩
   ·exact ⟨cs, 74, h3, .inr rfl⟩
  ·have : X = [] := List.eq_nil_of_length_eq_zero (by omega)
   subst this
   simp [methAts] at ha
 unfold allL placesL
 rw [List.nodup_append, List.nodup_append]
 refine ⟨by unfold superAts; split <;> simp, ⟨?_, ?_, ?_⟩, ?_⟩
 ·by_cases h0 : 0 < t.parts.length
  ·obtain ⟨g, rfl⟩ := row_some h.rp h0
   exact partAts_nodup
  ·rw [show t.parts.length = 0 by omega, partAts_zero]; simp
 ·by_cases h0 : 0 < t.meths.length
  ·obtain ⟨mb, rfl⟩ := row_some h.rm h0
   obtain ⟨h2, cs, h3⟩ := row_block h.rm
   refine methAts_nodup (fun s hs h0 => ?_) (fun i j hi hj hij ab aoff ab' aoff' hp1 hp2 e1 e2 => ?_) _ (Nat.le_refl _)
   ·obtain ⟨j, hj, rfl⟩ := List.mem_iff_getElem.1 hs
    obtain ⟨o, c, _, e2, e3⟩ := h.sig (i := j) (by simpa using hj)
    rw [List.getElem_map, e2] at h0 ⊢
    obtain ⟨ab, e4, _, cs', h6⟩ := e3 h0
    refine ⟨ab, 0, e4, ?_⟩
    rintro rfl
    rw [h3] at h6; cases h6
   ·have hi' : i < X.length := by simpa using hi
    have hj' : j < X.length := by simpa using hj
    obtain ⟨o, c, a1, a2, _⟩ := h.sig hi'
    obtain ⟨o', c', b1, b2, _⟩ := h.sig hj'
    rw [List.getElem_map, a2] at e1
    rw [List.getElem_map, b2] at e2
    simp only at e1 e2
    subst e1 e2
    rintro rfl
    exact h.dis i j hj' hij (by omega) ab (by rw [a1]; rfl) (by rw [b1]; rfl)
  ·have : X = [] := List.eq_nil_of_length_eq_zero (by omega)
   subst this
   simp [methAts]
 ·intro a ha b hb e
  subst e
  obtain ⟨cs, h1⟩ := hparts a ha
  obtain ⟨cs', ty, h2, h3⟩ := hmeths a hb
  rw [h1] at h2; cases h2
  rcases h3 with h3 | h3 <;> cases h3
 ·intro a ha b hb e
  subst e
  unfold superAts at ha
  split at ha
  ·simp at ha; subst ha
   have hbt : wr.heap[W.heap.size]? = some (.cells _ 62 (0, 0)) := h.b
   rw [List.mem_append] at hb
   rcases hb with hb | hb
   ·obtain ⟨cs, h1⟩ := hparts _ hb
    rw [hbt] at h1; cases h1
   ·obtain ⟨cs', ty, h2, h3⟩ := hmeths _ hb
    rw [hbt] at h2; cases h2
    rcases h3 with h3 | h3 <;> cases h3
  ·simp at ha
end
end Go.Proofs.YteaokkaidcbdlaaGreatDoor

namespace Go.Proofs.YteaokkaidcbdlaaGreatDoor
open Go Go.RowKit Go.Shelf
section
variable {W wr : World} {t : TyD} {fv vo : Value} {N cp cm : Nat} {op om : Option Addr} {X : List MV}
theorem RN.out (h : RN W wr t fv N (.slice op t.parts.length cp) (.slice om t.meths.length cm) vo X t.meths.length) {b k : Nat} {cs : Array Value} {ty : TypeId} (hb : wr.heap[b]? = some (.cells cs ty (0, 0)))
    (h1 : ty = 62 → k = 6 → supB t.kind = false) (h2 : ty = 93 → k % 2 = 0) (h3 : ty ≠ 3) (h4 : ty = 74 → ∀ i (hi : i < X.length), k = i * 5 + 2 → X[i].1.result = -1) : (⟨b, k, none⟩ : Addr) ∉ allL W t op om X := by
  intro ha
  obtain ⟨_, cs', ty', e1, _, e2⟩ := h.tag ha
  simp only at e1 e2
  rw [hb] at e1; cases e1
  rcases e2 with ⟨e2, e3, e4⟩ | ⟨e2, e3⟩ | e2 | ⟨e2, i, hi, e3, e4⟩
  ·rw [h1 e2 e3] at e4; cases e4
  ·have := h2 e2; omega
  ·exact h3 e2
  ·exact e4 (h4 e2 i hi e3)
theorem RN.apart (h : RN W wr t fv N (.slice op t.parts.length cp) (.slice om t.meths.length cm) vo X t.meths.length) {a : Addr} (ha : a ∈ allL W t op om X) : a.block < wr.heap.size ∧ a.block ≠ W.heap.size + 1 ∧ a.block ≠ W.heap.size + 2 := by
 have hXl : X.length = t.meths.length := by rw [← h.xm]; simp
 obtain ⟨_, cs, ty, h1, _, h2⟩ := h.tag ha
 refine ⟨(Array.getElem?_eq_some_iff.1 h1).1, fun e => ?_, fun e => ?_⟩
 ·have hf : wr.heap[W.heap.size + 1]? = some (.cells _ 94 (0, 0)) := h.f
  rw [e, hf] at h1; cases h1
  rcases h2 with ⟨h2, _⟩ | ⟨h2, _⟩ | h2 | ⟨h2, _⟩ <;> cases h2
 ·rw [e] at h1
  unfold allL placesL at ha
  rw [List.mem_append, List.mem_append] at ha
  have hN := h.hN
  rcases ha with ha | ha | ha
  ·unfold superAts at ha
   split at ha
   ·simp at ha; subst ha; simp at e
   ·simp at ha
  ·by_cases h0 : 0 < t.parts.length
   ·obtain ⟨g, rfl⟩ := row_some h.rp h0
    obtain ⟨h3, _⟩ := row_block h.rp
    obtain ⟨i, hi, rfl⟩ := mem_partAts.1 ha
    simp at e; omega
   ·rw [show t.parts.length = 0 by omega, partAts_zero] at ha; simp at ha
  ·by_cases h0 : 0 < t.meths.length
   ·obtain ⟨mb, rfl⟩ := row_some h.rm h0
    obtain ⟨h3, _⟩ := row_block h.rm
    obtain ⟨i, hi, _, hr⟩ := mem_methAts (fun s hs h0 => by
     obtain ⟨j, hj, rfl⟩ := List.mem_iff_getElem.1 hs
     obtain ⟨o, c, _, e2, e3⟩ := h.sig (i := j) (by simpa using hj)
     rw [List.getElem_map, e2] at h0 ⊢
     obtain ⟨ab, e4, _⟩ := e3 h0
     exact ⟨ab, 0, e4⟩) _ (Nat.le_refl _) ha
    have hi' : i < X.length := by simpa using hi
    obtain ⟨o, c, _, e2, e3⟩ := h.sig hi'
    rw [List.getElem_map, e2] at hr
    rcases hr with ⟨ab, aoff, j, e4, hj, rfl⟩ | ⟨hr, rfl⟩
    ·obtain ⟨ab', e5, h5, _⟩ := e3 (by show 0 < X[i].1.args.length; exact Nat.lt_of_le_of_lt (Nat.zero_le _) hj)
     simp only at e4
     rw [e5] at e4; cases e4
     simp at e; omega
    ·simp at e; omega
   ·have : X = [] := List.eq_nil_of_length_eq_zero (by omega)
    subst this
    simp [methAts] at ha
def HoldsFrom (k : Nat) (W W' : World) : Prop := ∀ b i, k ≤ b → ∀ v, W.cell? ⟨b, i, none⟩ = some v → W'.cell? ⟨b, i, none⟩ = some v
def newV (wr : World) (tf : Int → Int) (a : Addr) : Value := .int .i64 (tf (valI wr a))
theorem RN.keep (h : RN W wr t fv N (.slice op t.parts.length cp) (.slice om t.meths.length cm) vo X t.meths.length) {tf : Int → Int} {W' : World} {b k : Nat} {cs : Array Value} {ty : TypeId} (hH : ∀ v, (setAll (newV wr tf) wr (allL W t op om X)).cell? ⟨b, k, none⟩ = some v → W'.cell? ⟨b, k, none⟩ = some v) (hb : wr.heap[b]? = some (.cells cs ty (0, 0)))
    (h1 : ty = 62 → k = 6 → supB t.kind = false) (h2 : ty = 93 → k % 2 = 0) (h3 : ty ≠ 3) (h4 : ty = 74 → ∀ i (hi : i < X.length), k = i * 5 + 2 → X[i].1.result = -1) {v : Value} (hv : wr.cell? ⟨b, k, none⟩ = some v) : W'.cell? ⟨b, k, none⟩ = some v :=
  hH _ ((setAll_other _ _ (h.out hb h1 h2 h3 h4)).trans hv)
theorem RN.turn (h : RN W wr t fv N (.slice op t.parts.length cp) (.slice om t.meths.length cm) vo X t.meths.length) {tf : Int → Int} {W' : World} {a : Addr} (hH : ∀ v, (setAll (newV wr tf) wr (allL W t op om X)).cell? a = some v → W'.cell? a = some v) (ha : a ∈ allL W t op om X) {x : Int} (hx : wr.cell? a = some (.int .i64 x)) : W'.cell? a = some (.int .i64 (tf x)) := by
 refine hH _ ((setAll_in _ _ h.nodup ha (by rw [hx]; rfl)).trans ?_)
 unfold newV valI
 rw [hx]
theorem in_all_super (hs : supB t.kind = true) : (⟨W.heap.size, 6, none⟩ : Addr) ∈ allL W t op om X := by
 unfold allL placesL superAts
 rw [if_pos hs]; simp
theorem in_all_part {g : Nat} {i : Nat} (hi : i < t.parts.length) (ho : op = some ⟨g, 0, none⟩) : (⟨g, i * 2 + 1, none⟩ : Addr) ∈ allL W t op om X := by
 unfold allL placesL
 rw [List.mem_append, List.mem_append, ho]
 exact .inr (.inl (mem_partAts.2 ⟨i, hi, by simp⟩))
theorem in_all_meth {mb : Nat} {i : Nat} (hi : i < X.length) (ho : om = some ⟨mb, 0, none⟩) {a : Addr} (ha : a ∈ sigAts (sigOf X[i]).o (sigOf X[i]).n mb (i * 5 + 1) (sigOf X[i]).res) : a ∈ allL W t op om X := by
 unfold allL placesL
 rw [List.mem_append, List.mem_append, ho]
 refine .inr (.inr (in_methAts (i := i) (by simpa using hi) ?_))
 rw [List.getElem_map]
 simpa using ha
theorem cell_parts {w : World} {base g n cap : Nat} {l : List PartD} (h : w.ownsRow base 93 2 (.slice (some ⟨g, 0, none⟩) n cap) n (partCells l)) (hn : n = l.length) {i : Nat} (hi : i < l.length) : w.cell? ⟨g, i * 2, none⟩ = some (.string l[i].name) ∧ w.cell? ⟨g, i * 2 + 1, none⟩ = some (.int .i64 l[i].type) := by
 have e0 := World.ownsRow.cellAt h (i * 2) (by omega)
 have e1 := World.ownsRow.cellAt h (i * 2 + 1) (by omega)
 unfold partCells at e0 e1
 have f0 := flat_get (f := fun p : PartD => [Value.string p.name, .int .i64 p.type]) (sz := 2) (fun _ => rfl) l i 0 hi (by omega)
 rw [Nat.add_zero] at f0
 rw [f0] at e0
 rw [flat_get (sz := 2) (fun _ => rfl) l i 1 hi (by omega)] at e1
 exact ⟨e0, e1⟩
theorem cell_overs {w : World} {base g n cap : Nat} {l : List OverD} (h : w.ownsRow base 116 2 (.slice (some ⟨g, 0, none⟩) n cap) n (overCells l)) (hn : n = l.length) {i : Nat} (hi : i < l.length) : w.cell? ⟨g, i * 2, none⟩ = some (.string l[i].name) ∧ w.cell? ⟨g, i * 2 + 1, none⟩ = some (.string l[i].proc) := by
 have e0 := World.ownsRow.cellAt h (i * 2) (by omega)
 have e1 := World.ownsRow.cellAt h (i * 2 + 1) (by omega)
 unfold overCells at e0 e1
 have f0 := flat_get (f := fun p : OverD => [Value.string p.name, .string p.proc]) (sz := 2) (fun _ => rfl) l i 0 hi (by omega)
 rw [Nat.add_zero] at f0
 rw [f0] at e0
 rw [flat_get (sz := 2) (fun _ => rfl) l i 1 hi (by omega)] at e1
 exact ⟨e0, e1⟩
theorem cell_mv {w : World} {base g n cap : Nat} {l : List MV} (h : w.ownsRow base 74 5 (.slice (some ⟨g, 0, none⟩) n cap) n (mvCells l)) (hn : n = l.length) {i : Nat} (hi : i < l.length) {k : Nat} (hk : k < 5) : w.cell? ⟨g, i * 5 + k, none⟩ = (mvC l[i])[k]? := by
 have e1 := World.ownsRow.cellAt h (i * 5 + k) (by omega)
 unfold mvCells at e1
 rw [flat_get (sz := 5) (fun _ => rfl) l i k hi hk] at e1
 exact e1
theorem row_caps {w : World} {base : Nat} {e : TypeId} {sz n c : Nat} {o : Option Addr} {xs : List Value} (h : w.ownsRow base e sz (.slice o n c) n xs) : n ≤ c ∧ c ≤ maxLen := by
 rcases h.2 with ⟨h0, h1⟩ | ⟨g, cap, cur, h0, _, _, h2, h3, _⟩
 ·cases h0; exact ⟨Nat.le_refl _, by decide⟩
 ·cases h0; exact ⟨h2, h3⟩
theorem RN.done {co : Nat} {oo : Option Addr} (h : RN W wr t fv N (.slice op t.parts.length cp) (.slice om t.meths.length cm) (.slice oo t.overs.length co) X t.meths.length) {tf : Int → Int} {W' : World} (hH : HoldsFrom (W.heap.size + 3) (setAll (newV wr tf) wr (allL W t op om X)) W') :
    TyL W' (.slice op t.parts.length cp) (.slice om t.meths.length cm) (.slice oo t.overs.length co) (mapTy tf t) := by
  have hXl : X.length = t.meths.length := by rw [← h.xm]; simp
  have hNn := h.hN
  have hbt : wr.heap[W.heap.size]? = some (.cells _ 62 (0, 0)) := h.b
  refine ⟨?_, ?_, ?_⟩
  ·obtain ⟨c1, c2⟩ := row_caps h.rp
   have hl : (mapTy tf t).parts.length = t.parts.length := by simp [mapTy]
   refine ⟨op, cp, by rw [hl], by rw [hl]; exact c1, c2, fun i x hx => ?_⟩
   obtain ⟨hi, rfl⟩ := List.getElem?_eq_some_iff.1 hx
   have hi' : i < t.parts.length := by omega
   obtain ⟨g, rfl⟩ := row_some h.rp (by omega)
   obtain ⟨h2, cs, h3⟩ := row_block h.rp
   obtain ⟨e0, e1⟩ := cell_parts h.rp rfl hi'
   refine ⟨g, 0, rfl, ?_, ?_⟩
   ·rw [Nat.zero_add]
    have := h.keep (hH _ _ (by omega)) h3 (fun e => by cases e) (fun _ => by omega) (by decide) (fun e => by cases e) e0
    simpa [mapTy] using this
   ·rw [Nat.zero_add]
    have := h.turn (hH _ _ (by omega)) (in_all_part hi' rfl) e1
    simpa [mapTy] using this
  ·obtain ⟨c1, c2⟩ := row_caps h.rm
   have hl : (mapTy tf t).meths.length = t.meths.length := by simp [mapTy]
   refine ⟨om, cm, by rw [hl], by rw [hl]; exact c1, c2, fun i x hx => ?_⟩
   obtain ⟨hi, rfl⟩ := List.getElem?_eq_some_iff.1 hx
   have hi' : i < t.meths.length := by omega
   have hiX : i < X.length := by omega
   obtain ⟨mb, rfl⟩ := row_some h.rm (by omega)
   obtain ⟨h2, cs, h3⟩ := row_block h.rm
   have hxm : X[i].1 = t.meths[i] := by
    have : (X.map (·.1))[i]'(by simpa using hiX) = t.meths[i] := by simp [h.xm]
    simpa using this
   obtain ⟨o, c, s1, s2, s3⟩ := h.sig hiX
   obtain ⟨r1, r2⟩ := h.own i hiX (by omega)
   have k0 : ∀ k u, k < 5 → k ≠ 2 → (mvC X[i])[k]? = some u → W'.cell? ⟨mb, i * 5 + k, none⟩ = some u := fun k u hk hk2 hu =>
    h.keep (hH _ _ (by omega)) h3 (fun e => by cases e) (fun e => by cases e) (by decide) (fun _ j hj e => by omega) ((cell_mv h.rm hXl.symm hiX hk).trans hu)
   have hmm : (mapTy tf t).meths[i] = mapM tf X[i].1 := by simp [mapTy, hxm]
   rw [hmm]
   refine ⟨mb, 0, rfl, X[i].2.1, X[i].2.2, ⟨?_, ?_⟩, ?_, ?_, ?_, ?_, ?_⟩
   ·rw [s1] at r1 ⊢
    obtain ⟨d1, d2⟩ := row_caps r1
    refine ⟨o, c, by simp [mapM], by simp [mapM]; exact d1, d2, fun j y hy => ?_⟩
    obtain ⟨hj, rfl⟩ := List.getElem?_eq_some_iff.1 hy
    have hj' : j < X[i].1.args.length := by simpa [mapM] using hj
    obtain ⟨ab, rfl, _, _⟩ := s3 (by omega)
    obtain ⟨g, e4, _, e5⟩ := row_cell r1 j hj'
    cases e4
    refine ⟨ab, 0, rfl, ?_⟩
    have hin : (⟨ab, j, none⟩ : Addr) ∈ allL W t op (some ⟨mb, 0, none⟩) X := in_all_meth hiX rfl (by
     rw [s2]
     have := in_sigAts_arg (s := ⟨some ⟨ab, 0, none⟩, X[i].1.args.length, c, X[i].1.result⟩) (b := mb) (k := i * 5 + 1) (ab := ab) (aoff := 0) (j := j) rfl hj'
     simpa using this)
    have := h.turn (hH _ _ (by omega)) hin e5
    unfold IntAt
    simpa [mapM] using this
   ·obtain ⟨o', c', e'⟩ := row_form r2
    rw [e'] at r2 ⊢
    obtain ⟨d1, d2⟩ := row_caps r2
    refine ⟨o', c', rfl, d1, d2, fun j y hy => ?_⟩
    obtain ⟨hj, rfl⟩ := List.getElem?_eq_some_iff.1 hy
    have hj' : j < X[i].1.raises.length := hj
    obtain ⟨g, rfl⟩ := row_some r2 (by omega)
    obtain ⟨h2', cs', h3'⟩ := row_block r2
    have e5 : wr.cell? ⟨g, j, none⟩ = some (.string X[i].1.raises[j]) := by
     rw [Row1.cells r2 j hj']; simp [hj']
    refine ⟨g, 0, rfl, ?_⟩
    have := h.keep (hH _ _ (by omega)) h3' (fun e => by cases e) (fun e => by cases e) (by decide) (fun e => by cases e) e5
    unfold StrAt
    simpa [mapM] using this
   ·have := k0 0 _ (by omega) (by omega) rfl
    simpa [mapM] using this
   ·have := k0 1 _ (by omega) (by omega) rfl
    simpa [mapM] using this
   ·have e2 : wr.cell? ⟨mb, i * 5 + 2, none⟩ = some (.int .i64 X[i].1.result) := cell_mv h.rm hXl.symm hiX (k := 2) (by omega)
    by_cases hr : X[i].1.result = -1
    ·have := h.keep (hH _ _ (by omega)) h3 (fun e => by cases e) (fun e => by cases e) (by decide) (fun _ j hj e => by
       have : j = i := by omega
       subst this; exact hr) e2
     simpa [mapM, hr] using this
    ·have hin : (⟨mb, i * 5 + 2, none⟩ : Addr) ∈ allL W t op (some ⟨mb, 0, none⟩) X := in_all_meth hiX rfl (by
       rw [s2]
       exact in_sigAts_res (s := ⟨o, X[i].1.args.length, c, X[i].1.result⟩) (b := mb) (k := i * 5 + 1) hr)
     have := h.turn (hH _ _ (by omega)) hin e2
     simpa [mapM, hr] using this
   ·have := k0 3 _ (by omega) (by omega) rfl
    simpa [mapM] using this
   ·have := k0 4 _ (by omega) (by omega) rfl
    simpa [mapM] using this
  ·obtain ⟨c1, c2⟩ := row_caps h.ro
   refine ⟨oo, co, rfl, c1, c2, fun i x hx => ?_⟩
   obtain ⟨hi, rfl⟩ := List.getElem?_eq_some_iff.1 hx
   obtain ⟨g, rfl⟩ := row_some h.ro (by have : i < t.overs.length := hi; omega)
   obtain ⟨h2, cs, h3⟩ := row_block h.ro
   obtain ⟨e0, e1⟩ := cell_overs h.ro rfl hi
   refine ⟨g, 0, rfl, ?_, ?_⟩
   ·rw [Nat.zero_add]
    exact h.keep (hH _ _ (by omega)) h3 (fun e => by cases e) (fun e => by cases e) (by decide) (fun e => by cases e) e0
   ·rw [Nat.zero_add]
    exact h.keep (hH _ _ (by omega)) h3 (fun e => by cases e) (fun e => by cases e) (by decide) (fun e => by cases e) e1
theorem RN.cells {co : Nat} {oo : Option Addr} (h : RN W wr t fv N (.slice op t.parts.length cp) (.slice om t.meths.length cm) (.slice oo t.overs.length co) X t.meths.length) {tf : Int → Int} {W' : World} (hH : ∀ i v, (setAll (newV wr tf) wr (allL W t op om X)).cell? ⟨W.heap.size, i, none⟩ = some v → W'.cell? ⟨W.heap.size, i, none⟩ = some v) :
    ∀ k u, (tyC (mapTy tf t) (.slice op t.parts.length cp) (.slice om t.meths.length cm) (.slice oo t.overs.length co))[k]? = some u → W'.cell? ⟨W.heap.size, k, none⟩ = some u := by
  have hXl : X.length = t.meths.length := by rw [← h.xm]; simp
  have hNn := h.hN
  have hbt : wr.heap[W.heap.size]? = some (.cells _ 62 (0, 0)) := h.b
  ·intro k u hk
   have hold := h.b.cell
   by_cases h6 : k = 6
   ·subst h6
    simp [tyC] at hk
    subst hk
    by_cases hs : supB t.kind = true
    ·have := h.turn (hH _) (in_all_super hs) (hold 6)
     simpa [mapTy, hs] using this
    ·have hs' : supB t.kind = false := by simpa using hs
     have := h.keep (hH _) hbt (fun _ _ => hs') (fun e => by cases e) (by decide) (fun e => by cases e) (hold 6)
     simpa [mapTy, hs'] using this
   ·refine h.keep (hH _) hbt (fun _ e => absurd e h6) (fun e => by cases e) (by decide) (fun e => by cases e) ((hold k).trans ?_)
    match k with
    | 0 => exact hk
    | 1 => exact hk
    | 2 => exact hk
    | 3 => exact hk
    | 4 => exact hk
    | 5 => exact hk
    | 6 => exact absurd rfl h6
    | 7 => exact hk
    | 8 => exact hk
    | 9 => exact hk
    | k + 10 => simp [tyC] at hk
end
end Go.Proofs.YteaokkaidcbdlaaGreatDoor

namespace Go.Proofs.YteaokkaidcbdlaaGreatDoor
open Go Go.RowKit Go.Shelf
attribute [local go_sem] Oper.semAt_some
theorem holds_put {W : World} {l : Nat} {o : Obj} (o' : Obj) (hl : W.heap[l]? = some o) (ho : o.isCells = false) : Holds W (W.putObj l o') := by
 intro a v hv
 have hne : a.block ≠ l := by
  intro e
  unfold World.cell? at hv
  rw [e, hl] at hv
  cases o <;> first | (cases ho; done) | (simp at hv; done)
 have h2 : (W.putObj l o').heap[a.block]? = W.heap[a.block]? := World.putObj_heap_other (by omega)
 unfold World.cell? at hv ⊢
 rw [h2]; exact hv
theorem frozen_block {W W' : World} {a : Addr} (h : W'.heap[a.block]? = W.heap[a.block]?) : W'.frozen? a = W.frozen? a := by
 unfold World.frozen?; rw [h]
structure IN (W wr : World) (tf : Int → Int) (L : List Addr) (cb : Nat) (pv fv : Value) (p : List Addr) (W' : World) : Prop where
 pre : p <+: L
 hold : Holds (setAll (newV wr tf) wr p) W'
 bel : Below W.heap.size W W'
 fz : ∀ a ∈ L, a.block < W'.heap.size ∧ W'.frozen? a = false ∧ ∃ cs ty, W'.heap[a.block]? = some (.cells cs ty (0, 0))
 cb : Boxed W' cb 126 pv
 f : Boxed W' (W.heap.size + 1) 94 fv
 r : Blk W' (W.heap.size + 2) zeroTyC 62
 t : ∃ cs, W'.heap[W.heap.size]? = some (.cells cs 62 (0, 0)) ∧ cs.size = 10
theorem IN.below {W wr W1 W2 : World} {tf : Int → Int} {L p : List Addr} {cb : Nat} {pv fv : Value} (h : IN W wr tf L cb pv fv p W1) (hb : Below W1.heap.size W1 W2) : IN W wr tf L cb pv fv p W2 :=
 ⟨h.pre, h.hold.trans (.below hb), h.bel.trans (hb.mono h.bel.size), fun a ha => by
  obtain ⟨h1, h2, cs, ty, h3⟩ := h.fz a ha
  exact ⟨Nat.lt_of_lt_of_le h1 hb.size, (frozen_block (hb.block _ h1)).trans h2, cs, ty, (hb.block _ h1).trans h3⟩, (hb.block _ h.cb.lt).trans h.cb, (hb.block _ h.f.lt).trans h.f, h.r.below hb h.r.lt, by
  obtain ⟨cs, h1, h2⟩ := h.t
  exact ⟨cs, (hb.block _ (Array.getElem?_eq_some_iff.1 h1).1).trans h1, h2⟩⟩
theorem IN.put {W wr W1 : World} {tf : Int → Int} {L p : List Addr} {cb : Nat} {pv fv : Value} (h : IN W wr tf L cb pv fv p W1) {l : Nat} {o : Obj} (o' : Obj) (hl : W1.heap[l]? = some o) (ho : o.isCells = false) (hlW : W.heap.size ≤ l) : IN W wr tf L cb pv fv p (W1.putObj l o') := by
 have hot : ∀ (b : Nat) (cs : Array Value) (t : TypeId) (f : Nat × Nat), W1.heap[b]? = some (.cells cs t f) → (W1.putObj l o').heap[b]? = some (.cells cs t f) := fun b cs t f hb => by
  have hne : b ≠ l := by rintro rfl; rw [hl] at hb; cases hb; cases ho
  exact (World.putObj_heap_other (by omega)).trans hb
 refine ⟨h.pre, h.hold.trans (holds_put o' hl ho), h.bel.grown (grownBy_putObj' W1 l o') h.bel.size (fun j e => by cases e; exact hlW), fun a ha => ?_, hot _ _ _ _ h.cb, hot _ _ _ _ h.f, hot _ _ _ _ h.r, by
  obtain ⟨cs, h1, h2⟩ := h.t
  exact ⟨cs, hot _ _ _ _ h1, h2⟩⟩
 obtain ⟨h1, h2, cs, ty, h3⟩ := h.fz a ha
 have h4 := hot _ _ _ _ h3
 exact ⟨(Array.getElem?_eq_some_iff.1 h4).1, (frozen_block (h4.trans h3.symm)).trans h2, cs, ty, h4⟩
theorem IN.more {W wr W1 : World} {tf : Int → Int} {L p : List Addr} {cb : Nat} {pv fv : Value} (h : IN W wr tf L cb pv fv p W1) {x : Addr} (hpx : p ++ [x] <+: L) (hs : ((setAll (newV wr tf) wr p).cell? x).isSome = true) (hbx : W.heap.size ≤ x.block) (hsp : x.spot = none)
    (hcb : x.block ≠ cb) (hf : x.block ≠ W.heap.size + 1) (hr : x.block ≠ W.heap.size + 2) : IN W wr tf L cb pv fv (p ++ [x]) (W1.setCell x (newV wr tf x)) := by
  obtain ⟨xb, xo, xs⟩ := x
  cases hsp
  have hbt : ∀ b, b ≠ xb → (W1.setCell ⟨xb, xo, none⟩ (newV wr tf ⟨xb, xo, none⟩)).heap[b]? = W1.heap[b]? := fun b hne => by
   show (W1.heap.modify xb _)[b]? = _
   rw [Array.getElem?_modify, if_neg (by omega)]
  refine ⟨hpx, by rw [setAll_snoc]; exact h.hold.set hs, h.bel.setCell (p := ⟨xb, xo, none⟩) hbx _, fun a ha => ?_, (hbt _ (fun e => hcb e.symm)).trans h.cb, (hbt _ (fun e => hf e.symm)).trans h.f, h.r.other xo _ (fun e => hr e.symm), ?ht⟩
  case ht =>
   obtain ⟨cs, h1, h2⟩ := h.t
   by_cases e : W.heap.size = xb
   ·subst e
    refine ⟨cs.setIfInBounds xo (newV wr tf ⟨W.heap.size, xo, none⟩), ?_, by simpa using h2⟩
    show (W1.heap.modify W.heap.size _)[W.heap.size]? = _
    rw [Array.getElem?_modify, if_pos rfl, h1]; rfl
   ·exact ⟨cs, (hbt _ e).trans h1, h2⟩
  obtain ⟨h1, h2, cs, ty, h3⟩ := h.fz a ha
  refine ⟨by simpa using h1, by rw [World.frozen?_setCell]; exact h2, ?_⟩
  by_cases e : a.block = xb
  ·refine ⟨cs.setIfInBounds xo (newV wr tf ⟨xb, xo, none⟩), ty, ?_⟩
   rw [e] at h3 ⊢
   show (W1.heap.modify xb _)[xb]? = _
   rw [Array.getElem?_modify, if_pos rfl, h3]; rfl
  ·exact ⟨cs, ty, (hbt _ e).trans h3⟩
theorem IN.cell {W wr W1 : World} {tf : Int → Int} {L p : List Addr} {cb : Nat} {pv fv : Value} (h : IN W wr tf L cb pv fv p W1) {a : Addr} {v : Value} (ha : a ∉ p) (hv : wr.cell? a = some v) : W1.cell? a = some v :=
 h.hold _ _ ((setAll_other _ _ ha).trans hv)
section
variable {W wr : World} {t : TyD} {fv vo : Value} {N cp cm : Nat} {op om : Option Addr} {X : List MV}
theorem RN.val (h : RN W wr t fv N (.slice op t.parts.length cp) (.slice om t.meths.length cm) vo X t.meths.length) {a : Addr} (ha : a ∈ allL W t op om X) : ∃ v : Int, wr.cell? a = some (.int .i64 v) ∧ v ∈ refsOf t := by
 have hXl : X.length = t.meths.length := by rw [← h.xm]; simp
 unfold allL placesL at ha
 unfold refsOf
 rw [List.mem_append, List.mem_append] at ha
 rcases ha with ha | ha | ha
 ·unfold superAts at ha
  split at ha
  ·rename_i hs
   simp at ha; subst ha
   exact ⟨t.super, h.b.cell 6, by simp [hs]⟩
  ·simp at ha
 ·by_cases h0 : 0 < t.parts.length
  ·obtain ⟨g, rfl⟩ := row_some h.rp h0
   obtain ⟨i, hi, rfl⟩ := mem_partAts.1 ha
   have := (cell_parts h.rp rfl hi).2
   refine ⟨t.parts[i].type, by simpa using this, ?_⟩
   rw [List.mem_append, List.mem_append]
   exact .inr (.inl (List.mem_map_of_mem (List.getElem_mem hi)))
  ·rw [show t.parts.length = 0 by omega, partAts_zero] at ha; simp at ha
 ·by_cases h0 : 0 < t.meths.length
  ·obtain ⟨mb, rfl⟩ := row_some h.rm h0
   obtain ⟨i, hi, _, hr⟩ := mem_methAts (fun s hs h0 => by
    obtain ⟨j, hj, rfl⟩ := List.mem_iff_getElem.1 hs
    obtain ⟨o, c, _, e2, e3⟩ := h.sig (i := j) (by simpa using hj)
    rw [List.getElem_map, e2] at h0 ⊢
    obtain ⟨ab, e4, _⟩ := e3 h0
    exact ⟨ab, 0, e4⟩) _ (Nat.le_refl _) ha
   have hi' : i < X.length := by simpa using hi
   have hmem : X[i].1 ∈ t.meths := by rw [← h.xm]; exact List.mem_map_of_mem (List.getElem_mem hi')
   obtain ⟨o, c, e1, e2, e3⟩ := h.sig hi'
   obtain ⟨r1, _⟩ := h.own i hi' (by omega)
   rw [List.getElem_map, e2] at hr
   have hsub : ∀ v ∈ sigRefs X[i].1, v ∈ (if supB t.kind then [t.super] else []) ++ (t.parts.map (·.type) ++ t.meths.flatMap sigRefs) := fun v hv => by
    rw [List.mem_append, List.mem_append]
    exact .inr (.inr (List.mem_flatMap.2 ⟨_, hmem, hv⟩))
   rcases hr with ⟨ab, aoff, j, e4, hj, rfl⟩ | ⟨hr, rfl⟩
   ·simp only at e4 hj
    subst e4
    rw [e1] at r1
    obtain ⟨g, e5, _, e6⟩ := row_cell r1 j hj
    cases e5
    refine ⟨X[i].1.args[j], by simpa using e6, hsub _ ?_⟩
    unfold sigRefs
    rw [List.mem_append]
    exact .inl (List.getElem_mem hj)
   ·refine ⟨X[i].1.result, ?_, hsub _ ?_⟩
    ·have := cell_mv h.rm hXl.symm hi' (k := 2) (by omega)
     rw [show 0 + i * 5 + 1 + 1 = i * 5 + 2 by omega]
     exact this
    ·unfold sigRefs
     rw [List.mem_append, if_neg hr]
     exact .inr (by simp)
  ·have : X = [] := List.eq_nil_of_length_eq_zero (by omega)
   subst this
   simp [methAts] at ha
theorem RN.start (h : RN W wr t fv N (.slice op t.parts.length cp) (.slice om t.meths.length cm) vo X t.meths.length) (tf : Int → Int) (pv : Value) : IN W wr tf (allL W t op om X) wr.heap.size pv fv [] (wr.alloc (.cells #[pv] 126)) := by
 have hb : Below wr.heap.size wr (wr.alloc (.cells #[pv] 126)) := (Below.refl _ _).alloc (Nat.le_refl _) _
 refine ⟨List.nil_prefix, .below hb, h.bel.trans (hb.mono h.bel.size), fun a ha => ?_, Boxed.new _ _ _, h.f.alloc _, h.r.alloc _, ?_⟩
 ·obtain ⟨_, cs, ty, h1, _⟩ := h.tag ha
  have hlt := (Array.getElem?_eq_some_iff.1 h1).1
  have h2 := (hb.block _ hlt).trans h1
  exact ⟨(Array.getElem?_eq_some_iff.1 h2).1, by simp [World.frozen?, h2], cs, ty, h2⟩
 ·have h1 : wr.heap[W.heap.size]? = some (.cells _ 62 (0, 0)) := h.b
  exact ⟨_, (hb.block _ (Array.getElem?_eq_some_iff.1 h1).1).trans h1, rfl⟩
theorem sig_cell (h : RN W wr t fv N (.slice op t.parts.length cp) (.slice om t.meths.length cm) vo X t.meths.length) {m : Nat} (hm : m < X.length) {mb moff : Nat} (e : om = some ⟨mb, moff, none⟩) : moff = 0 ∧ wr.cell? ⟨mb, m * 5 + 1, none⟩ = some (.slice (sigOf X[m]).o (sigOf X[m]).n (sigOf X[m]).cap) ∧ wr.cell? ⟨mb, m * 5 + 2, none⟩ = some (.int .i64 X[m].1.result) ∧ ∃ cs, wr.heap[mb]? = some (.cells cs 74 (0, 0)) := by
 have hXl : X.length = t.meths.length := by rw [← h.xm]; simp
 obtain ⟨g, e2⟩ := row_some h.rm (by omega)
 rw [e2] at e; cases e
 subst e2
 obtain ⟨_, cs, h3⟩ := row_block h.rm
 obtain ⟨o, c, s1, s2, _⟩ := h.sig hm
 refine ⟨rfl, ?_, cell_mv h.rm hXl.symm hm (k := 2) (by omega), cs, h3⟩
 have := cell_mv h.rm hXl.symm hm (k := 1) (by omega)
 rw [s2]
 rw [this]
 simp [mvC, s1]
theorem RN.reads (h : RN W wr t fv N (.slice op t.parts.length cp) (.slice om t.meths.length cm) vo X t.meths.length) {tf : Int → Int} {cb : Nat} {pv : Value} {p : List Addr} {W1 : World} (hI : IN W wr tf (allL W t op om X) cb pv fv p W1) :
    W1.cell? ⟨W.heap.size, 0, none⟩ = some (.int .u8 t.kind) ∧ W1.cell? ⟨W.heap.size, 0 + 7, none⟩ = some (.slice op t.parts.length cp) ∧ W1.cell? ⟨W.heap.size, 0 + 8, none⟩ = some (.slice om t.meths.length cm) := by
  have hbt : wr.heap[W.heap.size]? = some (.cells _ 62 (0, 0)) := h.b
  have hk : ∀ k, k ≠ 6 → (⟨W.heap.size, k, none⟩ : Addr) ∉ p := fun k hk e => h.out hbt (fun _ e => absurd e hk) (fun e => by cases e) (by decide) (fun e => by cases e) (hI.pre.subset e)
  exact ⟨hI.cell (hk 0 (by decide)) (h.b.cell 0), hI.cell (hk 7 (by decide)) (h.b.cell 7), hI.cell (hk 8 (by decide)) (h.b.cell 8)⟩
theorem RN.sigs (h : RN W wr t fv N (.slice op t.parts.length cp) (.slice om t.meths.length cm) vo X t.meths.length) {tf : Int → Int} {cb : Nat} {pv : Value} {p : List Addr} {W1 : World} (hI : IN W wr tf (allL W t op om X) cb pv fv p W1) {m : Nat} (hm : m < (X.map sigOf).length) {mb moff : Nat} (e : om = some ⟨mb, moff, none⟩) :
    W1.cell? ⟨mb, moff + m * 5 + 1, none⟩ = some (.slice (X.map sigOf)[m].o (X.map sigOf)[m].n (X.map sigOf)[m].cap) := by
  have hm' : m < X.length := by simpa using hm
  obtain ⟨rfl, h1, _, cs, h3⟩ := sig_cell h hm' e
  rw [List.getElem_map, Nat.zero_add]
  exact hI.cell (fun e => h.out h3 (fun e => by cases e) (fun e => by cases e) (by decide) (fun _ i hi e => by omega) (hI.pre.subset e)) h1
theorem RN.ress (h : RN W wr t fv N (.slice op t.parts.length cp) (.slice om t.meths.length cm) vo X t.meths.length) {tf : Int → Int} {cb : Nat} {pv : Value} {W1 : World} {m j : Nat} (hm : m < (X.map sigOf).length)
    (hI : IN W wr tf (allL W t op om X) cb pv fv ((superAts (supB t.kind) W.heap.size 0 ++ (partAts op t.parts.length ++ methAts om (X.map sigOf) m)) ++ (argAts (X.map sigOf)[m].o (X.map sigOf)[m].n).take j) W1) {mb moff : Nat} (e : om = some ⟨mb, moff, none⟩) :
    W1.cell? ⟨mb, moff + m * 5 + 1 + 1, none⟩ = some (.int .i64 (X.map sigOf)[m].res) := by
  have hm' : m < X.length := by simpa using hm
  obtain ⟨rfl, _, h2, cs, h3⟩ := sig_cell h hm' e
  obtain ⟨o, c, s1, s2, _⟩ := h.sig hm'
  have hres : (X.map sigOf)[m].res = X[m].1.result := by rw [List.getElem_map, s2]
  rw [hres]
  have hcell : (⟨mb, 0 + m * 5 + 1 + 1, none⟩ : Addr) = ⟨mb, m * 5 + 2, none⟩ := by rw [Nat.zero_add]
  rw [hcell]
  refine hI.cell (fun hin => ?_) h2
  by_cases hr : X[m].1.result = -1
  ·refine h.out h3 (fun e => by cases e) (fun e => by cases e) (by decide) (fun _ i hi e => ?_) (hI.pre.subset hin)
   obtain rfl : m = i := by omega
   exact hr
  ·have hnd := h.nodup
   subst e
   have hpre : (superAts (supB t.kind) W.heap.size 0 ++ (partAts op t.parts.length ++ methAts (some ⟨mb, 0, none⟩) (X.map sigOf) m)) ++ (argAts (X.map sigOf)[m].o (X.map sigOf)[m].n ++ [⟨mb, m * 5 + 2, none⟩]) <+: allL W t op (some ⟨mb, 0, none⟩) X := by
    unfold allL placesL
    have h4 := methAts_succ mb 0 (X.map sigOf) m hm
    have h5 := methAts_pre (some ⟨mb, 0, none⟩) (X.map sigOf) (show m + 1 ≤ (X.map sigOf).length by omega)
    rw [h4] at h5
    have h6 : sigAts (X.map sigOf)[m].o (X.map sigOf)[m].n mb (0 + m * 5 + 1) (X.map sigOf)[m].res = argAts (X.map sigOf)[m].o (X.map sigOf)[m].n ++ [⟨mb, m * 5 + 2, none⟩] := by
     unfold sigAts
     rw [hres, if_neg hr, Nat.zero_add]
    rw [h6] at h5
    rw [List.append_assoc, List.append_assoc]
    exact pre_of (pre_of h5)
   have hnd2 := hnd.sublist hpre.sublist
   rw [← List.append_assoc, List.nodup_append] at hnd2
   refine hnd2.2.2 _ ?_ _ (List.mem_singleton.2 rfl) rfl
   rw [List.mem_append] at hin ⊢
   rcases hin with hin | hin
   ·exact .inl hin
   ·exact .inr (List.mem_of_mem_take hin)
theorem row_eq {w : World} {b : Nat} {cs : Array Value} {ty : TypeId} {l : List Value} (h : w.heap[b]? = some (.cells cs ty (0, 0))) (hs : cs.size = l.length) (hc : ∀ k u, l[k]? = some u → w.cell? ⟨b, k, none⟩ = some u) : cs = l.toArray := by
 apply Array.ext
 ·simpa using hs
 ·intro i h1 h2
  have h3 : i < l.length := by simpa using h2
  have h4 := hc i l[i] (List.getElem?_eq_getElem h3)
  unfold World.cell? at h4
  rw [h] at h4
  simp at h4
  obtain ⟨_, h5⟩ := Array.getElem?_eq_some_iff.1 h4
  simpa using h5
end
theorem HoldsFrom.refl (k : Nat) (w : World) : HoldsFrom k w w := fun _ _ _ _ h => h
theorem HoldsFrom.set {k : Nat} {W W' : World} (h : HoldsFrom (k + 1) W W') (i : Nat) (u : Value) : HoldsFrom (k + 1) W (W'.setCell ⟨k, i, none⟩ u) := fun b j hb v hv =>
 (World.cell?_setCell_other _ _ _ _ (fun e => by cases e; omega)).trans (h b j hb v hv)
def Far (S E : Nat) (w : World) (u1 u2 u3 : Value) (t : TyD) : Prop := ∀ W', (∀ b i v, S ≤ b → b < E → w.cell? ⟨b, i, none⟩ = some v → W'.cell? ⟨b, i, none⟩ = some v) → TyL W' u1 u2 u3 t
theorem Far.self {S E : Nat} {w : World} {u1 u2 u3 : Value} {t : TyD} (h : Far S E w u1 u2 u3 t) : TyL w u1 u2 u3 t := h w fun _ _ _ _ _ h => h
theorem Far.kept {S E : Nat} {w w' : World} {u1 u2 u3 : Value} {t : TyD} (h : Far S E w u1 u2 u3 t) (hk : ∀ b, S ≤ b → b < E → w'.heap[b]? = w.heap[b]?) : Far S E w' u1 u2 u3 t := fun W' hW => h W' fun b i v h1 h2 hv => hW b i v h1 h2 (by
 unfold World.cell? at hv ⊢
 rw [hk b h1 h2]; exact hv)
def tyPut (w : World) (b : Nat) (U : TyD) (v7 v8 v9 : Value) : World :=
 (((((((((w.setCell ⟨b, 0, none⟩ (.int .u8 U.kind)).setCell ⟨b, 1, none⟩ (.int .i64 U.low)).setCell ⟨b, 2, none⟩ (.int .i64 U.high)).setCell ⟨b, 3, none⟩ (.bool U.branded)).setCell ⟨b, 4, none⟩ (.string U.brand)).setCell ⟨b, 5, none⟩ (.string U.opq)).setCell ⟨b, 6, none⟩ (.int .i64 U.super)).setCell ⟨b, 7, none⟩ v7).setCell ⟨b, 8, none⟩ v8).setCell ⟨b, 9, none⟩ v9
theorem tyPut_blk {w : World} {b : Nat} (U : TyD) (v7 v8 v9 : Value) (h : Blk w b zeroTyC 62) : Blk (tyPut w b U v7 v8 v9) b (tyC U v7 v8 v9) 62 :=
 (((((((((h.set 0 (.int .u8 U.kind)).set 1 (.int .i64 U.low)).set 2 (.int .i64 U.high)).set 3 (.bool U.branded)).set 4 (.string U.brand)).set 5 (.string U.opq)).set 6 (.int .i64 U.super)).set 7 v7).set 8 v8).set 9 v9
theorem tyPut_holds {w : World} {b : Nat} (U : TyD) (v7 v8 v9 : Value) : HoldsFrom (b + 1) w (tyPut w b U v7 v8 v9) :=
 ((((((((((HoldsFrom.refl (b + 1) w).set 0 (.int .u8 U.kind)).set 1 (.int .i64 U.low)).set 2 (.int .i64 U.high)).set 3 (.bool U.branded)).set 4 (.string U.brand)).set 5 (.string U.opq)).set 6 (.int .i64 U.super)).set 7 v7).set 8 v8).set 9 v9
theorem tyPut_heap {w : World} {b k : Nat} (U : TyD) (v7 v8 v9 : Value) (h : k ≠ b) : (tyPut w b U v7 v8 v9).heap[k]? = w.heap[k]? := by
 unfold tyPut
 have hs : ∀ (w : World) i v, (w.setCell ⟨b, i, none⟩ v).heap[k]? = w.heap[k]? := fun w i v => heap_setCell_other w ⟨b, i, none⟩ k v h
 rw [hs, hs, hs, hs, hs, hs, hs, hs, hs, hs]
theorem tyPut_below {w w0 : World} {b B : Nat} (U : TyD) (v7 v8 v9 : Value) (hB : B ≤ b) (h : Below B w0 w) : Below B w0 (tyPut w b U v7 v8 v9) := by
 have hs : ∀ (w : World) i v, Below B w0 w → Below B w0 (w.setCell ⟨b, i, none⟩ v) := fun w i v h => h.setCell (p := ⟨b, i, none⟩) hB v
 exact hs _ _ _ (hs _ _ _ (hs _ _ _ (hs _ _ _ (hs _ _ _ (hs _ _ _ (hs _ _ _ (hs _ _ _ (hs _ _ _ (hs _ _ _ h)))))))))
end Go.Proofs.YteaokkaidcbdlaaGreatDoor

namespace Go.Proofs.YteaokkaidcbdlaaGreatDoor
open Go Go.RowKit Go.Shelf
attribute [local go_sem] Oper.semAt_some
set_option maxRecDepth 100000 in
set_option maxHeartbeats 16000000 in
theorem renumbered_any (t : TyD) (v1 v2 v3 : Value) (ff : Nat) (caps : Array Value) (tf : Int → Int) (W : World) (ht : TyL W v1 v2 v3 t) (hp : t.parts.length ≤ 1000) (hm : t.meths.length ≤ 1000) (ho : t.overs.length ≤ 1000) (hma : ∀ m ∈ t.meths, m.args.length ≤ 1000 ∧ m.raises.length ≤ 1000)
    (htf : ∀ W', Below W.heap.size W W' → ∀ x ∈ refsOf t, Calls Tryz.prog ff (#[.int .i64 x] ++ caps) W' fun e w' => e = .returned (.int .i64 (tf x)) ∧ w' = W') (hff : ∀ args w, (callFunc ff args).run Tryz.prog w = .ok (.enter ff args) w) :
    Calls Tryz.prog 77 #[tyVal t v1 v2 v3, .func (.func ff) #[] caps] W fun e w' => ∃ u1 u2 u3, e = .returned (tyVal (mapTy tf t) u1 u2 u3) ∧ Far W.heap.size w'.heap.size w' u1 u2 u3 (mapTy tf t) ∧ Below W.heap.size W w' := by
  refine (callsIn_wide (n := 2)).1 ?_
  refine callsIn_of_wp_marks Tryz.func77 rfl trivial ?_ rfl
  obtain ⟨o1, c1, rfl⟩ := ht.parts.form
  obtain ⟨o2, c2, rfl⟩ := ht.meths.form
  obtain ⟨o3, c3, rfl⟩ := ht.overs.form
  unfold tyVal
  simp only [Tryz.ntmps77, List.size_toArray, List.length_cons, List.length_nil, Nat.reduceAdd, Nat.reduceSub, Array.replicate_succ, Array.replicate_zero, List.push_toArray, List.append_toArray, List.nil_append, List.cons_append]
  have HTF := hide htf
  clear htf
  gi_wp2
  have hb0 : Below W.heap.size W (((W.alloc (.cells #[.int .u8 t.kind, .int .i64 t.low, .int .i64 t.high, .bool t.branded, .string t.brand, .string t.opq, .int .i64 t.super, .slice o1 t.parts.length c1, .slice o2 t.meths.length c2, .slice o3 t.overs.length c3] 62)).alloc (.cells #[.func (.func ff) #[] caps] 94)).alloc (.cells zeroTyC.toArray 62)) := (((Below.refl _ _).alloc (Nat.le_refl _) _).alloc (by simp) _).alloc (by simp; omega) _
  have bt0 : Blk (((W.alloc (.cells #[.int .u8 t.kind, .int .i64 t.low, .int .i64 t.high, .bool t.branded, .string t.brand, .string t.opq, .int .i64 t.super, .slice o1 t.parts.length c1, .slice o2 t.meths.length c2, .slice o3 t.overs.length c3] 62)).alloc (.cells #[.func (.func ff) #[] caps] 94)).alloc (.cells zeroTyC.toArray 62)) W.heap.size (tyC t (.slice o1 t.parts.length c1) (.slice o2 t.meths.length c2) (.slice o3 t.overs.length c3)) 62 := ((Blk.new W (tyC t (.slice o1 t.parts.length c1) (.slice o2 t.meths.length c2) (.slice o3 t.overs.length c3)) 62).alloc _).alloc _
  have bf0 : Boxed (((W.alloc (.cells #[.int .u8 t.kind, .int .i64 t.low, .int .i64 t.high, .bool t.branded, .string t.brand, .string t.opq, .int .i64 t.super, .slice o1 t.parts.length c1, .slice o2 t.meths.length c2, .slice o3 t.overs.length c3] 62)).alloc (.cells #[.func (.func ff) #[] caps] 94)).alloc (.cells zeroTyC.toArray 62)) (W.heap.size + 1) 94 (.func (.func ff) #[] caps) := by
   have := (Boxed.new (W.alloc (.cells #[.int .u8 t.kind, .int .i64 t.low, .int .i64 t.high, .bool t.branded, .string t.brand, .string t.opq, .int .i64 t.super, .slice o1 t.parts.length c1, .slice o2 t.meths.length c2, .slice o3 t.overs.length c3] 62)) 94 (.func (.func ff) #[] caps)).alloc (.cells zeroTyC.toArray 62)
   rwa [World.size_alloc] at this
  have br0 : Blk (((W.alloc (.cells #[.int .u8 t.kind, .int .i64 t.low, .int .i64 t.high, .bool t.branded, .string t.brand, .string t.opq, .int .i64 t.super, .slice o1 t.parts.length c1, .slice o2 t.meths.length c2, .slice o3 t.overs.length c3] 62)).alloc (.cells #[.func (.func ff) #[] caps] 94)).alloc (.cells zeroTyC.toArray 62)) (W.heap.size + 2) zeroTyC 62 := by
   have := Blk.new ((W.alloc (.cells #[.int .u8 t.kind, .int .i64 t.low, .int .i64 t.high, .bool t.branded, .string t.brand, .string t.opq, .int .i64 t.super, .slice o1 t.parts.length c1, .slice o2 t.meths.length c2, .slice o3 t.overs.length c3] 62)).alloc (.cells #[.func (.func ff) #[] caps] 94)) zeroTyC 62
   simpa using this
  have hs0 : W.heap.size + 3 ≤ ((((W.alloc (.cells #[.int .u8 t.kind, .int .i64 t.low, .int .i64 t.high, .bool t.branded, .string t.brand, .string t.opq, .int .i64 t.super, .slice o1 t.parts.length c1, .slice o2 t.meths.length c2, .slice o3 t.overs.length c3] 62)).alloc (.cells #[.func (.func ff) #[] caps] 94)).alloc (.cells zeroTyC.toArray 62))).heap.size := by simp
  change Fence.wide.fn 119 ∧ CallsIn Fence.wide 1 Tryz.prog 119 _ (((W.alloc (.cells #[.int .u8 t.kind, .int .i64 t.low, .int .i64 t.high, .bool t.branded, .string t.brand, .string t.opq, .int .i64 t.super, .slice o1 t.parts.length c1, .slice o2 t.meths.length c2, .slice o3 t.overs.length c3] 62)).alloc (.cells #[.func (.func ff) #[] caps] 94)).alloc (.cells zeroTyC.toArray 62)) _
  generalize (((W.alloc (.cells #[.int .u8 t.kind, .int .i64 t.low, .int .i64 t.high, .bool t.branded, .string t.brand, .string t.opq, .int .i64 t.super, .slice o1 t.parts.length c1, .slice o2 t.meths.length c2, .slice o3 t.overs.length c3] 62)).alloc (.cells #[.func (.func ff) #[] caps] 94)).alloc (.cells zeroTyC.toArray 62)) = W0 at hb0 bt0 bf0 br0 hs0 ⊢
  refine ⟨trivial, ?_⟩
  refine (callsIn_wide.2 (clone_parts _ t.parts _ (ht.parts.mono fun _ _ _ _ => PartAt.go (.below hb0)) (by omega))).mono ?_
  rintro e w1 ⟨vp, rfl, r1, hb1⟩
  obtain ⟨op, cp, rfl⟩ := row_form r1
  have bt1 := bt0.below hb1 bt0.lt
  have bf1 : Boxed w1 _ 94 _ := (hb1.block _ bf0.lt).trans bf0
  have br1 := br0.below hb1 br0.lt
  have hbw1 := hb0.trans (hb1.mono hb0.size)
  have c17 := bt1.cell 7
  have z17 := bt1.frozen 7
  have c19 := bt1.cell 9
  simp only [tyC, List.getElem?_cons_zero, List.getElem?_cons_succ] at c17 c19
  gi_wp2
  have bt2 := bt1.set 7 (.slice op t.parts.length cp)
  change Blk _ _ (tyC t (.slice op t.parts.length cp) (.slice o2 t.meths.length c2) (.slice o3 t.overs.length c3)) _ at bt2
  have bf2 := box_otherN bf1 (show W.heap.size + 1 ≠ W.heap.size by omega) 7 (.slice op t.parts.length cp)
  have br2 := br1.other 7 (.slice op t.parts.length cp) (show W.heap.size + 2 ≠ W.heap.size by omega)
  have r12 := row_setB r1 (show W.heap.size < W0.heap.size by omega) 7 (.slice op t.parts.length cp)
  have hbw2 := hbw1.setCell (p := ⟨W.heap.size, 7, none⟩) (Nat.le_refl _) (.slice op t.parts.length cp)
  have hsz2 : W0.heap.size ≤ (w1.setCell ⟨W.heap.size, 7, none⟩ (.slice op t.parts.length cp)).heap.size := by simp; exact hb1.size
  generalize w1.setCell ⟨W.heap.size, 7, none⟩ (.slice op t.parts.length cp) = w2 at bt2 bf2 br2 r12 hbw2 hsz2 ⊢
  clear bt1 bf1 br1 r1 hb1 hbw1 c17 z17 c19
  refine ⟨trivial, ?_⟩
  refine (callsIn_wide.2 (clone_overs _ t.overs _ (ht.overs.mono fun _ _ _ _ => OverAt.go (.below hbw2)) (by omega))).mono ?_
  rintro e w3 ⟨vo, rfl, r3, hb3⟩
  obtain ⟨oo, co, rfl⟩ := row_form r3
  have bt3 := bt2.below hb3 bt2.lt
  have bf3 : Boxed w3 _ 94 _ := (hb3.block _ bf2.lt).trans bf2
  have br3 := br2.below hb3 br2.lt
  have r13 := Row.below r12 hb3
  have hbw3 := hbw2.trans (hb3.mono hbw2.size)
  have c39 := bt3.cell 9
  have z39 := bt3.frozen 9
  have c38 := bt3.cell 8
  simp only [tyC, List.getElem?_cons_zero, List.getElem?_cons_succ] at c39 c38
  gi_wp2
  have bt4 := bt3.set 9 (.slice oo t.overs.length co)
  change Blk _ _ (tyC t (.slice op t.parts.length cp) (.slice o2 t.meths.length c2) (.slice oo t.overs.length co)) _ at bt4
  have bf4 := box_otherN bf3 (show W.heap.size + 1 ≠ W.heap.size by omega) 9 (.slice oo t.overs.length co)
  have br4 := br3.other 9 (.slice oo t.overs.length co) (show W.heap.size + 2 ≠ W.heap.size by omega)
  have r14 := row_setB r13 (show W.heap.size < W0.heap.size by omega) 9 (.slice oo t.overs.length co)
  have r34 := row_setB r3 (show W.heap.size < w2.heap.size by omega) 9 (.slice oo t.overs.length co)
  have hbw4 := hbw3.setCell (p := ⟨W.heap.size, 9, none⟩) (Nat.le_refl _) (.slice oo t.overs.length co)
  have hsz4 : W0.heap.size ≤ (w3.setCell ⟨W.heap.size, 9, none⟩ (.slice oo t.overs.length co)).heap.size := by simp; have := hb3.size; omega
  generalize w3.setCell ⟨W.heap.size, 9, none⟩ (.slice oo t.overs.length co) = w4 at bt4 bf4 br4 r14 r34 hbw4 hsz4 ⊢
  clear bt3 bf3 br3 r3 r13 hb3 hbw3 c39 z39 c38 bt2 bf2 br2 r12 hbw2
  refine ⟨trivial, ?_⟩
  refine (callsIn_wide.2 (clone_meths _ t.meths W _ (.below hbw4) ht.meths (by omega))).mono ?_
  rintro e w5 ⟨vm, M, rfl, hM, hMV, r5, hb5⟩
  obtain ⟨om, cm, rfl⟩ := row_form r5
  have bt5 := bt4.below hb5 bt4.lt
  have bf5 : Boxed w5 _ 94 _ := (hb5.block _ bf4.lt).trans bf4
  have br5 := br4.below hb5 br4.lt
  have r15 := Row.below r14 hb5
  have r35 := Row.below r34 hb5
  have hbw5 := hbw4.trans (hb5.mono hbw4.size)
  have c58 := bt5.cell 8
  have z58 := bt5.frozen 8
  simp only [tyC, List.getElem?_cons_zero, List.getElem?_cons_succ] at c58
  gi_wp2
  have bt6 := bt5.set 8 (.slice om t.meths.length cm)
  change Blk _ _ (tyC t (.slice op t.parts.length cp) (.slice om t.meths.length cm) (.slice oo t.overs.length co)) _ at bt6
  have hRN : RN W (w5.setCell ⟨W.heap.size, 8, none⟩ (.slice om t.meths.length cm)) t (.func (.func ff) #[] caps) W0.heap.size (.slice op t.parts.length cp) (.slice om t.meths.length cm) (.slice oo t.overs.length co) M 0 := by
   refine ⟨hbw5.setCell (p := ⟨W.heap.size, 8, none⟩) (Nat.le_refl _) _, hs0, bt6, box_otherN bf5 (by omega) 8 _, br5.other 8 _ (by omega), row_setB r15 (by omega) 8 _, Row.mono (row_setB r35 (by omega) 8 _) (by omega), Row.mono (row_setB r5 (by omega) 8 _) (by omega), hM, fun j h hj => by omega, fun j h _ => hMV _ (List.getElem_mem h), fun j k h hj hk => by omega⟩
  generalize w5.setCell ⟨W.heap.size, 8, none⟩ (.slice om t.meths.length cm) = w6 at hRN bt6 ⊢
  generalize W0.heap.size = N at hRN
  clear bt5 bf5 br5 r15 r35 r5 hb5 hbw5 c58 z58 bt4 bf4 br4 r14 r34 hbw4 hsz4 bt0 bf0 br0 hs0 hb0 bt6 hM hMV hsz2
  have hml : t.meths.length ≤ 1000 := hm
  gi_loopw [23] (fun i wr => ∃ (q : Nat) (X : List MV), q ≤ t.meths.length ∧ i = .int .i64 q ∧ RN W wr t (.func (.func ff) #[] caps) N (.slice op t.parts.length cp) (.slice om t.meths.length cm) (.slice oo t.overs.length co) X q) (fun i _ => t.meths.length - (intOf i).toNat)
  case atStart => exact ⟨0, M, Nat.zero_le _, rfl, hRN⟩
  case round =>
   clear hRN
   obtain ⟨q, X, hq, rfl, hR⟩ := hrel
   have hXl : X.length = t.meths.length := by rw [← hR.xm]; simp
   by_cases hlt : q < t.meths.length
   ·have hlt' : (q : Int) < t.meths.length := by omega
    obtain ⟨mb, rfl⟩ := row_some hR.rm (by omega)
    have hqX : q < X.length := by omega
    have hmem : X[q].1 ∈ t.meths := by rw [← hR.xm]; exact List.mem_map_of_mem (List.getElem_mem hqX)
    obtain ⟨ha1, ha2⟩ := hma _ hmem
    have hold := hR.old q hqX (Nat.le_refl _)
    have cb8 := hR.b.cell 8
    simp only [tyC, List.getElem?_cons_zero, List.getElem?_cons_succ] at cb8
    have c1m : wr.cell? ⟨mb, q * 5 + 1, none⟩ = some X[q].2.1 := by
     rw [World.ownsRow.cellAt hR.rm (q * 5 + 1) (by omega)]
     unfold mvCells; rw [flat_get (sz := 5) (fun _ => rfl) X q 1 hqX (by omega)]; rfl
    have HC1 := hide (clone_ints X[q].2.1 X[q].1.args wr (hold.args.mono fun _ _ _ _ => IntAt.go (.below hR.bel)) (by omega))
    have hform1 := hold.args.form
    have hform2 := hold.raises.form
    have HSTEP := hide (fun (w1 w3 : World) (n1 n3 : Value) (hb1 : Below wr.heap.size wr w1) r1 hb3 r3 => RN.step (w1 := w1) (w3 := w3) (v1 := n1) (v3 := n3) hR hqX hb1 r1 hb3 r3)
    gi_wp2
    refine ⟨trivial, ?_⟩
    refine (callsIn_wide.2 (unhide HC1)).mono ?_
    rintro e w1 ⟨n1, rfl, r1, hb1⟩
    obtain ⟨on1, cn1, rfl⟩ := row_form r1
    have rm1 := Row.below hR.rm hb1
    have hb1W := hR.bel.trans (hb1.mono hR.bel.size)
    obtain ⟨hmN, cs1, hm1⟩ := row_block rm1
    have c1w := Holds.below hb1 _ _ c1m
    have z1w : w1.frozen? ⟨mb, q * 5 + 1, none⟩ = false := by simp [World.frozen?, hm1]
    have rm2 := row_setN rm1 (q * 5 + 1) (.slice on1 X[q].1.args.length cn1)
    rw [mv_set1 X q hqX] at rm2
    have hqs : q < (X.set q (X[q].1, (.slice on1 X[q].1.args.length cn1), X[q].2.2)).length := by simpa using hqX
    have c3m : (w1.setCell ⟨mb, q * 5 + 1, none⟩ (.slice on1 X[q].1.args.length cn1)).cell? ⟨mb, q * 5 + 1 + 2, none⟩ = some X[q].2.2 := by
     rw [show q * 5 + 1 + 2 = q * 5 + 3 by omega, World.ownsRow.cellAt rm2 (q * 5 + 3) (by omega)]
     unfold mvCells
     rw [flat_get (sz := 5) (fun _ => rfl) _ q 3 hqs (by omega)]
     simp [mvC]
    have hb2W : Below W.heap.size W (w1.setCell ⟨mb, q * 5 + 1, none⟩ (.slice on1 X[q].1.args.length cn1)) := hb1W.setCell (p := ⟨mb, q * 5 + 1, none⟩) (show W.heap.size ≤ mb by have := hR.hN; omega) (.slice on1 X[q].1.args.length cn1)
    have HC2 := hide (clone_strs X[q].2.2 X[q].1.raises (w1.setCell ⟨mb, q * 5 + 1, none⟩ (.slice on1 X[q].1.args.length cn1)) (hold.raises.mono fun _ _ _ _ => StrAt.go (.below hb2W)) (by omega))
    clear HC1
    gi_wp2
    refine ⟨trivial, ?_⟩
    refine (callsIn_wide.2 (unhide HC2)).mono ?_
    rintro e w3 ⟨n3, rfl, r3, hb3⟩
    obtain ⟨on3, cn3, rfl⟩ := row_form r3
    have rm3 := Row.below rm2 hb3
    obtain ⟨_, cs3, hm3⟩ := row_block rm3
    have c3w : w3.cell? ⟨mb, q * 5 + 1 + 2, none⟩ = some X[q].2.2 := Holds.below hb3 _ _ c3m
    have z3w : w3.frozen? ⟨mb, q * 5 + 1 + 2, none⟩ = false := by simp [World.frozen?, hm3]
    have hfin := unhide HSTEP w1 w3 _ _ hb1 r1 hb3 r3
    clear HC2 HSTEP
    gi_wp2
    go_roundw
    case rel => exact ⟨q + 1, _, by omega, by go_num, hfin⟩
    case measure => simp [intOf]; omega
   ·obtain rfl : q = t.meths.length := by omega
    have HPL := hide (fun w => places_any ⟨W.heap.size, 0, none⟩ w)
    gi_wp2_with (refine ⟨trivial, ?_⟩; gi_at_call 116; refine (callsIn_wide.2 (unhide HPL _)).mono ?_; rintro e w5 ⟨rfl, rfl⟩)
    have hI0 := hR.start tf (.pointer (some ⟨W.heap.size, 0, none⟩))
    have hnd := hR.nodup
    clear HPL
    have hw5 : (wr.alloc (.cells #[.pointer (some ⟨W.heap.size, 0, none⟩)] 126)).heap.size = wr.heap.size + 1 := by simp
    generalize wr.alloc (.cells #[.pointer (some ⟨W.heap.size, 0, none⟩)] 126) = w5 at hI0 hw5 ⊢
    have hbsz := hR.bel.size
    have HW5 := Lib.hid hw5
    clear hw5
    have HND := Lib.hid hnd
    clear hnd
    refine wpIn_rangeGives (gf := 168) (lb := #[.pointer (some ⟨wr.heap.size, 0, none⟩)]) (fun x : Addr => #[.pointer (some x)]) (allL W t op om X) (by simp [go_sem]) (enters_of Tryz.func168 (by kernel_rfl) rfl) (fun _ => rfl)
     (IN W wr tf (allL W t op om X) wr.heap.size (.pointer (some ⟨W.heap.size, 0, none⟩)) (.func (.func ff) #[] caps))
     hI0 ?it ?ia ?ip ?a1 ?assign ?body ?done
    case it =>
     intro l J hJI hY W' h0
     have hXl : X.length = t.meths.length := by rw [← hR.xm]; simp
     have := places_in l wr.heap.size W.heap.size 0 t.kind op t.parts.length cp om cm (X.map sigOf) (by omega) (by simp; omega)
      (fun s hs => by
       obtain ⟨i, hi, rfl⟩ := List.mem_iff_getElem.1 hs
       have hi' : i < X.length := by simpa using hi
       have hmem : X[i].1 ∈ t.meths := by rw [← hR.xm]; exact List.mem_map_of_mem (List.getElem_mem hi')
       obtain ⟨o, c, _, e2, e3⟩ := hR.sig hi'
       rw [List.getElem_map, e2]
       exact ⟨by have := (hma _ hmem).1; show X[i].1.args.length ≤ _; omega, fun h0 => by obtain ⟨ab, e4, _⟩ := e3 h0; exact ⟨ab, 0, e4⟩⟩)
      (fun h0 => by obtain ⟨g, e⟩ := row_some hR.rp h0; exact ⟨g, 0, e⟩)
      (fun h0 => by obtain ⟨g, e⟩ := row_some hR.rm (by simpa [hXl] using h0); exact ⟨g, 0, e⟩)
      J (fun p W1 h => ⟨(hJI p W1 h).cb.cell, by have := hR.reads (hJI p W1 h); simpa [hXl] using this⟩)
      (fun m h p W1 hj mb moff e => hR.sigs (hJI p W1 hj) h e)
      (fun m h j W1 _ hj mb moff e => hR.ress h (hJI _ W1 hj) e)
      hY W' h0
     exact this
    case ia =>
     rintro pre W' o' h
     exact h.below ((Below.refl _ _).alloc (Nat.le_refl _) _)
    case ip =>
     rintro pre W' l o1 o' h hl ho hoc
     exact h.put o' ho hoc (by have := HW5.out; omega)
    case assign =>
     intro l x W' K hK
     gi_wp2
     exact hK
    case body =>
     rintro l pre x W1 hpx hI
     have hin : x ∈ allL W t op om X := hpx.subset (by simp)
     obtain ⟨v, hv, hvr⟩ := hR.val hin
     have hxp : x ∉ pre := by
      intro e
      have := HND.out.sublist hpx.sublist
      rw [List.nodup_append] at this
      exact this.2.2 _ e _ (List.mem_singleton.2 rfl) rfl
     have hx1 := hI.cell hxp hv
     have hnv : newV wr tf x = .int .i64 (tf v) := by unfold newV valI; rw [hv]
     obtain ⟨hbx, _, _, _, hsp, _⟩ := hR.tag hin
     obtain ⟨hx2, hx3, hx4⟩ := hR.apart hin
     have c3 := hI.f.cell
     have zx := (hI.fz x hin).2.1
     have hmore := fun nn => (hI.below (W2 := W1.drewN nn) (below_drewN' (Below.refl _ _) nn)).more hpx (by rw [setAll_other _ _ hxp, hv]; rfl) hbx hsp (by omega) hx3 hx4
     rw [hnv] at hmore
     have HM := hide hmore
     have HC := hide (fun w1 (hb : ∃ n, w1 = W1.drewN n) => unhide HTF w1 (by obtain ⟨n, rfl⟩ := hb; exact below_drewN' hI.bel n) v hvr)
     have hmx : Tryz.prog.follows .mixedOrders = true := by kernel_rfl
     clear hmore hnv hI hR hma hin hvr hv hpx hxp hbsz hbx hx2 hx3 hx4
     gi_wp2
     refine tail_round 7 hmx (by kernel_rfl) (by kernel_rfl) (by rintro ⟨a, w, h⟩; exact absurd h.1 (by simp)) ?_
     simp only [List.take_succ_cons, List.take_zero, List.drop_succ_cons, List.drop_zero]
     repeat (go_big_quiet_step (fail))
     go_big_quiet_want
     go_big_quiet_op
     refine ⟨.int .i64 (tf v), fun nn => (unhide HC (W1.drewN nn) ⟨nn, rfl⟩).mono ?_, ?_⟩
     ·rintro e w2 ⟨rfl, rfl⟩
      exact ⟨rfl, nn, rfl⟩
     go_big_quiet_on
     repeat (go_big_quiet_step (fail))
     refine wpQuiet_nil ?_
     rintro _ ⟨nd, rfl⟩
     have hq1 : (W1.drewN nd).cell? x = some (.int .i64 v) := by simpa using hx1
     have hq2 : (W1.drewN nd).frozen? x = false := by simpa using zx
     have hq3 := unhide HM nd
     generalize hWn : W1.drewN nd = W2 at hq1 hq2 hq3 ⊢
     have hkf : KeepsFrom w5.heap.size W1 (W2.setCell x (.int .i64 (tf v))) := by
      rw [← hWn]; exact (keepsFrom_below (below_drewN' (Below.refl _ _) nd)).trans ((KeepsOthers.setCell _ _ _).from _)
     clear hWn
     go_wp2
    case done =>
     rintro W6 hI hK6
     have hcs := hR.cells (tf := tf) (W' := W6) (fun i v h => hI.hold _ v h)
     have hRD := hide (fun (W' : World) (h : HoldsFrom (W.heap.size + 3) W6 W') => hR.done (tf := tf) (W' := W') (fun b i hb v hv => h b i hb v (hI.hold _ v hv)))
     have hNn := hR.hN
     have hbt6 : W6.heap[W.heap.size]? = some (.cells (tyC (mapTy tf t) (.slice op t.parts.length cp) (.slice om t.meths.length cm) (.slice oo t.overs.length co)).toArray 62 (0, 0)) := by
      obtain ⟨cs, h1, h2⟩ := hI.t
      rw [← row_eq h1 (by rw [h2]; rfl) hcs]; exact h1
     have hr6 : W6.heap[W.heap.size + 2]? = some (.cells zeroTyC.toArray 62 (0, 0)) := hI.r
     have hbl6 := hI.bel
     generalize hU : mapTy tf t = U at hRD hcs hbt6
     have d0 : W6.cell? ⟨W.heap.size, 0, none⟩ = some (.int .u8 U.kind) := hcs 0 _ rfl
     have d1 : W6.cell? ⟨W.heap.size, 1, none⟩ = some (.int .i64 U.low) := hcs 1 _ rfl
     have d2 : W6.cell? ⟨W.heap.size, 2, none⟩ = some (.int .i64 U.high) := hcs 2 _ rfl
     have d3 : W6.cell? ⟨W.heap.size, 3, none⟩ = some (.bool U.branded) := hcs 3 _ rfl
     have d4 : W6.cell? ⟨W.heap.size, 4, none⟩ = some (.string U.brand) := hcs 4 _ rfl
     have d5 : W6.cell? ⟨W.heap.size, 5, none⟩ = some (.string U.opq) := hcs 5 _ rfl
     have d6 : W6.cell? ⟨W.heap.size, 6, none⟩ = some (.int .i64 U.super) := hcs 6 _ rfl
     have d7 : W6.cell? ⟨W.heap.size, 7, none⟩ = some (.slice op t.parts.length cp) := hcs 7 _ rfl
     have d8 : W6.cell? ⟨W.heap.size, 8, none⟩ = some (.slice om t.meths.length cm) := hcs 8 _ rfl
     have d9 : W6.cell? ⟨W.heap.size, 9, none⟩ = some (.slice oo t.overs.length co) := hcs 9 _ rfl
     have hw2 : W.heap.size + 2 < wr.heap.size := by
      have h2 := hR.r.lt
      exact h2
     have hr7 : Blk W6 (W.heap.size + 1 + 1) zeroTyC 62 := hI.r
     have zr := hr7.frozen
     have f0 := hr7.cell 0
     have f1 := hr7.cell 1
     have f2 := hr7.cell 2
     have f3 := hr7.cell 3
     have f4 := hr7.cell 4
     have f5 := hr7.cell 5
     have f6 := hr7.cell 6
     have f7 := hr7.cell 7
     have f8 := hr7.cell 8
     have f9 := hr7.cell 9
     simp only [zeroTyC, List.getElem?_cons_zero, List.getElem?_cons_succ] at f0 f1 f2 f3 f4 f5 f6 f7 f8 f9
     have HR7 := hide hr7
     clear hcs hI hR hI0 hr7 hbt6 hr6
     gi_wp2
     have hb7 := tyPut_blk U (.slice op t.parts.length cp) (.slice om t.meths.length cm) (.slice oo t.overs.length co) (unhide HR7)
     have hh7 := tyPut_holds (w := W6) (b := W.heap.size + 2) U (.slice op t.parts.length cp) (.slice om t.meths.length cm) (.slice oo t.overs.length co)
     have hl7 := tyPut_below U (.slice op t.parts.length cp) (.slice om t.meths.length cm) (.slice oo t.overs.length co) (show W.heap.size ≤ W.heap.size + 2 by omega) hbl6
     have hk7 := (tyPut_heap (w := W6) (b := W.heap.size + 2) (k := w5.heap.size) U (.slice op t.parts.length cp) (.slice om t.meths.length cm) (.slice oo t.overs.length co) (by have := HW5.out; omega)).trans hK6
     refine (show bodyPostM Fence.wide 2 Tryz.prog Tryz.f77 _ Exit.ret _ (tyPut W6 (W.heap.size + 2) U (.slice op t.parts.length cp) (.slice om t.meths.length cm) (.slice oo t.overs.length co)) from ?_)
     change Blk (tyPut W6 (W.heap.size + 2) U (.slice op t.parts.length cp) (.slice om t.meths.length cm) (.slice oo t.overs.length co)) (W.heap.size + 2) _ 62 at hb7
     generalize tyPut W6 (W.heap.size + 2) U (.slice op t.parts.length cp) (.slice om t.meths.length cm) (.slice oo t.overs.length co) = W7 at hb7 hh7 hl7 hk7 ⊢
     refine ⟨by simp, .inl ⟨_, _, rfl, run_takeDeferred hk7, ?_⟩⟩
     have hbp : (W7.putObj w5.heap.size (.deferred none)).heap[W.heap.size + 2]? = some (.cells (tyC U (.slice op t.parts.length cp) (.slice om t.meths.length cm) (.slice oo t.overs.length co)).toArray 62 (0, 0)) := (World.putObj_heap_other (by have := HW5.out; omega)).trans hb7
     refine ⟨_, results_cell_row rfl _ _ (W.heap.size + 2) 62 _ (0, 0) _ rfl hbp Tryz.underlying62 rfl (by kernel_rfl), .slice op t.parts.length cp, .slice om t.meths.length cm, .slice oo t.overs.length co, by rw [hU]; rfl, ?_, ?_⟩
     ·rw [hU]
      intro W'' hW''
      refine unhide hRD _ (fun b i hb v hv => ?_)
      have h8 := holds_put (.deferred none) hk7 rfl _ _ (hh7 b i hb v hv)
      exact hW'' b i v (by omega) (block_lt_of_cell h8) h8
     ·exact hl7.grown (grownBy_putObj' W7 _ _) hl7.size (fun j e => by cases e; have := HW5.out; omega)
end Go.Proofs.YteaokkaidcbdlaaGreatDoor

namespace Go.Proofs.YteaokkaidcbdlaaGreatDoor
open Go Go.RowKit Go.Shelf
attribute [local go_sem] Oper.semAt_some
def toF (tt : List Int) (x : Int) : Int := tt.getD x.toNat 0
theorem pick113 {W : World} {b : Nat} {o : Option Addr} {c : Nat} {tt : List Int} (hb : Boxed W b 37 (.slice o tt.length c)) (h : SliceOf 1 (IntAt W) (.slice o tt.length c) tt) {x : Int} (h0 : 0 ≤ x) (h1 : x < tt.length) :
    Calls Tryz.prog 113 #[.int .i64 x, .pointer (some ⟨b, 0, none⟩)] W fun e w' => e = .returned (.int .i64 (toF tt x)) ∧ w' = W := by
  obtain ⟨i, rfl⟩ := Int.eq_ofNat_of_zero_le h0
  have hi : i < tt.length := by omega
  obtain ⟨-, -, -, hat⟩ := h.at
  obtain ⟨b', off, rfl, hc⟩ := hat i tt[i] (List.getElem?_eq_getElem hi)
  have hv : toF tt (i : Int) = tt[i] := by unfold toF; simp [List.getD_eq_getElem?_getD, hi]
  rw [hv]
  generalize tt[i] = y at hc ⊢
  unfold IntAt at hc
  rw [Nat.mul_one] at hc
  have hbc := hb.cell
  clear hat
  go_enter Tryz.func113, Tryz.ntmps113
  go_wp2
  go_ret
  exact ⟨rfl, rfl⟩
theorem info62 : (Tryz.prog.info? 62).map (fun i => (i.zero, i.size, i.bytes)) = some (some (.agg #[.int .u8 0, .int .i64 0, .int .i64 0, .bool false, .string ⟨#[]⟩, .string ⟨#[]⟩, .int .i64 0, .slice none 0 0, .slice none 0 0, .slice none 0 0]), 10, 144) := by kernel_rfl
structure GrOwn (base : Nat) (w : World) (v : Value) (es : List Ent) : Prop where
 row : w.ownsRow base 62 10 v es.length (es.flatMap Ent.cells)
 far : ∀ e ∈ es, ∃ S E, base ≤ S ∧ E ≤ w.heap.size ∧ Far S E w e.p e.m e.o e.t ∧ ∀ g, v.ownBlock = some g → g < S ∨ E ≤ g
theorem GrOwn.gr {base : Nat} {w : World} {v : Value} {es : List Ent} (h : GrOwn base w v es) : GrAt w v (es.map Ent.t) := by
 have hrow := h.row
 obtain ⟨o, c, rfl⟩ := row_form hrow
 obtain ⟨c1, c2⟩ := row_caps hrow
 by_cases h0 : 0 < es.length
 ·obtain ⟨g, rfl⟩ := row_some hrow h0
  refine gr_of es (fun j u hj => ?_) (fun e he => ?_) c1 c2
  ·rw [World.ownsRow.cellAt hrow j (by
     have h1 := (List.getElem?_eq_some_iff.1 hj).1
     have h2 := hrow.1
     omega)]
   exact hj
  ·obtain ⟨S, E, _, _, hf, _⟩ := h.far e he
   exact hf.self
 ·have : es = [] := List.eq_nil_of_length_eq_zero (by omega)
  subst this
  exact ⟨o, c, by simp, by simp, c2, fun i x hx => by simp at hx⟩
theorem GrOwn.below {base : Nat} {w w' : World} {v : Value} {es : List Ent} (h : GrOwn base w v es) (hb : Below w.heap.size w w') : GrOwn base w' v es :=
 ⟨Row.below h.row hb, fun e he => by
  obtain ⟨S, E, h1, h2, h3, h4⟩ := h.far e he
  exact ⟨S, E, h1, by have := hb.size; omega, h3.kept (fun b _ hlt => hb.block b (by omega)), h4⟩⟩
theorem GrOwn.more {base : Nat} {w w1 w2 : World} {v v' : Value} {es : List Ent} {e : Ent} {tmp : Obj} (h : GrOwn base w v es) (hB : base ≤ w.heap.size) (hb : Below w.heap.size w w1) (hf : Far w.heap.size w1.heap.size w1 e.p e.m e.o e.t)
    (hown : w2.ownsRow base 62 10 v' (es.length + 1) (es.flatMap Ent.cells ++ e.cells)) (hg : (w1.alloc tmp).grownBy w2 v.ownBlock) (hv : v'.ownBlock = v.ownBlock ∨ v'.ownBlock = some (w1.alloc tmp).heap.size) : GrOwn base w2 v' (es ++ [e]) := by
  have hsz := hb.size
  have hs1 : (w1.alloc tmp).heap.size = w1.heap.size + 1 := by simp
  have hs2 := hg.size
  rw [hs1] at hv hs2
  have hkeep : ∀ b, b < w1.heap.size → some b ≠ v.ownBlock → w2.heap[b]? = w1.heap[b]? := fun b hlt hne => (hg.block b (by omega) hne).trans (Below.heap_alloc _ _ _ hlt)
  have hvb : ∀ g, v.ownBlock = some g → g < w.heap.size := fun g hg => (h.row.lt g hg).2
  refine ⟨by simpa using hown, fun x hx => ?_⟩
  rw [List.mem_append] at hx
  rcases hx with hx | hx
  ·obtain ⟨S, E, h1, h2, h3, h4⟩ := (h.below hb).far x hx
   obtain ⟨S', E', h1', h2', h3', h4'⟩ := h.far x hx
   refine ⟨S', E', h1', by omega, h3'.kept (fun b ha hlt => ?_), fun g hg' => ?_⟩
   ·refine (hkeep b (by omega) (fun e => ?_)).trans (hb.block b (by omega))
    rcases h4' b e.symm with h5 | h5 <;> omega
   ·rcases hv with hv | hv
    ·exact h4' g (hv ▸ hg')
    ·rw [hv] at hg'; cases hg'
     right; omega
  ·simp at hx; subst hx
   refine ⟨w.heap.size, w1.heap.size, hB, by omega, hf.kept (fun b ha hlt => hkeep b hlt (fun e => ?_)), fun g hg' => ?_⟩
   ·have := hvb b e.symm; omega
   ·rcases hv with hv | hv
    ·have := hvb g (hv ▸ hg'); omega
    ·rw [hv] at hg'; cases hg'
     right; omega
set_option maxRecDepth 100000 in
set_option maxHeartbeats 8000000 in
theorem picked_any (og : Option Addr) (cg : Nat) (G T : List TyD) (l : List Nat) (tt : List Int) (vl vt : Value) (W : World) (hG : GrAt W (.slice og G.length cg) G) (hl : SliceOf 1 (IntAt W) vl (l.map Int.ofNat)) (ht : SliceOf 1 (IntAt W) vt tt)
    (hll : l.length ≤ 1000) (hT : T.length = l.length) (hTl : ∀ j (h : j < l.length), ∃ h' : l[j] < G.length, T[j]? = some G[l[j]])
    (hb : ∀ t ∈ G, t.parts.length ≤ 1000 ∧ t.meths.length ≤ 1000 ∧ t.overs.length ≤ 1000 ∧ ∀ m ∈ t.meths, m.args.length ≤ 1000 ∧ m.raises.length ≤ 1000)
    (hz : ∀ t ∈ T, ∀ x ∈ refsOf t, 0 ≤ x ∧ x < tt.length) :
    Calls Tryz.prog 70 #[.slice og G.length cg, vl, vt] W fun e w' => ∃ v es, e = .returned v ∧ es.map Ent.t = T.map (mapTy (toF tt)) ∧ GrOwn W.heap.size w' v es ∧ Below W.heap.size W w' := by
  obtain ⟨ol, cl, rfl⟩ := hl.form
  obtain ⟨ot, ct, rfl⟩ := ht.form
  have hll' : (l.map Int.ofNat).length = l.length := by simp
  rw [hll'] at hl ⊢
  obtain ⟨i0, hi0, hz0, hz1, hz2⟩ := info_parts info62
  go_enter Tryz.func70, Tryz.ntmps70
  go_wp2
  have hb0 : Below W.heap.size W (W.alloc (.cells #[.slice ot tt.length ct] 37)) := (Below.refl _ _).alloc (Nat.le_refl _) _
  have bx0 := Boxed.new W 37 (.slice ot tt.length ct)
  have hs0 : (W.alloc (.cells #[.slice ot tt.length ct] 37)).heap.size = W.heap.size + 1 := by simp
  generalize W.alloc (.cells #[.slice ot tt.length ct] 37) = W0 at hb0 bx0 hs0 ⊢
  have HS0 := Lib.hid hs0
  clear hs0
  go_loopw [7, 12] (fun v i wr => ∃ (k : Nat) (es : List Ent), k ≤ l.length ∧ i = .int .i64 k ∧ es.length = k ∧ es.map Ent.t = (T.take k).map (mapTy (toF tt)) ∧ GrOwn W.heap.size wr v es ∧ Below W.heap.size W wr ∧ Boxed wr W.heap.size 37 (.slice ot tt.length ct)) (fun _ i _ => l.length - (intOf i).toNat)
  case atStart => exact ⟨0, [], Nat.zero_le _, rfl, rfl, by simp, ⟨World.ownsRow_nil _ _ _ _, fun e he => by simp at he⟩, hb0, bx0⟩
  case round =>
   clear hb0 bx0
   obtain ⟨k, es, hk, rfl, hek, hes, hO, hB, hX⟩ := hrel
   subst hek
   by_cases hlt : es.length < l.length
   ·have hlt' : (es.length : Int) < l.length := by omega
    obtain ⟨-, -, -, hatl⟩ := hl.at
    obtain ⟨lb, loff, rfl, hlc⟩ := hatl es.length (l[es.length] : Int) (by simp [hlt])
    obtain ⟨hlG, hTk⟩ := hTl es.length hlt
    have hlG' : (l[es.length] : Int) < G.length := by omega
    obtain ⟨gb, goff, rfl, hTy⟩ := hG.at.2.2.2 l[es.length] G[l[es.length]] (List.getElem?_eq_getElem hlG)
    have hTy1 := hTy.go (.below hB)
    have hmem := List.getElem_mem hlG
    have hTm : G[l[es.length]] ∈ T := List.mem_of_getElem? hTk
    obtain ⟨ot', eot⟩ : ∃ t, G[l[es.length]] = t := ⟨_, rfl⟩
    rw [eot] at hTy1 hmem hTm hTk
    obtain ⟨hb1, hb2, hb3, hb4⟩ := hb _ hmem
    obtain ⟨vp, vm, vo, hTL, k0, k1, k2, k3, k4, k5, k6, k7, k8, k9⟩ := hTy1
    have hlc1 : wr.cell? ⟨lb, loff + es.length, none⟩ = some (.int .i64 l[es.length]) := by
     have := Holds.below hB _ _ hlc
     rwa [Nat.mul_one] at this
    have HR := hide (renumbered_any ot' vp vm vo 113 #[.pointer (some ⟨W.heap.size, 0, none⟩)] (toF tt) wr hTL hb1 hb2 hb3 hb4 (fun W' hbW x hx => by
     obtain ⟨x0, x1⟩ := hz _ hTm x hx
     exact pick113 ((hbW.block _ hX.lt).trans hX) (ht.mono fun _ _ _ _ => IntAt.go (.below (hB.trans (hbW.mono hB.size)))) x0 x1) (enters_of Tryz.func113 (by kernel_rfl) rfl))
    have hrow := hO.row
    obtain ⟨o1, c1, rfl⟩ := row_form hrow
    generalize l[es.length] = lk at hlG' hlG hlc1 k0 k1 k2 k3 k4 k5 k6 k7 k8 k9
    clear hatl hlc hTy hTL
    unfold tyVal at HR
    obtain ⟨U, hU⟩ : ∃ U, mapTy (toF tt) ot' = U := ⟨_, rfl⟩
    rw [hU] at HR
    go_wp2_with (first
     | (go_at_call 77; with_reducible refine (unhide HR).mono ?_; clear HR; rintro e w1 ⟨u1, u2, u3, rfl, hfar, hbw⟩)
     | (at_builtin; refine wpList_append_own_at _ rfl _ _ 23 rfl W.heap.size 62 i0 (.agg #[.int .u8 0, .int .i64 0, .int .i64 0, .bool false, .string ⟨#[]⟩, .string ⟨#[]⟩, .int .i64 0, .slice none 0 0, .slice none 0 0, .slice none 0 0]) 10 144 Tryz.underlying23 hi0 hz0 hz1 hz2 rfl (by decide) _ es.length (es.flatMap Ent.cells) rfl (World.ownsRow.alloc (Row.below hrow hbw) _) ⟨_, 0, none⟩ 1 1 (tyC U u1 u2 u3) rfl rfl ?c1 ?c2 ?c3 ?c4 ?c5 ?_))
    case c1 => intro j u hj; rw [add_zero_addr]; exact (Blk.new w1 (tyC U u1 u2 u3) 62).cell j |>.trans hj
    case c2 =>
     intro u hu
     have hs := hfar.self
     obtain ⟨_, _, rfl⟩ := hs.parts.form
     obtain ⟨_, _, rfl⟩ := hs.meths.form
     obtain ⟨_, _, rfl⟩ := hs.overs.form
     simp [tyC] at hu
     rcases hu with rfl | rfl | rfl | rfl | rfl | rfl | rfl | rfl | rfl | rfl <;> rfl
    case c3 => unfold maxLen; omega
    case c4 => omega
    case c5 => have := hB.size; have := hbw.size; simp; omega
    intro v' w2 hown' hgrow _ hv'
    have hO2 := hO.more (e := ⟨U, u1, u2, u3⟩) hB.size hbw hfar hown' hgrow (by simpa using hv')
    have hX1 : Boxed w1 W.heap.size 37 _ := (hbw.block _ hX.lt).trans hX
    have hX2 : Boxed w2 W.heap.size 37 _ := (hX1.alloc (.cells (tyC U u1 u2 u3).toArray 62)).kept hgrow ((hX1.alloc (.cells (tyC U u1 u2 u3).toArray 62)).not_row (by decide) ((Row.below hrow hbw).alloc (.cells (tyC U u1 u2 u3).toArray 62)))
    have hB2 : Below W.heap.size W w2 := ((hB.trans (hbw.mono hB.size)).alloc (by have := hB.size; have := hbw.size; omega) _).grown hgrow (by have := hB.size; have := hbw.size; simp; omega) (fun j e => (hrow.lt j e).1)
    have hes2 : (es ++ [(⟨U, u1, u2, u3⟩ : Ent)]).map Ent.t = (T.take (es.length + 1)).map (mapTy (toF tt)) := by
     have hlT : es.length < T.length := by omega
     rw [List.getElem?_eq_getElem hlT] at hTk
     injection hTk with hTk
     rw [List.take_succ_eq_append_getElem hlT, List.map_append, List.map_append, hes, hTk]
     simp [hU]
    clear hown' hgrow hrow hO hes hX hfar hbw
    go_wp2
    go_roundw
    case rel => exact ⟨es.length + 1, es ++ [⟨U, u1, u2, u3⟩], by omega, by go_num, by simp, hes2, hO2, hB2, hX2⟩
    case measure => simp [intOf]; omega
   ·have hll2 : es.length = l.length := by omega
    have hge : ¬ ((es.length : Int) < l.length) := by omega
    rw [hll2, ← hT, List.take_length] at hes
    clear hX
    go_wp2
    go_ret
    exact ⟨_, rfl, es, hes, hO, hB⟩
end Go.Proofs.YteaokkaidcbdlaaGreatDoor

namespace Go.Proofs.YteaokkaidcbdlaaGreatDoor
open Go Go.RowKit Go.Shelf
attribute [local go_sem] Oper.semAt_some
def mergeS (c : Nat → Nat) : Nat → List Nat × List Nat
 | 0 => ([], [])
 | k + 1 => if c k = k then ((mergeS c k).1 ++ [k], (mergeS c k).2 ++ [(mergeS c k).1.length]) else ((mergeS c k).1, (mergeS c k).2 ++ [(mergeS c k).2.getD (c k) 0])
theorem mergeS_len (c : Nat → Nat) : ∀ k, (mergeS c k).2.length = k ∧ (mergeS c k).1.length ≤ k ∧ ∀ x ∈ (mergeS c k).1, x < k
 | 0 => ⟨rfl, Nat.le_refl _, fun x h => by simp [mergeS] at h⟩
 | k + 1 => by
   obtain ⟨h1, h2, h3⟩ := mergeS_len c k
   unfold mergeS
   split
   ·refine ⟨by simp [h1], by simp; omega, fun x hx => ?_⟩
    rw [List.mem_append] at hx
    rcases hx with hx | hx
    ·have := h3 x hx; omega
    ·simp at hx; omega
   ·exact ⟨by simp [h1], by simp; omega, fun x hx => by have := h3 x hx; omega⟩
def mergeL (G : List TyD) : List Nat × List Nat := mergeS (clF G) G.length
def mergeT (G : List TyD) : List TyD := (mergeL G).1.map fun i => mapTy (toF ((mergeL G).2.map Int.ofNat)) (G.getD i default)
theorem clF_le (G : List TyD) : ∀ i, i < G.length → clF G i ≤ i := by
 unfold clF classesL
 have h0 := leasts_spec (fun f i => agreeB (G.getD f default) (G.getD i default)) G.length
 have h1 := fun i hi => (h0.2.1 i hi).1
 generalize (leastsS (fun f i => agreeB (G.getD f default) (G.getD i default)) G.length).2 = c at h1
 clear h0
 generalize G.length + 1 = m
 induction m generalizing c with
 | zero => exact h1
 | succ m ih =>
   unfold settle
   split
   ·exact h1
   ·exact ih _ (fun i hi => ((leasts_spec (finerB (c.map Int.ofNat) (G.map refsOf)) G.length).2.1 i hi).1)
structure MgI (B : Nat) (w1 : World) (L M : List Nat) (v7 v8 : Value) (wr : World) : Prop where
 bel : Below B w1 wr
 hB : B ≤ wr.heap.size
 r7 : wr.ownsRow B 3 1 v7 L.length (natsV L)
 r8 : wr.ownsRow B 3 1 v8 M.length (natsV M)
 apt : Apt v7 v8
theorem MgI.push7 {B : Nat} {w1 wr w2 : World} {L M : List Nat} {v7 v8 : Value} {g cap x : Nat} {tmp : Obj} (h : MgI B w1 L M v7 v8 wr)
    (hown : w2.ownsRow B 3 1 (.slice (some ⟨g, 0, none⟩) (L.length + 1) cap) (L.length + 1) (natsV L ++ [natI x])) (hgrow : (wr.alloc tmp).grownBy w2 v7.ownBlock) (hg : v7.ownBlock = some g ∨ g = wr.heap.size + 1)
    (hbl : ∀ B' w0, Below B' w0 (wr.alloc tmp) → B' ≤ B → Below B' w0 w2) : MgI B w1 (L ++ [x]) M (.slice (some ⟨g, 0, none⟩) (L.length + 1) cap) v8 w2 := by
  refine ⟨hbl _ _ (h.bel.alloc h.hB _) (Nat.le_refl _), Nat.le_trans h.hB (Nat.le_trans (by simp) hgrow.size), by rw [natsV_snoc]; simpa using hown, Apt.kept (h.r8.alloc tmp) hgrow h.apt, fun g0 hg0 hn => ?_⟩
  obtain rfl : g = g0 := by simpa [Value.ownBlock] using hg0
  rcases hg with hg | hg
  ·exact h.apt g hg hn
  ·have := (h.r8.lt g hn).2
   omega
theorem MgI.push8 {B : Nat} {w1 wr w2 : World} {L M : List Nat} {v7 v8 : Value} {g cap x : Nat} {tmp : Obj} (h : MgI B w1 L M v7 v8 wr)
    (hown : w2.ownsRow B 3 1 (.slice (some ⟨g, 0, none⟩) (M.length + 1) cap) (M.length + 1) (natsV M ++ [natI x])) (hgrow : (wr.alloc tmp).grownBy w2 v8.ownBlock) (hg : v8.ownBlock = some g ∨ g = wr.heap.size + 1)
    (hbl : ∀ B' w0, Below B' w0 (wr.alloc tmp) → B' ≤ B → Below B' w0 w2) : MgI B w1 L (M ++ [x]) v7 (.slice (some ⟨g, 0, none⟩) (M.length + 1) cap) w2 := by
  refine ⟨hbl _ _ (h.bel.alloc h.hB _) (Nat.le_refl _), Nat.le_trans h.hB (Nat.le_trans (by simp) hgrow.size), Apt.kept (h.r7.alloc tmp) hgrow h.apt.symm, by rw [natsV_snoc]; simpa using hown, fun g0 hg0 hn => ?_⟩
  obtain rfl : g = g0 := by simpa [Value.ownBlock] using hn
  rcases hg with hg | hg
  ·exact h.apt g hg0 hg
  ·have := (h.r7.lt g hg0).2
   omega
theorem check_sigs {G : List TyD} (h : (checkR G).2 = 0) : ∀ t ∈ G, ∀ m ∈ t.meths, m.args.length ≤ 1000 ∧ m.raises.length ≤ 1000 := by
 unfold checkR at h
 split at h
 ·simp at h
 ·rename_i h4
  split at h
  ·simp at h
  ·rename_i hn
   have hall := firstNo_all (p := tyB G) (l := G) (by
    rcases firstNo_ge (tyB G) G with h1 | h1
    ·exact h1
    ·exact absurd h1 hn)
   intro t ht m hm
   have := (tyB_refs (hall t ht)).meths m hm
   unfold sigB at this
   simp at this
   omega
set_option maxRecDepth 100000 in
set_option maxHeartbeats 1000000 in
theorem merge_any (gv : Value) (G : List TyD) (W : World) (hG0 : GrAt W gv G) (hz : GrZ G) :
    Calls Tryz.prog 34 #[gv] W fun e w' => ∃ v m, e = .returned (.tuple #[v, m, .int .i64 (checkedR G [])]) ∧ Below W.heap.size W w' ∧ (if checkedR G [] = 0 then (∃ es, es.map Ent.t = mergeT G ∧ GrOwn W.heap.size w' v es) ∧ w'.ownsRow W.heap.size 3 1 m G.length (natsV (mergeL G).2) else v = .slice none 0 0 ∧ m = .slice none 0 0) := by
  obtain ⟨o, cap, rfl⟩ := hG0.form
  have HC := hide (checked_any _ G W hG0 hz (.slice none 0 0) [] .none')
  by_cases h0 : checkedR G [] = 0
  ·obtain ⟨h1, h2, h3⟩ := checked_fit hz h0
   have HK := hide (fun (w1 : World) (h : Below W.heap.size W w1) => classes_any _ G w1 (hG0.below h) h1 h2 h3)
   have hsg := check_sigs (checkedR_ok h0).1
   rw [h0] at HC ⊢
   simp only [↓reduceIte]
   go_enter Tryz.func34, Tryz.ntmps34
   go_wp2_with (first | (go_at_call 57; refine (unhide HC).mono ?_; clear HC; rintro e w1 ⟨rfl, hb1⟩) | (go_at_call 64; refine (unhide HK w1 hb1).mono ?_; clear HK; rintro e w3 ⟨v3, rfl, hr3, hb3⟩; obtain ⟨o3, c3, rfl⟩ := row_form hr3))
   have hb13 := hb1.trans (hb3.mono hb1.size)
   have hI0 : MgI w3.heap.size w3 (mergeS (clF G) 0).1 (mergeS (clF G) 0).2 (.slice none 0 0) (.slice none 0 0) w3 := ⟨Below.refl _ _, Nat.le_refl _, World.ownsRow_nil _ _ _ _, World.ownsRow_nil _ _ _ _, fun g h => by simp [Value.ownBlock] at h⟩
   go_loopw [7, 8, 20] (fun v7 v8 i wr => ∃ k : Nat, k ≤ G.length ∧ i = .int .i64 k ∧ MgI w3.heap.size w3 (mergeS (clF G) k).1 (mergeS (clF G) k).2 v7 v8 wr) (fun _ _ i _ => G.length - (intOf i).toNat)
   case atStart => exact ⟨0, Nat.zero_le _, rfl, hI0⟩
   case round =>
    clear hI0
    obtain ⟨k, hk, rfl, hI⟩ := hrel
    obtain ⟨hl1, hl2, hl3⟩ := mergeS_len (clF G) k
    obtain ⟨o7, c7, rfl⟩ := row_form hI.r7
    obtain ⟨o8, c8, rfl⟩ := row_form hI.r8
    by_cases hlt : k < G.length
    ·have hlt' : (k : Int) < G.length := by omega
     obtain ⟨g3, rfl⟩ := row_some hr3 (by omega)
     have hcc := Holds.below hI.bel _ _ (classes_cell hr3 k hlt)
     have hle := clF_le G k hlt
     have HS := Lib.hid (show mergeS (clF G) (k + 1) = if clF G k = k then ((mergeS (clF G) k).1 ++ [k], (mergeS (clF G) k).2 ++ [(mergeS (clF G) k).1.length]) else ((mergeS (clF G) k).1, (mergeS (clF G) k).2 ++ [(mergeS (clF G) k).2.getD (clF G k) 0]) from rfl)
     generalize clF G k = ck at hcc hle HS
     generalize (mergeS (clF G) k).1 = L at hI hl2 hl3 HS ⊢
     generalize (mergeS (clF G) k).2 = M at hI hl1 HS ⊢
     subst hl1
     have hN := hI.hB
     by_cases hck : ck = M.length
     ·subst hck
      have HS2 := HS.out
      rw [if_pos rfl] at HS2
      have HS3 := Lib.hid HS2
      clear HS HS2
      go_wp2_with (first | (at_builtin; refine app_lies _ _ 37 3 (.int .i64 0) 8 info3 Tryz.underlying37 rfl (by decide) rfl rfl w3.heap.size _ (natsV L) rfl (by rw [natsV_len]; exact hI.r7.alloc _) _ (natI M.length) rfl ?c1 rfl (by rw [natsV_len]; omega) ?c2 ?_))
      case c1 => exact (Blk.new wr [natI M.length] 3).cell 0
      case c2 => simp; omega
      intro g cap2 w4 hown' hgrow hg hbl
      rw [natsV_len] at hown' ⊢
      have hI2 := hI.push7 hown' hgrow hg hbl
      have hN2 := hI2.hB
      clear hown' hgrow hg hbl hI
      have hsub : ((L.length : Int) + 1 - 1) = (L.length : Int) := by omega
      go_wp2_with (first | (at_builtin; refine app_lies _ _ 37 3 (.int .i64 0) 8 info3 Tryz.underlying37 rfl (by decide) rfl rfl w3.heap.size _ (natsV M) rfl (by rw [natsV_len]; exact hI2.r8.alloc _) _ (natI L.length) rfl ?c1 rfl (by rw [natsV_len]; omega) ?c2 ?_))
      case c1 => exact (Blk.new w4 [natI L.length] 3).cell 0
      case c2 => simp; omega
      intro g2 cap3 w5 hown' hgrow hg hbl
      rw [natsV_len] at hown' ⊢
      have hI3 := hI2.push8 hown' hgrow hg hbl
      clear hown' hgrow hg hbl hI2
      go_wp2
      go_roundw
      case rel => exact ⟨M.length + 1, by omega, by go_num, by rw [HS3.out]; exact hI3⟩
      case measure => simp [intOf]; omega
     ·have HS2 := HS.out
      rw [if_neg hck] at HS2
      have hck2 : ck < M.length := by omega
      have hck' : (ck : Int) < M.length := by omega
      have hckn : ((ck : Int) == M.length) = false := by simp; omega
      obtain ⟨g8, rfl⟩ := row_some hI.r8 (by omega)
      obtain ⟨x, hx⟩ : ∃ x, M.getD ck 0 = x := ⟨_, rfl⟩
      have hcx : wr.cell? ⟨g8, ck, none⟩ = some (.int .i64 x) := by
       rw [Row1.cells hI.r8 ck hck2, ← hx]
       unfold natsV
       rw [List.getElem?_map, List.getElem?_eq_getElem hck2, List.getD_eq_getElem?_getD, List.getElem?_eq_getElem hck2]; rfl
      rw [hx] at HS2
      have HS3 := Lib.hid HS2
      clear HS HS2
      go_wp2_with (first | (at_builtin; refine app_lies _ _ 37 3 (.int .i64 0) 8 info3 Tryz.underlying37 rfl (by decide) rfl rfl w3.heap.size _ (natsV M) rfl (by rw [natsV_len]; exact hI.r8.alloc _) _ (natI x) rfl ?c1 rfl (by rw [natsV_len]; omega) ?c2 ?_))
      case c1 => exact (Blk.new wr [natI x] 3).cell 0
      case c2 => simp; omega
      intro g cap2 w4 hown' hgrow hg hbl
      rw [natsV_len] at hown' ⊢
      have hI2 := hI.push8 hown' hgrow hg hbl
      clear hown' hgrow hg hbl hI
      go_wp2
      go_roundw
      case rel => exact ⟨M.length + 1, by omega, by go_num, by rw [HS3.out]; exact hI2⟩
      case measure => simp [intOf]; omega
    ·obtain rfl : k = G.length := by omega
     have hfit := hz.tys
     have hB3 := hb13.trans (hI.bel.mono hb13.size)
     generalize hmm : mergeS (clF G) G.length = P at hI hl1 hl2 hl3 ⊢
     have hML : mergeL G = P := hmm
     clear hmm
     have HP := hide (picked_any o cap G (P.1.map fun i => G.getD i default) P.1 (P.2.map Int.ofNat) (.slice o7 P.1.length c7) (.slice o8 P.2.length c8) wr (hG0.below hB3) (row_nats hI.r7) (row_nats hI.r8) (by omega) (by simp)
      (fun j hj => ⟨hl3 _ (List.getElem_mem hj), by
       have := hl3 _ (List.getElem_mem hj)
       simp [hj, List.getD_eq_getElem?_getD, this]⟩)
      (fun t ht => by
       obtain ⟨_, a, b, c, _⟩ := hfit t ht
       exact ⟨by omega, by omega, by omega, hsg t ht⟩)
      (fun t ht => by
       obtain ⟨i, hi, rfl⟩ := List.mem_map.1 ht
       have hi' := hl3 i hi
       have hm : G.getD i default ∈ G := by
        rw [List.getD_eq_getElem?_getD, List.getElem?_eq_getElem hi']; exact List.getElem_mem hi'
       intro x hx
       have := h3 _ hm x hx
       rw [List.length_map, hl1]; exact this))
     have hr8 := hI.r8
     have hT : (List.map (fun i => G.getD i default) P.1).map (mapTy (toF (P.2.map Int.ofNat))) = mergeT G := by unfold mergeT; rw [List.map_map, hML]; rfl
     rw [hT] at HP
     have hsz := hB3.size
     have hw3 := hb13.size
     have HML := Lib.hid hML
     clear hML
     obtain ⟨L, M⟩ := P
     simp only at hr8 HP hl1 hl2 ⊢
     rw [hl1] at HP hr8
     clear hfit h1 h2 h3 hsg hz hl3 hT hI hG0
     go_wp2_with (first | (go_at_call 70; refine (unhide HP).mono ?_; clear HP; rintro e w6 ⟨v, es, rfl, he, hO, hb6⟩))
     go_ret3
     refine ⟨_, _, rfl, hB3.trans (hb6.mono hB3.size), ⟨es, he, ?_⟩, ?_⟩
     ·exact ⟨Row.mono hO.row hsz, fun e he => by
      obtain ⟨S, E, a, b, c, d⟩ := hO.far e he
      exact ⟨S, E, by omega, b, c, d⟩⟩
     ·rw [HML.out]
      exact Row.mono (Row.below hr8 hb6) hw3
  ·simp only [if_neg h0]
   clear hG0 hz
   generalize checkedR G [] = ck at h0 HC ⊢
   go_enter Tryz.func34, Tryz.ntmps34
   go_wp2_with (first | (go_at_call 57; refine (unhide HC).mono ?_; clear HC; rintro e w1 ⟨rfl, hb1⟩))
   go_ret3
   exact ⟨_, _, rfl, hb1, rfl, rfl⟩
end Go.Proofs.YteaokkaidcbdlaaGreatDoor

namespace Go.Proofs.YteaokkaidcbdlaaGreatDoor
open Go Go.RowKit Go.Shelf
attribute [local go_sem] Oper.semAt_some
theorem num127 {W : World} {b : Nat} {o : Option Addr} {c : Nat} {tt : List Int} (hb : Boxed W b 37 (.slice o tt.length c)) (h : SliceOf 1 (IntAt W) (.slice o tt.length c) tt) {x : Int} (h0 : 0 ≤ x) (h1 : x < tt.length) :
    Calls Tryz.prog 127 #[.int .i64 x, .pointer (some ⟨b, 0, none⟩)] W fun e w' => e = .returned (.int .i64 (toF tt x)) ∧ w' = W := by
  obtain ⟨i, rfl⟩ := Int.eq_ofNat_of_zero_le h0
  have hi : i < tt.length := by omega
  obtain ⟨-, -, -, hat⟩ := h.at
  obtain ⟨b', off, rfl, hc⟩ := hat i tt[i] (List.getElem?_eq_getElem hi)
  have hv : toF tt (i : Int) = tt[i] := by unfold toF; simp [List.getD_eq_getElem?_getD, hi]
  rw [hv]
  generalize tt[i] = y at hc ⊢
  unfold IntAt at hc
  rw [Nat.mul_one] at hc
  have hbc := hb.cell
  clear hat
  go_enter Tryz.func127, Tryz.ntmps127
  go_wp2
  go_ret
  exact ⟨rfl, rfl⟩
def numN (R : List Nat) (c : Nat) : Nat := if c ∈ R then R.idxOf c else 0
theorem numN_look {R : List Nat} (hn : R.Nodup) (c : Nat) : (lookA (numA R) c).getD (natI 0) = natI (numN R c) := by
 unfold numN
 split
 ·rename_i h
  have hi := List.idxOf_lt_length_iff.2 h
  have := lookA_num hn hi
  rw [List.getElem_idxOf hi] at this
  rw [this]; rfl
 ·rename_i h
  rw [lookA_none (by rw [numA_keys]; exact h)]; rfl
def numR (G : List TyD) (a : Nat) : List Nat := reachL (clF G) G a
def numTo (G : List TyD) (a : Nat) : List Nat := (classesL G).map (numN (numR G a))
def numT (G : List TyD) (a : Nat) : List TyD := (numR G a).map fun i => mapTy (toF ((numTo G a).map Int.ofNat)) (G.getD i default)
theorem toF_cl (G : List TyD) {x : Nat} (hx : x < G.length) : toF ((classesL G).map Int.ofNat) x = clF G x := by
 have : x < (classesL G).length := by rw [classesL_len]; exact hx
 unfold toF clF
 simp [List.getD_eq_getElem?_getD, this]
set_option maxRecDepth 100000 in
set_option maxHeartbeats 2000000 in
theorem numbered_any (o : Option Addr) (cap : Nat) (G : List TyD) (a : Nat) (W : World) (hG : GrAt W (.slice o G.length cap) G) (hf : Fit G) (ha : a < G.length)
    (hb : ∀ t ∈ G, t.parts.length ≤ 1000 ∧ t.meths.length ≤ 1000 ∧ t.overs.length ≤ 1000 ∧ ∀ m ∈ t.meths, m.args.length ≤ 1000 ∧ m.raises.length ≤ 1000) :
    Calls Tryz.prog 81 #[.slice o G.length cap, .int .i64 a] W fun e w' => ∃ v es, e = .returned v ∧ es.map Ent.t = numT G a ∧ GrOwn W.heap.size w' v es ∧ Below W.heap.size W w' := by
  obtain ⟨h1, h2, h3⟩ := hf
  have HK := hide (classes_any _ G W hG h1 h2 h3)
  go_enter Tryz.func81, Tryz.ntmps81
  go_wp2_with (first | (go_at_call 64; refine (unhide HK).mono ?_; clear HK; rintro e w1 ⟨v1, rfl, hr1, hb1⟩; obtain ⟨o1, c1, rfl⟩ := row_form hr1))
  have hcl : (classesL G).length = G.length := classesL_len G
  have hcm : ((classesL G).map Int.ofNat).length = G.length := by rw [List.length_map]; exact hcl
  have hb12 : Below w1.heap.size w1 (w1.alloc (.cells #[.slice o1 G.length c1] 37)) := (Below.refl _ _).alloc (Nat.le_refl _) _
  have bx := Boxed.new w1 37 (.slice o1 G.length c1)
  generalize w1.alloc (.cells #[.slice o1 G.length c1] 37) = w2 at hb12 bx ⊢
  have hb02 := hb1.trans (hb12.mono hb1.size)
  have hr2 := Row.below hr1 hb12
  have hsl2 : SliceOf 1 (IntAt w2) (.slice o1 ((classesL G).map Int.ofNat).length c1) ((classesL G).map Int.ofNat) := by
   rw [hcm]
   refine row_nats (base := W.heap.size) ?_
   rw [hcl]; exact hr2
  refine (reachedFrom_any o cap G a 127 #[.pointer (some ⟨w1.heap.size, 0, none⟩)] (clF G) w2 (hG.below hb02) h1 h3 ha (fun x hx => Nat.lt_of_le_of_lt (clF_le G x hx) hx) (fun W' hbW x hx => by
   have hx' : x < G.length := hx
   rw [← toF_cl G hx']
   exact num127 (by rw [hcm]; exact (hbW.block _ bx.lt).trans bx) (hsl2.mono fun _ _ _ _ => IntAt.go (.below hbW)) (by omega) (by rw [hcm]; omega)) (enters_of Tryz.func127 (by kernel_rfl) rfl)).mono ?_
  rintro e w4 ⟨vR, mbk, rfl, hrR, hMN, hmk, hRI, hb24⟩
  have hNR := Lib.hid (show reachL (clF G) G a = numR G a from rfl)
  rw [hNR.out] at hrR hMN hRI
  obtain ⟨oR, cR, rfl⟩ := row_form hrR
  have hRl := hRI.len
  have hr4 := Row.below hr2 hb24
  have hx4 : Boxed w4 w1.heap.size 37 _ := (hb24.block _ bx.lt).trans bx
  have hb04 := hb02.trans (hb24.mono hb02.size)
  have hc4 := hx4.cell
  have hNT := Lib.hid (show (classesL G).map (numN (numR G a)) = numTo G a from rfl)
  have hNU := Lib.hid (show numT G a = (numR G a).map fun i => mapTy (toF ((numTo G a).map Int.ofNat)) (G.getD i default) from rfl)
  generalize numR G a = R at hrR hMN hRI hRl hNT hNU ⊢
  go_wp2
  clear hb12 bx hr1 hr2 hsl2 hx4 hc4 hb02
  go_loopw [8, 22] (fun v i wr => ∃ k : Nat, k ≤ G.length ∧ i = .int .i64 k ∧ Below w4.heap.size w4 wr ∧ wr.ownsRow w4.heap.size 3 1 v k (natsV (((classesL G).take k).map (numN R)))) (fun _ i _ => G.length - (intOf i).toNat)
  case atStart => exact ⟨0, Nat.zero_le _, rfl, Below.refl _ _, World.ownsRow_nil _ _ _ _⟩
  case round =>
   obtain ⟨k, hk, rfl, hbw, hrow⟩ := hrel
   obtain ⟨o8, c8, rfl⟩ := row_form hrow
   by_cases hlt : k < G.length
   ·have hlt' : (k : Int) < G.length := by omega
    obtain ⟨g1, rfl⟩ := row_some hr4 (by omega)
    have hkc : k < (classesL G).length := by omega
    have hcc : wr.cell? ⟨g1, k, none⟩ = some (.int .i64 (clF G k)) := Holds.below hbw _ _ (classes_cell hr4 k hlt)
    have hcn : clF G k < G.length := Nat.lt_of_le_of_lt (clF_le G k hlt) hlt
    have hck : (classesL G)[k] = clF G k := by unfold clF; simp [List.getD_eq_getElem?_getD, hkc]
    have hMN2 : MapN wr mbk R := hMN.below hbw hMN.lt
    obtain ⟨kl, hkl⟩ := key_nat (n := clF G k) (by omega)
    have hlook := hMN2.lookup law3 natI_inj' Tryz.underlying95 (Tryz.zeroValue3 wr) false (k := clF G k) hkl
    simp only [Bool.false_eq_true, if_false] at hlook
    rw [show (Value.int IntKind.i64 0) = natI 0 from rfl, numN_look hRI.nodup] at hlook
    unfold natI at hlook
    have hsn : ((classesL G).take (k + 1)).map (numN R) = ((classesL G).take k).map (numN R) ++ [numN R (clF G k)] := by
     rw [List.take_succ_eq_append_getElem hkc, List.map_append, hck]; rfl
    have hlk : (((classesL G).take k).map (numN R)).length = k := by simp; omega
    have HSN := Lib.hid hsn
    generalize numN R (clF G k) = nk at hlook HSN
    generalize ((classesL G).take k).map (numN R) = M at hrow hlk HSN
    generalize clF G k = ck at hcc hcn hlook
    have hN := hbw.size
    subst hlk
    clear hsn hck hkl hMN2
    go_wp2_with (first | (at_builtin; refine app_lies _ _ 37 3 (.int .i64 0) 8 info3 Tryz.underlying37 rfl (by decide) rfl rfl w4.heap.size _ (natsV M) rfl (by rw [natsV_len]; exact hrow.alloc _) _ (natI nk) rfl ?c1 rfl (by rw [natsV_len]; omega) ?c2 ?_))
    case c1 => exact (Blk.new wr [natI nk] 3).cell 0
    case c2 => simp; omega
    intro g cap2 w5 hown' hgrow hg hbl
    rw [natsV_len] at hown' ⊢
    have hb5 := hbl _ _ (hbw.alloc hN (.cells #[natI nk] 3)) (Nat.le_refl _)
    go_wp2
    go_roundw
    case rel => exact ⟨M.length + 1, by omega, by go_num, hb5, by rw [HSN.out, natsV_snoc]; exact hown'⟩
    case measure => simp [intOf]; omega
   ·obtain rfl : k = G.length := by omega
    rw [show (classesL G).take G.length = classesL G by rw [← hcl, List.take_length], hNT.out] at hrow
    have hTl : (numTo G a).length = G.length := by unfold numTo; rw [List.length_map]; exact hcl
    have hB3 := hb04.trans (hbw.mono hb04.size)
    have HP := hide (picked_any o cap G (R.map fun i => G.getD i default) R ((numTo G a).map Int.ofNat) (.slice oR R.length cR) (.slice o8 G.length c8) wr (hG.below hB3) (row_nats (Row.below hrR hbw)) (by
        have := row_nats (v := .slice o8 G.length c8) (l := numTo G a) (base := w4.heap.size) (w := wr) (by rw [hTl]; exact hrow)
        exact this) (by omega) (by simp)
      (fun j hj => ⟨hRI.bnd _ (List.getElem_mem hj), by
       have := hRI.bnd _ (List.getElem_mem hj)
       simp [hj, List.getD_eq_getElem?_getD, this]⟩) hb
      (fun t ht => by
       obtain ⟨i, hi, rfl⟩ := List.mem_map.1 ht
       have hi' := hRI.bnd i hi
       have hm : G.getD i default ∈ G := by
        rw [List.getD_eq_getElem?_getD, List.getElem?_eq_getElem hi']; exact List.getElem_mem hi'
       intro x hx
       have := h3 _ hm x hx
       rw [List.length_map, hTl]; exact this))
    have hT : (List.map (fun i => G.getD i default) R).map (mapTy (toF ((numTo G a).map Int.ofNat))) = numT G a := by rw [hNU.out, List.map_map]; rfl
    rw [hT] at HP
    have hsz := hB3.size
    clear hT hNT hNU hRI hMN hrow hr4 hbw hb
    go_wp2_with (first | (go_at_call 70; refine (unhide HP).mono ?_; clear HP; rintro e w6 ⟨v, es, rfl, he, hO, hb6⟩))
    go_ret
    refine ⟨_, es, rfl, he, ⟨Row.mono hO.row hsz, fun e he => ?_⟩, hB3.trans (hb6.mono hB3.size)⟩
    obtain ⟨S, E, a, b, c, d⟩ := hO.far e he
    exact ⟨S, E, by omega, b, c, d⟩
end Go.Proofs.YteaokkaidcbdlaaGreatDoor

