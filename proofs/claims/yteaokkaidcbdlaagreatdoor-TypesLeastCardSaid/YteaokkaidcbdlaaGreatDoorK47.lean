/- Part 47 of 53: the texts Va, Vb, Vc, Vd, Ya, one behind the other. -/
import Derived.Test.YteaokkaidcbdlaaGreatDoorK33
import Derived.Test.YteaokkaidcbdlaaGreatDoorK37
import Derived.Test.YteaokkaidcbdlaaGreatDoorK45
import Derived.Tactics
import Derived.Tactics2
import Derived.WalkKit
import Derived.LoopTactic
import Derived.Outline
import Derived.Lib.Hide
import Derived.Handy
import Derived.KernelRfl
import Derived.Deep.LoopGhost
import Derived.CallsIn
import Derived.Deep.QuietTactic
import Derived.BigQuiet
import Derived.Deep.Draws
import Derived.WalkSpells
import Derived.Lib.Walk
import Derived.Lib.Strings
import Derived.Maps.OwnOps
import Derived.Maps.OwnSet
import Derived.Deep.RegionWith
import Derived.StillTailTactics
import Derived.WalkMore
import Derived.RangeFuncNested
import Derived.RangeFuncBound
import Derived.RangeFuncCalls
import Derived.RangeFuncLeaves
import Derived.RangeFuncBox
import Derived.Shelf.Abstract
import Derived.OwnWalkIn
import Derived.TacticsInMore
import Derived.LoopNIn
import Derived.LoopIn
import Derived.RecoverIn
import Derived.Maps.AppendAt
import Derived.RegionTactic
import Derived.ChangeAlike
import Derived.OwnWalk
import Derived.Deep.AppendLies
import Derived.Deep.DeepCutAuto
import Derived.Deep.RegionLaw
import Derived.Deep.RegionHeld3
import Derived.Laws.EntriesVeiled
import Derived.Test.YteaokkaidcbdlaaGreatDoorK46
import Derived.Test.YteaokkaidcbdlaaGreatDoorK24
import Derived.Test.YteaokkaidcbdlaaGreatDoorK23
import Derived.Deep.Onto
import Derived.Laws.AppendOwnNone
namespace Go.Proofs.YteaokkaidcbdlaaGreatDoor
open Go Go.RowKit Go.Shelf
structure Hom (G H : List TyD) (φ : Nat → Nat) : Prop where
  lt : ∀ i, i < G.length → φ i < H.length
  ag : ∀ i, i < G.length → agK (G.getD i default) = agK (H.getD (φ i) default)
  refs : ∀ i, i < G.length → (refsOf (H.getD (φ i) default)).map Int.toNat = (refsOf (G.getD i default)).map fun x => φ x.toNat
  inG : ∀ i, i < G.length → ∀ x ∈ refsOf (G.getD i default), x.toNat < G.length
theorem Hom.len {G H : List TyD} {φ : Nat → Nat} (h : Hom G H φ) {i : Nat} (hi : i < G.length) : (refsOf (H.getD (φ i) default)).length = (refsOf (G.getD i default)).length := by
  have := congrArg List.length (h.refs i hi)
  simpa using this
theorem Hom.at {G H : List TyD} {φ : Nat → Nat} (h : Hom G H φ) {i k : Nat} (hi : i < G.length) (h1 : k < (refsOf (G.getD i default)).length) (h2 : k < (refsOf (H.getD (φ i) default)).length) :
    ((refsOf (H.getD (φ i) default))[k]).toNat = φ ((refsOf (G.getD i default))[k]).toNat := by
  have := congrArg (fun l => l[k]?) (h.refs i hi)
  simp only [List.getElem?_map, List.getElem?_eq_getElem h1, List.getElem?_eq_getElem h2, Option.map_some, Option.some.injEq] at this
  exact this
theorem class_refs {G : List TyD} {i j k : Nat} (hi : i < G.length) (hj : j < G.length) (h : clF G i = clF G j) (h1 : k < (refsOf (G.getD i default)).length) (h2 : k < (refsOf (G.getD j default)).length) :
    clF G ((refsOf (G.getD i default))[k]).toNat = clF G ((refsOf (G.getD j default))[k]).toNat := (class_next hi hj h).2.2 k h1 h2
theorem Hom.down {G H : List TyD} {φ : Nat → Nat} (h : Hom G H φ) {i j : Nat} (hi : i < G.length) (hj : j < G.length) (he : clF H (φ i) = clF H (φ j)) : clF G i = clF G j := by
  refine class_closed (R := fun i j => i < G.length ∧ j < G.length ∧ clF H (φ i) = clF H (φ j)) ?_ ⟨hi, hj, he⟩
  rintro i j ⟨hi, hj, he⟩
  obtain ⟨a1, a2⟩ := class_agree (h.lt i hi) (h.lt j hj) he
  have hl := congrArg List.length a2
  rw [List.length_map, List.length_map, h.len hi, h.len hj] at hl
  refine ⟨hi, hj, ((h.ag i hi).trans a1).trans (h.ag j hj).symm, hl, fun k h1 h2 => ⟨h.inG i hi _ (List.getElem_mem h1), h.inG j hj _ (List.getElem_mem h2), ?_⟩⟩
  rw [← h.at hi h1 (by rw [h.len hi]; exact h1), ← h.at hj h2 (by rw [h.len hj]; exact h2)]
  exact class_refs (h.lt i hi) (h.lt j hj) he _ _
theorem Hom.up {G H : List TyD} {φ : Nat → Nat} (h : Hom G H φ) {i j : Nat} (hi : i < G.length) (hj : j < G.length) (he : clF G i = clF G j) : clF H (φ i) = clF H (φ j) := by
  refine class_closed (R := fun p q => ∃ i j, i < G.length ∧ j < G.length ∧ clF G i = clF G j ∧ p = φ i ∧ q = φ j) ?_ ⟨i, j, hi, hj, he, rfl, rfl⟩
  rintro p q ⟨i, j, hi, hj, he, rfl, rfl⟩
  obtain ⟨a1, a2⟩ := class_agree hi hj he
  have hl := congrArg List.length a2
  rw [List.length_map, List.length_map] at hl
  refine ⟨h.lt i hi, h.lt j hj, ((h.ag i hi).symm.trans a1).trans (h.ag j hj), by rw [h.len hi, h.len hj]; exact hl, fun k h1 h2 => ?_⟩
  have h1' : k < (refsOf (G.getD i default)).length := by rw [← h.len hi]; exact h1
  have h2' : k < (refsOf (G.getD j default)).length := by rw [← h.len hj]; exact h2
  exact ⟨_, _, h.inG i hi _ (List.getElem_mem h1'), h.inG j hj _ (List.getElem_mem h2'), class_refs hi hj he h1' h2', h.at hi h1' h1, h.at hj h2' h2⟩
theorem Hom.class {G H : List TyD} {φ : Nat → Nat} (h : Hom G H φ) {i j : Nat} (hi : i < G.length) (hj : j < G.length) : clF G i = clF G j ↔ clF H (φ i) = clF H (φ j) := ⟨h.up hi hj, h.down hi hj⟩
theorem supB_map (f : Int → Int) (t : TyD) : (mapTy f t).kind = t.kind := rfl
theorem sigRefs_map {f : Int → Int} {m : MethD} (hf : m.result ≠ -1 → f m.result ≠ -1) : sigRefs (mapM f m) = (sigRefs m).map f := by
  unfold sigRefs mapM
  by_cases h : m.result = -1
  · simp [h]
  · simp [h, hf h]
theorem refs_map {f : Int → Int} {t : TyD} (hf : ∀ m ∈ t.meths, m.result ≠ -1 → f m.result ≠ -1) : refsOf (mapTy f t) = (refsOf t).map f := by
  unfold refsOf
  rw [supB_map, List.map_append, List.map_append]
  congr 1
  · unfold mapTy
    by_cases h : supB t.kind <;> simp [h]
  congr 1
  · unfold mapTy
    simp [List.map_map, Function.comp_def]
  · unfold mapTy
    simp only
    rw [List.map_flatMap, List.flatMap_map]
    generalize hl : t.meths = l at hf
    clear hl
    induction l with
    | nil => rfl
    | cons m l ih =>
      rw [List.flatMap_cons, List.flatMap_cons, ih (fun m' h => hf m' (by simp [h])), sigRefs_map (hf m (by simp))]
theorem agK_map {f : Int → Int} {t : TyD} (hs : supB t.kind = true → noneK (f t.super) = noneK t.super) (hp : ∀ p ∈ t.parts, noneK (f p.type) = noneK p.type) (hm : ∀ m ∈ t.meths, (∀ x ∈ m.args, noneK (f x) = noneK x) ∧ (m.result ≠ -1 → f m.result ≠ -1)) : agK (mapTy f t) = agK t := by
  unfold agK mapTy
  simp only [Prod.mk.injEq, List.map_map, true_and, and_true]
  refine ⟨?_, ?_, ?_⟩
  · by_cases h : supB t.kind = true
    · rw [if_pos h]; exact hs h
    · rw [if_neg h]
  · apply List.map_congr_left
    intro p hp'
    simp only [Function.comp, partK, hp p hp']
  · apply List.map_congr_left
    intro m hm'
    obtain ⟨h1, h2⟩ := hm m hm'
    simp only [Function.comp, methK, mapM, List.map_map, Prod.mk.injEq, true_and]
    refine ⟨List.map_congr_left fun x hx => h1 x hx, ?_, trivial⟩
    by_cases h : m.result = -1
    · simp [h]
    · rw [if_neg h]
      unfold noneK
      rw [Bool.eq_iff_iff]
      simp [h, h2 h]
end Go.Proofs.YteaokkaidcbdlaaGreatDoor

namespace Go.Proofs.YteaokkaidcbdlaaGreatDoor
open Go Go.RowKit Go.Shelf
theorem ba_inj {a b : ByteArray} (h : a.toList = b.toList) : a = b := by
  rw [toList_bs, toList_bs] at h
  unfold bs at h
  cases a; cases b
  simp only at h
  congr 1
  exact Array.toList_inj.1 h
theorem bas_inj : ∀ {l m : List ByteArray}, l.map (·.toList) = m.map (·.toList) → l = m
  | [], [], _ => rfl
  | [], _ :: _, h => by simp at h
  | _ :: _, [], h => by simp at h
  | x :: l, y :: m, h => by
    rw [List.map_cons, List.map_cons, List.cons.injEq] at h
    rw [ba_inj h.1, bas_inj h.2]
theorem parts_ext {f g : Int → Int} : ∀ {l m : List PartD}, l.map partK = m.map partK → l.map (fun p => f p.type) = m.map (fun p => g p.type) → l.map (fun p => { p with type := f p.type }) = m.map fun p => { p with type := g p.type }
  | [], [], _, _ => rfl
  | [], _ :: _, h, _ => by simp at h
  | _ :: _, [], h, _ => by simp at h
  | x :: l, y :: m, h, k => by
    rw [List.map_cons, List.map_cons, List.cons.injEq] at h k
    have h1 := h.1
    unfold partK at h1
    rw [Prod.mk.injEq] at h1
    rw [List.map_cons, List.map_cons, parts_ext h.2 k.2, ba_inj h1.1, k.1]
theorem overs_ext : ∀ {l m : List OverD}, l.map overK = m.map overK → l = m
  | [], [], _ => rfl
  | [], _ :: _, h => by simp at h
  | _ :: _, [], h => by simp at h
  | x :: l, y :: m, h => by
    rw [List.map_cons, List.map_cons, List.cons.injEq] at h
    have h1 := h.1
    unfold overK at h1
    rw [Prod.mk.injEq] at h1
    obtain ⟨a, b⟩ := x
    obtain ⟨c, d⟩ := y
    simp only at h1
    rw [ba_inj h1.1, ba_inj h1.2, overs_ext h.2]
theorem meths_ext {f g : Int → Int} : ∀ {l m : List MethD}, l.map methK = m.map methK → (l.flatMap sigRefs).map f = (m.flatMap sigRefs).map g → l.map (mapM f) = m.map (mapM g)
  | [], [], _, _ => rfl
  | [], _ :: _, h, _ => by simp at h
  | _ :: _, [], h, _ => by simp at h
  | x :: l, y :: m, h, k => by
    rw [List.map_cons, List.map_cons, List.cons.injEq] at h
    have h1 := h.1
    unfold methK at h1
    simp only [Prod.mk.injEq] at h1
    obtain ⟨e1, e2, e3, e4, e5⟩ := h1
    have hal : x.args.length = y.args.length := by have := congrArg List.length e3; simpa using this
    have hres : x.result = -1 ↔ y.result = -1 := by
      unfold noneK at e4
      rw [Bool.eq_iff_iff] at e4
      simpa using e4
    rw [List.flatMap_cons, List.flatMap_cons, List.map_append, List.map_append] at k
    have hsl : ((sigRefs x).map f).length = ((sigRefs y).map g).length := by
      unfold sigRefs
      by_cases hr : x.result = -1
      · simp [hr, hres.1 hr, hal]
      · have hr' : y.result ≠ -1 := fun e => hr (hres.2 e)
        simp [hr, hr', hal]
    obtain ⟨k1, k2⟩ := List.append_inj k hsl
    rw [List.map_cons, List.map_cons, meths_ext h.2 k2]
    congr 1
    unfold sigRefs at k1
    rw [List.map_append, List.map_append] at k1
    obtain ⟨k3, k4⟩ := List.append_inj k1 (by simpa using hal)
    unfold mapM
    obtain ⟨xn, xa, xr, xs, xp⟩ := x
    obtain ⟨yn, ya, yr, ys, yp⟩ := y
    simp only at e1 e2 e5 k3 k4 hres ⊢
    rw [ba_inj e1, ba_inj e2, bas_inj e5, k3]
    by_cases hr : xr = -1
    · rw [if_pos hr, if_pos (hres.1 hr)]
    · have hr' : yr ≠ -1 := fun e => hr (hres.2 e)
      rw [if_neg hr, if_neg hr'] at k4 ⊢
      simp only [List.map_cons, List.map_nil, List.cons.injEq, and_true] at k4
      rw [k4]
theorem mapTy_ext {f g : Int → Int} {a b : TyD} (hk : agK a = agK b) (hr : (refsOf a).map f = (refsOf b).map g) (hs : supB a.kind = false → a.super = b.super) : mapTy f a = mapTy g b := by
  unfold agK at hk
  simp only [Prod.mk.injEq] at hk
  obtain ⟨⟨h1, h2, h3, h4, h5, h6⟩, h7, h8, h9, h10⟩ := hk
  unfold refsOf at hr
  rw [← h1] at hr
  simp only [List.map_append] at hr
  obtain ⟨r1, r2⟩ := List.append_inj hr (by split <;> simp)
  obtain ⟨r3, r4⟩ := List.append_inj r2 (by have := congrArg List.length h8; simpa using this)
  rw [List.map_map, List.map_map] at r3
  unfold mapTy
  have p1 := parts_ext (f := f) (g := g) h8 r3
  have p2 := meths_ext (f := f) (g := g) h9 r4
  have p3 := overs_ext h10
  have p4 := ba_inj h5
  have p5 := ba_inj h6
  have p6 : (if supB a.kind then f a.super else a.super) = if supB b.kind then g b.super else b.super := by
    rw [← h1]
    cases hb : supB a.kind
    · simp [hs hb]
    · simp only [hb, if_true, List.map_cons, List.map_nil, List.cons.injEq, and_true] at r1
      simp [r1]
  rw [p1, p2, p6]
  obtain ⟨a1, a2, a3, a4, a5, a6, a7, a8, a9, a10⟩ := a
  obtain ⟨b1, b2, b3, b4, b5, b6, b7, b8, b9, b10⟩ := b
  simp only at h1 h2 h3 h4 p3 p4 p5 ⊢
  rw [h1, h2, h3, h4, p3, p4, p5]
end Go.Proofs.YteaokkaidcbdlaaGreatDoor

namespace Go.Proofs.YteaokkaidcbdlaaGreatDoor
open Go Go.RowKit Go.Shelf
theorem reachF_more {sf : Nat → Nat} {G : List TyD} : ∀ (f d k : Nat) (R : List Nat), (reachF sf G f k R).length < k + f → reachF sf G (f + d) k R = reachF sf G f k R
  | 0, d, k, R, h => by
    unfold reachF at h
    cases d with
    | zero => rfl
    | succ d =>
      have : R[k]? = none := List.getElem?_eq_none (by omega)
      rw [Nat.zero_add]
      unfold reachF
      rw [this]
  | f + 1, d, k, R, h => by
    rw [show f + 1 + d = (f + d) + 1 by omega]
    rw [reachF] at h ⊢
    rw [reachF]
    cases hk : R[k]? with
    | none => rfl
    | some t =>
      rw [hk] at h
      simp only at h ⊢
      exact reachF_more f d (k + 1) _ (by omega)
def Rep (G : List TyD) (r : Nat) : Prop := r < G.length ∧ clF G r = r
theorem rep_cl {G : List TyD} {x : Nat} (hx : x < G.length) : Rep G (clF G x) := ⟨Nat.lt_of_le_of_lt (clF_le G x hx) hx, (class_least G x hx).2⟩
section
variable {G H : List TyD} {φ : Nat → Nat}
def psi (H : List TyD) (φ : Nat → Nat) (r : Nat) : Nat := clF H (φ r)
theorem psi_inj (h : Hom G H φ) {r s : Nat} (hr : Rep G r) (hs : Rep G s) (e : psi H φ r = psi H φ s) : r = s := by
  have := h.down hr.1 hs.1 e
  rw [hr.2, hs.2] at this
  exact this
theorem psi_mem (h : Hom G H φ) {R : List Nat} (hR : ∀ r ∈ R, Rep G r) {r : Nat} (hr : Rep G r) : psi H φ r ∈ R.map (psi H φ) ↔ r ∈ R := by
  rw [List.mem_map]
  constructor
  · rintro ⟨s, hs, e⟩
    rw [← psi_inj h (hR s hs) hr e]; exact hs
  · intro hm; exact ⟨r, hm, rfl⟩
theorem psi_cl (h : Hom G H φ) {x : Nat} (hx : x < G.length) : psi H φ (clF G x) = clF H (φ x) :=
  h.up (rep_cl hx).1 hx (rep_cl hx).2
theorem addR_map (h : Hom G H φ) {R : List Nat} (hR : ∀ r ∈ R, Rep G r) {x y : Int} (hx : x.toNat < G.length) (e : clF H y.toNat = psi H φ (clF G x.toNat)) :
    addR (clF H) (R.map (psi H φ)) y = (addR (clF G) R x).map (psi H φ) ∧ ∀ r ∈ addR (clF G) R x, Rep G r := by
  unfold addR
  rw [e]
  by_cases hm : clF G x.toNat ∈ R
  · rw [if_pos hm, if_pos ((psi_mem h hR (rep_cl hx)).2 hm)]
    exact ⟨rfl, hR⟩
  · rw [if_neg hm, if_neg (fun hh => hm ((psi_mem h hR (rep_cl hx)).1 hh))]
    refine ⟨by simp, fun r hr => ?_⟩
    rw [List.mem_append, List.mem_singleton] at hr
    rcases hr with hr | rfl
    · exact hR r hr
    · exact rep_cl hx
theorem addRs_map (h : Hom G H φ) : ∀ (l m : List Int) (R : List Nat), (∀ r ∈ R, Rep G r) → (∀ x ∈ l, x.toNat < G.length) → m.map (fun y => clF H y.toNat) = l.map (fun x => psi H φ (clF G x.toNat)) →
    addRs (clF H) (R.map (psi H φ)) m = (addRs (clF G) R l).map (psi H φ) ∧ ∀ r ∈ addRs (clF G) R l, Rep G r
  | [], [], R, hR, _, _ => ⟨rfl, hR⟩
  | [], _ :: _, _, _, _, e => by simp at e
  | _ :: _, [], _, _, _, e => by simp at e
  | x :: l, y :: m, R, hR, hx, e => by
    rw [List.map_cons, List.map_cons, List.cons.injEq] at e
    obtain ⟨h1, h2⟩ := addR_map h hR (hx x (by simp)) e.1
    have h3 := addRs_map h l m (addR (clF G) R x) h2 (fun z hz => hx z (by simp [hz])) e.2
    unfold addRs at h3 ⊢
    rw [List.foldl_cons, List.foldl_cons, h1]
    exact h3
theorem psi_refs (h : Hom G H φ) {r : Nat} (hr : Rep G r) : (refsOf (H.getD (psi H φ r) default)).map (fun y => clF H y.toNat) = (refsOf (G.getD r default)).map (fun x => psi H φ (clF G x.toNat)) := by
  have hp : φ r < H.length := h.lt r hr.1
  have hq := rep_cl hp
  have a2 := (class_agree hq.1 hp hq.2).2
  have e1 : (refsOf (H.getD (psi H φ r) default)).map (fun y => clF H y.toNat) = (refsOf (H.getD (φ r) default)).map (fun y => clF H y.toNat) := a2
  rw [e1]
  have e2 := congrArg (List.map (clF H)) (h.refs r hr.1)
  rw [List.map_map, List.map_map] at e2
  have e3 : (refsOf (H.getD (φ r) default)).map (fun y => clF H y.toNat) = (refsOf (G.getD r default)).map (clF H ∘ fun x => φ x.toNat) := e2
  rw [e3]
  apply List.map_congr_left
  intro x hx
  exact (psi_cl h (h.inG r hr.1 x hx)).symm
theorem reachF_map (h : Hom G H φ) : ∀ (f k : Nat) (R : List Nat), (∀ r ∈ R, Rep G r) → reachF (clF H) H f k (R.map (psi H φ)) = (reachF (clF G) G f k R).map (psi H φ) ∧ ∀ r ∈ reachF (clF G) G f k R, Rep G r
  | 0, k, R, hR => ⟨rfl, hR⟩
  | f + 1, k, R, hR => by
    rw [reachF, reachF, List.getElem?_map]
    cases hk : R[k]? with
    | none => exact ⟨rfl, hR⟩
    | some r =>
      have hr := hR r (List.mem_of_getElem? hk)
      simp only [Option.map_some]
      obtain ⟨h1, h2⟩ := addRs_map h (refsOf (G.getD r default)) (refsOf (H.getD (psi H φ r) default)) R hR (fun x hx => h.inG r hr.1 x hx) (psi_refs h hr)
      rw [h1]
      exact reachF_map h f (k + 1) _ h2
theorem numR_le {G : List TyD} (hf : Fit G) {a : Nat} (ha : a < G.length) : (numR G a).length ≤ G.length := by
  have h := (numR_inv hf ha).1
  exact nodup_le _ _ h.nodup h.bnd
theorem numR_map (h : Hom G H φ) (hG : Fit G) (hH : Fit H) {a : Nat} (ha : a < G.length) : numR H (φ a) = (numR G a).map (psi H φ) ∧ ∀ r ∈ numR G a, Rep G r := by
  have h1 : numR G a = reachF (clF G) G (G.length + 1 + (H.length + 1)) 0 [clF G a] := (reachF_more _ _ _ _ (by have := numR_le hG ha; unfold numR reachL at this; omega)).symm
  have h2 : numR H (φ a) = reachF (clF H) H (H.length + 1 + (G.length + 1)) 0 [clF H (φ a)] := (reachF_more _ _ _ _ (by have := numR_le hH (h.lt a ha); unfold numR reachL at this; omega)).symm
  have h3 := reachF_map h (G.length + 1 + (H.length + 1)) 0 [clF G a] (fun r hr => by rw [List.mem_singleton.1 hr]; exact rep_cl ha)
  rw [← h1, List.map_cons, List.map_nil, psi_cl h ha, Nat.add_comm (G.length + 1), ← h2] at h3
  exact h3
theorem numN_map (h : Hom G H φ) : ∀ {R : List Nat}, (∀ r ∈ R, Rep G r) → ∀ {c : Nat}, Rep G c → numN (R.map (psi H φ)) (psi H φ c) = numN R c := by
  intro R hR c hc
  unfold numN
  have hi : c ∈ R → (R.map (psi H φ)).idxOf (psi H φ c) = R.idxOf c := by
    induction R with
    | nil => intro hm; simp at hm
    | cons r R ih =>
      intro hm
      rw [List.map_cons, List.idxOf_cons, List.idxOf_cons]
      by_cases e : r = c
      · subst e; simp
      · have e2 : psi H φ r ≠ psi H φ c := fun h3 => e (psi_inj h (hR r (by simp)) hc h3)
        have hm' : c ∈ R := by
          rcases List.mem_cons.1 hm with h4 | h4
          · exact absurd h4.symm e
          · exact h4
        rw [show (r == c) = false by simpa using e, show (psi H φ r == psi H φ c) = false by simpa using e2]
        simp only [cond_false]
        rw [ih (fun r hr => hR r (by simp [hr])) hm']
  by_cases hm : c ∈ R
  · rw [if_pos hm, if_pos ((psi_mem h hR hc).2 hm), hi hm]
  · rw [if_neg hm, if_neg (fun hh => hm ((psi_mem h hR hc).1 hh))]
theorem toF_num {G : List TyD} {a : Nat} {x : Int} (hx : x.toNat < G.length) : toF ((numTo G a).map Int.ofNat) x = (numN (numR G a) (clF G x.toNat) : Nat) := by
  have hl : x.toNat < (classesL G).length := by rw [classesL_len]; exact hx
  unfold toF numTo clF
  simp [List.getD_eq_getElem?_getD, hl]
def SupZ (G : List TyD) : Prop := ∀ i, i < G.length → supB (G.getD i default).kind = false → (G.getD i default).super = 0
theorem numT_map (h : Hom G H φ) (hG : Fit G) (hH : Fit H) (zG : SupZ G) (zH : SupZ H) {a : Nat} (ha : a < G.length) : numT H (φ a) = numT G a := by
  obtain ⟨h1, h2⟩ := numR_map h hG hH ha
  unfold numT
  rw [h1, List.map_map]
  apply List.map_congr_left
  intro r hr
  have hrr := h2 r hr
  have hp : φ r < H.length := h.lt r hrr.1
  have hq : Rep H (psi H φ r) := rep_cl hp
  have hag : agK (G.getD r default) = agK (H.getD (psi H φ r) default) := (h.ag r hrr.1).trans (class_agree hq.1 hp hq.2).1.symm
  have hkind : (G.getD r default).kind = (H.getD (psi H φ r) default).kind := by
    unfold agK at hag
    simp only [Prod.mk.injEq] at hag
    exact hag.1.1
  refine (mapTy_ext hag ?_ (fun hb => ?_)).symm
  · have e := psi_refs h hrr
    have hin : ∀ y ∈ refsOf (H.getD (psi H φ r) default), y.toNat < H.length := fun y hy => by
      have hm : H.getD (psi H φ r) default ∈ H := by rw [List.getD_eq_getElem?_getD, List.getElem?_eq_getElem hq.1]; exact List.getElem_mem hq.1
      have := hH.2.2 _ hm y hy
      omega
    have hinG := fun x hx => h.inG r hrr.1 x hx
    have hlen : (refsOf (H.getD (psi H φ r) default)).length = (refsOf (G.getD r default)).length := by have := congrArg List.length e; simpa using this
    apply List.ext_getElem (by simpa using hlen.symm)
    intro q q1 q2
    rw [List.length_map] at q1 q2
    rw [List.getElem_map, List.getElem_map, toF_num (hinG _ (List.getElem_mem q1)), toF_num (hin _ (List.getElem_mem q2)), h1]
    have e2 := congrArg (fun l => l[q]?) e
    simp only [List.getElem?_map, List.getElem?_eq_getElem q1, List.getElem?_eq_getElem q2, Option.map_some, Option.some.injEq] at e2
    rw [e2, numN_map h h2 (rep_cl (hinG _ (List.getElem_mem q1)))]
  · rw [zG r hrr.1 hb, zH _ hq.1 (by rw [← hkind]; exact hb)]
end
end Go.Proofs.YteaokkaidcbdlaaGreatDoor

namespace Go.Proofs.YteaokkaidcbdlaaGreatDoor
open Go Go.RowKit Go.Shelf
theorem mergeS_spec {c : Nat → Nat} {n : Nat} (hc : ∀ i, i < n → c i ≤ i ∧ c (c i) = c i) : ∀ k, k ≤ n →
    (∀ i, i < k → (mergeS c k).2.getD i 0 < (mergeS c k).1.length ∧ (mergeS c k).1.getD ((mergeS c k).2.getD i 0) 0 = c i) ∧
    (∀ q, q < (mergeS c k).1.length → c ((mergeS c k).1.getD q 0) = (mergeS c k).1.getD q 0 ∧ (mergeS c k).1.getD q 0 < k ∧ (mergeS c k).2.getD ((mergeS c k).1.getD q 0) 0 = q)
  | 0, _ => ⟨fun i hi => by omega, fun q hq => by simp [mergeS] at hq⟩
  | k + 1, hk => by
    obtain ⟨h1, h2⟩ := mergeS_spec hc k (by omega)
    obtain ⟨l1, l2, l3⟩ := mergeS_len c k
    unfold mergeS
    generalize mergeS c k = r at h1 h2 l1 l2 l3
    obtain ⟨F, T⟩ := r
    simp only at h1 h2 l1 l2 l3 ⊢
    have hT : ∀ (v i : Nat), i < k → (T ++ [v]).getD i 0 = T.getD i 0 := fun v i hi => getD_snoc_lt (by omega)
    have hTk : ∀ v, (T ++ [v]).getD k 0 = v := fun v => getD_snoc_len l1
    by_cases he : c k = k
    · rw [if_pos he]
      simp only
      have hF : ∀ q, q < F.length → (F ++ [k]).getD q 0 = F.getD q 0 := fun q hq => getD_snoc_lt hq
      have hFk : (F ++ [k]).getD F.length 0 = k := getD_snoc_len rfl
      refine ⟨fun i hi => ?_, fun q hq => ?_⟩
      · by_cases hik : i < k
        · obtain ⟨a, b⟩ := h1 i hik
          rw [hT _ i hik, hF _ a]
          exact ⟨by rw [List.length_append]; exact Nat.lt_of_lt_of_le a (Nat.le_add_right _ _), b⟩
        · obtain rfl : i = k := by omega
          rw [hTk, hFk]
          exact ⟨by simp, he.symm⟩
      · by_cases hqF : q < F.length
        · obtain ⟨a, b, d⟩ := h2 q hqF
          rw [hF q hqF, hT _ _ b]
          exact ⟨a, by omega, d⟩
        · obtain rfl : q = F.length := by simp at hq; omega
          rw [hFk, hTk]
          exact ⟨he, by omega, rfl⟩
    · rw [if_neg he]
      simp only
      have hlt : c k < k := by have := (hc k (by omega)).1; omega
      refine ⟨fun i hi => ?_, fun q hq => ?_⟩
      · by_cases hik : i < k
        · rw [hT _ i hik]; exact h1 i hik
        · obtain rfl : i = k := by omega
          rw [hTk]
          obtain ⟨a, b⟩ := h1 (c i) hlt
          exact ⟨a, b.trans (hc i (by omega)).2⟩
      · obtain ⟨a, b, d⟩ := h2 q hq
        rw [hT _ _ b]
        exact ⟨a, by omega, d⟩
def toM (G : List TyD) (i : Nat) : Nat := (mergeL G).2.getD i 0
def ofM (G : List TyD) (q : Nat) : Nat := (mergeL G).1.getD q 0
theorem mergeT_len (G : List TyD) : (mergeT G).length = (mergeL G).1.length := by unfold mergeT; simp
theorem toM_lt {G : List TyD} {i : Nat} (hi : i < G.length) : toM G i < (mergeT G).length ∧ ofM G (toM G i) = clF G i := by
  rw [mergeT_len]
  exact (mergeS_spec (class_least G) G.length (Nat.le_refl _)).1 i hi
theorem ofM_lt {G : List TyD} {q : Nat} (hq : q < (mergeT G).length) : Rep G (ofM G q) ∧ toM G (ofM G q) = q := by
  rw [mergeT_len] at hq
  obtain ⟨a, b, d⟩ := (mergeS_spec (class_least G) G.length (Nat.le_refl _)).2 q hq
  exact ⟨⟨b, a⟩, d⟩
theorem toM_cl {G : List TyD} {i : Nat} (hi : i < G.length) : toM G (clF G i) = toM G i := by
  obtain ⟨a, b⟩ := toM_lt hi
  rw [← b]
  exact (ofM_lt a).2
theorem toM_iff {G : List TyD} {i j : Nat} (hi : i < G.length) (hj : j < G.length) : toM G i = toM G j ↔ clF G i = clF G j := by
  constructor
  · intro h; rw [← (toM_lt hi).2, ← (toM_lt hj).2, h]
  · intro h; rw [← toM_cl hi, ← toM_cl hj, h]
def tfM (G : List TyD) : Int → Int := toF ((mergeL G).2.map Int.ofNat)
theorem tfM_nat (G : List TyD) (x : Int) : tfM G x = (toM G x.toNat : Nat) := by
  unfold tfM toF toM
  exact getD_ofNat _ _
theorem mergeT_at {G : List TyD} {q : Nat} (hq : q < (mergeT G).length) : (mergeT G).getD q default = mapTy (tfM G) (G.getD (ofM G q) default) := by
  rw [mergeT_len] at hq
  unfold mergeT tfM ofM
  simp [List.getD_eq_getElem?_getD, List.getElem?_map, List.getElem?_eq_getElem hq]
theorem ty_nums {G : List TyD} (hz : GrZ G) (hc : (checkR G).2 = 0) {i : Nat} (hi : i < G.length) :
    (supB (G.getD i default).kind = true → 0 ≤ (G.getD i default).super ∧ (G.getD i default).super < G.length) ∧ (∀ p ∈ (G.getD i default).parts, 0 ≤ p.type ∧ p.type < G.length) ∧
    ∀ m ∈ (G.getD i default).meths, (∀ x ∈ m.args, 0 ≤ x ∧ x < G.length) ∧ (m.result ≠ -1 → 0 ≤ m.result ∧ m.result < G.length) := by
  have hmem : G.getD i default ∈ G := by rw [List.getD_eq_getElem?_getD, List.getElem?_eq_getElem hi]; exact List.getElem_mem hi
  have h3 := (check_fit hz hc).2.2 _ hmem
  generalize G.getD i default = t at h3
  unfold refsOf at h3
  refine ⟨fun hs => h3 _ (by simp [hs]), fun p hp => h3 _ ?_, fun m hm => ⟨fun x hx => h3 _ ?_, fun hr => h3 _ ?_⟩⟩
  · rw [List.mem_append, List.mem_append]
    exact .inr (.inl (List.mem_map_of_mem (f := (·.type)) hp))
  · rw [List.mem_append, List.mem_append]
    exact .inr (.inr (List.mem_flatMap.2 ⟨m, hm, by unfold sigRefs; simp [hx]⟩))
  · rw [List.mem_append, List.mem_append]
    exact .inr (.inr (List.mem_flatMap.2 ⟨m, hm, by unfold sigRefs; simp [hr]⟩))
theorem noneK_pos {x : Int} (h : 0 ≤ x) : noneK x = false := by unfold noneK; simp; omega
theorem merge_hom {G : List TyD} (hz : GrZ G) (hc : (checkR G).2 = 0) : Hom G (mergeT G) (toM G) := by
  have hpos : ∀ x, noneK (tfM G x) = false := fun x => noneK_pos (by rw [tfM_nat]; omega)
  have hres : ∀ (t : TyD), ∀ m ∈ t.meths, m.result ≠ -1 → tfM G m.result ≠ -1 := fun t m _ _ => by rw [tfM_nat]; omega
  have hin : ∀ i, i < G.length → ∀ x ∈ refsOf (G.getD i default), x.toNat < G.length := fun i hi x hx => by
    have hmem : G.getD i default ∈ G := by rw [List.getD_eq_getElem?_getD, List.getElem?_eq_getElem hi]; exact List.getElem_mem hi
    have := (check_fit hz hc).2.2 _ hmem x hx
    omega
  refine ⟨fun i hi => (toM_lt hi).1, fun i hi => ?_, fun i hi => ?_, hin⟩
  · have hr := rep_cl hi
    rw [mergeT_at (toM_lt hi).1, (toM_lt hi).2]
    obtain ⟨n1, n2, n3⟩ := ty_nums hz hc hr.1
    rw [agK_map (fun hs => by rw [hpos, noneK_pos (n1 hs).1]) (fun p hp => by rw [hpos, noneK_pos (n2 p hp).1]) (fun m hm => ⟨fun x hx => by rw [hpos, noneK_pos ((n3 m hm).1 x hx).1], hres _ m hm⟩)]
    exact (class_agree hr.1 hi hr.2).1.symm
  · have hr := rep_cl hi
    rw [mergeT_at (toM_lt hi).1, (toM_lt hi).2, refs_map (hres _), List.map_map]
    have e := (class_agree hr.1 hi hr.2).2
    have hl := congrArg List.length e
    rw [List.length_map, List.length_map] at hl
    apply List.ext_getElem (by simpa using hl)
    intro q q1 q2
    rw [List.length_map] at q1 q2
    rw [List.getElem_map, List.getElem_map]
    simp only [Function.comp, tfM_nat, Int.toNat_natCast]
    exact (toM_iff (hin _ hr.1 _ (List.getElem_mem q1)) (hin _ hi _ (List.getElem_mem q2))).2 (class_refs hr.1 hi hr.2 q1 q2)
end Go.Proofs.YteaokkaidcbdlaaGreatDoor

namespace Go.Proofs.YteaokkaidcbdlaaGreatDoor
open Go Go.RowKit Go.Shelf
end Go.Proofs.YteaokkaidcbdlaaGreatDoor

