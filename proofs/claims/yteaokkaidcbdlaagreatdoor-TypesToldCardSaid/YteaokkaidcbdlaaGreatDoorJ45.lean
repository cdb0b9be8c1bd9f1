/- Part 45 of 53: the texts Va, Vb, Vc, Vd, Vm, one behind the other. -/
import Derived.Test.YteaokkaidcbdlaaGreatDoorJ33
import Derived.Test.YteaokkaidcbdlaaGreatDoorJ37
import Derived.Test.YteaokkaidcbdlaaGreatDoorJ44
import Derived.Tactics
import Derived.Tactics2
import Derived.WalkKit
import Derived.LoopTactic
import Derived.Outline
import Derived.Lib.Hide
import Derived.Handy
import Derived.KernelRfl
import Derived.Deep.LoopGhost
import Derived.CallsIn
import Derived.Deep.QuietTactic
import Derived.BigQuiet
import Derived.Deep.Draws
import Derived.WalkSpells
import Derived.Lib.Walk
import Derived.Lib.Strings
import Derived.Maps.OwnOps
import Derived.Maps.OwnSet
import Derived.Deep.RegionWith
import Derived.StillTailTactics
import Derived.WalkMore
import Derived.RangeFuncNested
import Derived.RangeFuncBound
import Derived.RangeFuncCalls
import Derived.RangeFuncLeaves
import Derived.RangeFuncBox
import Derived.Shelf.Abstract
import Derived.OwnWalkIn
import Derived.TacticsInMore
import Derived.LoopNIn
import Derived.LoopIn
import Derived.RecoverIn
import Derived.Maps.AppendAt
import Derived.RegionTactic
import Derived.ChangeAlike
import Derived.OwnWalk
import Derived.Deep.AppendLies
import Derived.Deep.DeepCutAuto
import Derived.Deep.RegionLaw
import Derived.Deep.RegionHeld3
import Derived.Laws.EntriesVeiled
import Derived.Test.YteaokkaidcbdlaaGreatDoorJ28
import Derived.Test.YteaokkaidcbdlaaGreatDoorJ26
import Derived.Test.YteaokkaidcbdlaaGreatDoorJ24
import Derived.Test.YteaokkaidcbdlaaGreatDoorJ31
namespace Go.Proofs.YteaokkaidcbdlaaGreatDoor
open Go Go.RowKit Go.Shelf
structure Hom (G H : List TyD) (φ : Nat → Nat) : Prop where
  lt : ∀ i, i < G.length → φ i < H.length
  ag : ∀ i, i < G.length → agK (G.getD i default) = agK (H.getD (φ i) default)
  refs : ∀ i, i < G.length → (refsOf (H.getD (φ i) default)).map Int.toNat = (refsOf (G.getD i default)).map fun x => φ x.toNat
  inG : ∀ i, i < G.length → ∀ x ∈ refsOf (G.getD i default), x.toNat < G.length
theorem Hom.len {G H : List TyD} {φ : Nat → Nat} (h : Hom G H φ) {i : Nat} (hi : i < G.length) : (refsOf (H.getD (φ i) default)).length = (refsOf (G.getD i default)).length := by
  have := congrArg List.length (h.refs i hi)
  simpa using this
theorem Hom.at {G H : List TyD} {φ : Nat → Nat} (h : Hom G H φ) {i k : Nat} (hi : i < G.length) (h1 : k < (refsOf (G.getD i default)).length) (h2 : k < (refsOf (H.getD (φ i) default)).length) :
    ((refsOf (H.getD (φ i) default))[k]).toNat = φ ((refsOf (G.getD i default))[k]).toNat := by
  have := congrArg (fun l => l[k]?) (h.refs i hi)
  simp only [List.getElem?_map, List.getElem?_eq_getElem h1, List.getElem?_eq_getElem h2, Option.map_some, Option.some.injEq] at this
  exact this
theorem class_refs {G : List TyD} {i j k : Nat} (hi : i < G.length) (hj : j < G.length) (h : clF G i = clF G j) (h1 : k < (refsOf (G.getD i default)).length) (h2 : k < (refsOf (G.getD j default)).length) :
    clF G ((refsOf (G.getD i default))[k]).toNat = clF G ((refsOf (G.getD j default))[k]).toNat := (class_next hi hj h).2.2 k h1 h2
theorem Hom.down {G H : List TyD} {φ : Nat → Nat} (h : Hom G H φ) {i j : Nat} (hi : i < G.length) (hj : j < G.length) (he : clF H (φ i) = clF H (φ j)) : clF G i = clF G j := by
  refine class_closed (R := fun i j => i < G.length ∧ j < G.length ∧ clF H (φ i) = clF H (φ j)) ?_ ⟨hi, hj, he⟩
  rintro i j ⟨hi, hj, he⟩
  obtain ⟨a1, a2⟩ := class_agree (h.lt i hi) (h.lt j hj) he
  have hl := congrArg List.length a2
  rw [List.length_map, List.length_map, h.len hi, h.len hj] at hl
  refine ⟨hi, hj, ((h.ag i hi).trans a1).trans (h.ag j hj).symm, hl, fun k h1 h2 => ⟨h.inG i hi _ (List.getElem_mem h1), h.inG j hj _ (List.getElem_mem h2), ?_⟩⟩
  rw [← h.at hi h1 (by rw [h.len hi]; exact h1), ← h.at hj h2 (by rw [h.len hj]; exact h2)]
  exact class_refs (h.lt i hi) (h.lt j hj) he _ _
theorem Hom.up {G H : List TyD} {φ : Nat → Nat} (h : Hom G H φ) {i j : Nat} (hi : i < G.length) (hj : j < G.length) (he : clF G i = clF G j) : clF H (φ i) = clF H (φ j) := by
  refine class_closed (R := fun p q => ∃ i j, i < G.length ∧ j < G.length ∧ clF G i = clF G j ∧ p = φ i ∧ q = φ j) ?_ ⟨i, j, hi, hj, he, rfl, rfl⟩
  rintro p q ⟨i, j, hi, hj, he, rfl, rfl⟩
  obtain ⟨a1, a2⟩ := class_agree hi hj he
  have hl := congrArg List.length a2
  rw [List.length_map, List.length_map] at hl
  refine ⟨h.lt i hi, h.lt j hj, ((h.ag i hi).symm.trans a1).trans (h.ag j hj), by rw [h.len hi, h.len hj]; exact hl, fun k h1 h2 => ?_⟩
  have h1' : k < (refsOf (G.getD i default)).length := by rw [← h.len hi]; exact h1
  have h2' : k < (refsOf (G.getD j default)).length := by rw [← h.len hj]; exact h2
  exact ⟨_, _, h.inG i hi _ (List.getElem_mem h1'), h.inG j hj _ (List.getElem_mem h2'), class_refs hi hj he h1' h2', h.at hi h1' h1, h.at hj h2' h2⟩
theorem supB_map (f : Int → Int) (t : TyD) : (mapTy f t).kind = t.kind := rfl
theorem sigRefs_map {f : Int → Int} {m : MethD} (hf : m.result ≠ -1 → f m.result ≠ -1) : sigRefs (mapM f m) = (sigRefs m).map f := by
  unfold sigRefs mapM
  by_cases h : m.result = -1
  · simp [h]
  · simp [h, hf h]
theorem refs_map {f : Int → Int} {t : TyD} (hf : ∀ m ∈ t.meths, m.result ≠ -1 → f m.result ≠ -1) : refsOf (mapTy f t) = (refsOf t).map f := by
  unfold refsOf
  rw [supB_map, List.map_append, List.map_append]
  congr 1
  · unfold mapTy
    by_cases h : supB t.kind <;> simp [h]
  congr 1
  · unfold mapTy
    simp [List.map_map, Function.comp_def]
  · unfold mapTy
    simp only
    rw [List.map_flatMap, List.flatMap_map]
    generalize hl : t.meths = l at hf
    clear hl
    induction l with
    | nil => rfl
    | cons m l ih =>
      rw [List.flatMap_cons, List.flatMap_cons, ih (fun m' h => hf m' (by simp [h])), sigRefs_map (hf m (by simp))]
theorem agK_map {f : Int → Int} {t : TyD} (hs : supB t.kind = true → noneK (f t.super) = noneK t.super) (hp : ∀ p ∈ t.parts, noneK (f p.type) = noneK p.type) (hm : ∀ m ∈ t.meths, (∀ x ∈ m.args, noneK (f x) = noneK x) ∧ (m.result ≠ -1 → f m.result ≠ -1)) : agK (mapTy f t) = agK t := by
  unfold agK mapTy
  simp only [Prod.mk.injEq, List.map_map, true_and, and_true]
  refine ⟨?_, ?_, ?_⟩
  · by_cases h : supB t.kind = true
    · rw [if_pos h]; exact hs h
    · rw [if_neg h]
  · apply List.map_congr_left
    intro p hp'
    simp only [Function.comp, partK, hp p hp']
  · apply List.map_congr_left
    intro m hm'
    obtain ⟨h1, h2⟩ := hm m hm'
    simp only [Function.comp, methK, mapM, List.map_map, Prod.mk.injEq, true_and]
    refine ⟨List.map_congr_left fun x hx => h1 x hx, ?_, trivial⟩
    by_cases h : m.result = -1
    · simp [h]
    · rw [if_neg h]
      unfold noneK
      rw [Bool.eq_iff_iff]
      simp [h, h2 h]
end Go.Proofs.YteaokkaidcbdlaaGreatDoor

namespace Go.Proofs.YteaokkaidcbdlaaGreatDoor
open Go Go.RowKit Go.Shelf
theorem ba_inj {a b : ByteArray} (h : a.toList = b.toList) : a = b := by
  rw [toList_bs, toList_bs] at h
  unfold bs at h
  cases a; cases b
  simp only at h
  congr 1
  exact Array.toList_inj.1 h
end Go.Proofs.YteaokkaidcbdlaaGreatDoor

namespace Go.Proofs.YteaokkaidcbdlaaGreatDoor
open Go Go.RowKit Go.Shelf
theorem reachF_more {sf : Nat → Nat} {G : List TyD} : ∀ (f d k : Nat) (R : List Nat), (reachF sf G f k R).length < k + f → reachF sf G (f + d) k R = reachF sf G f k R
  | 0, d, k, R, h => by
    unfold reachF at h
    cases d with
    | zero => rfl
    | succ d =>
      have : R[k]? = none := List.getElem?_eq_none (by omega)
      rw [Nat.zero_add]
      unfold reachF
      rw [this]
  | f + 1, d, k, R, h => by
    rw [show f + 1 + d = (f + d) + 1 by omega]
    rw [reachF] at h ⊢
    rw [reachF]
    cases hk : R[k]? with
    | none => rfl
    | some t =>
      rw [hk] at h
      simp only at h ⊢
      exact reachF_more f d (k + 1) _ (by omega)
def Rep (G : List TyD) (r : Nat) : Prop := r < G.length ∧ clF G r = r
theorem rep_cl {G : List TyD} {x : Nat} (hx : x < G.length) : Rep G (clF G x) := ⟨Nat.lt_of_le_of_lt (clF_le G x hx) hx, (class_least G x hx).2⟩
section
variable {G H : List TyD} {φ : Nat → Nat}
def psi (H : List TyD) (φ : Nat → Nat) (r : Nat) : Nat := clF H (φ r)
theorem psi_inj (h : Hom G H φ) {r s : Nat} (hr : Rep G r) (hs : Rep G s) (e : psi H φ r = psi H φ s) : r = s := by
  have := h.down hr.1 hs.1 e
  rw [hr.2, hs.2] at this
  exact this
theorem psi_mem (h : Hom G H φ) {R : List Nat} (hR : ∀ r ∈ R, Rep G r) {r : Nat} (hr : Rep G r) : psi H φ r ∈ R.map (psi H φ) ↔ r ∈ R := by
  rw [List.mem_map]
  constructor
  · rintro ⟨s, hs, e⟩
    rw [← psi_inj h (hR s hs) hr e]; exact hs
  · intro hm; exact ⟨r, hm, rfl⟩
theorem psi_cl (h : Hom G H φ) {x : Nat} (hx : x < G.length) : psi H φ (clF G x) = clF H (φ x) :=
  h.up (rep_cl hx).1 hx (rep_cl hx).2
theorem addR_map (h : Hom G H φ) {R : List Nat} (hR : ∀ r ∈ R, Rep G r) {x y : Int} (hx : x.toNat < G.length) (e : clF H y.toNat = psi H φ (clF G x.toNat)) :
    addR (clF H) (R.map (psi H φ)) y = (addR (clF G) R x).map (psi H φ) ∧ ∀ r ∈ addR (clF G) R x, Rep G r := by
  unfold addR
  rw [e]
  by_cases hm : clF G x.toNat ∈ R
  · rw [if_pos hm, if_pos ((psi_mem h hR (rep_cl hx)).2 hm)]
    exact ⟨rfl, hR⟩
  · rw [if_neg hm, if_neg (fun hh => hm ((psi_mem h hR (rep_cl hx)).1 hh))]
    refine ⟨by simp, fun r hr => ?_⟩
    rw [List.mem_append, List.mem_singleton] at hr
    rcases hr with hr | rfl
    · exact hR r hr
    · exact rep_cl hx
theorem addRs_map (h : Hom G H φ) : ∀ (l m : List Int) (R : List Nat), (∀ r ∈ R, Rep G r) → (∀ x ∈ l, x.toNat < G.length) → m.map (fun y => clF H y.toNat) = l.map (fun x => psi H φ (clF G x.toNat)) →
    addRs (clF H) (R.map (psi H φ)) m = (addRs (clF G) R l).map (psi H φ) ∧ ∀ r ∈ addRs (clF G) R l, Rep G r
  | [], [], R, hR, _, _ => ⟨rfl, hR⟩
  | [], _ :: _, _, _, _, e => by simp at e
  | _ :: _, [], _, _, _, e => by simp at e
  | x :: l, y :: m, R, hR, hx, e => by
    rw [List.map_cons, List.map_cons, List.cons.injEq] at e
    obtain ⟨h1, h2⟩ := addR_map h hR (hx x (by simp)) e.1
    have h3 := addRs_map h l m (addR (clF G) R x) h2 (fun z hz => hx z (by simp [hz])) e.2
    unfold addRs at h3 ⊢
    rw [List.foldl_cons, List.foldl_cons, h1]
    exact h3
theorem psi_refs (h : Hom G H φ) {r : Nat} (hr : Rep G r) : (refsOf (H.getD (psi H φ r) default)).map (fun y => clF H y.toNat) = (refsOf (G.getD r default)).map (fun x => psi H φ (clF G x.toNat)) := by
  have hp : φ r < H.length := h.lt r hr.1
  have hq := rep_cl hp
  have a2 := (class_agree hq.1 hp hq.2).2
  have e1 : (refsOf (H.getD (psi H φ r) default)).map (fun y => clF H y.toNat) = (refsOf (H.getD (φ r) default)).map (fun y => clF H y.toNat) := a2
  rw [e1]
  have e2 := congrArg (List.map (clF H)) (h.refs r hr.1)
  rw [List.map_map, List.map_map] at e2
  have e3 : (refsOf (H.getD (φ r) default)).map (fun y => clF H y.toNat) = (refsOf (G.getD r default)).map (clF H ∘ fun x => φ x.toNat) := e2
  rw [e3]
  apply List.map_congr_left
  intro x hx
  exact (psi_cl h (h.inG r hr.1 x hx)).symm
theorem reachF_map (h : Hom G H φ) : ∀ (f k : Nat) (R : List Nat), (∀ r ∈ R, Rep G r) → reachF (clF H) H f k (R.map (psi H φ)) = (reachF (clF G) G f k R).map (psi H φ) ∧ ∀ r ∈ reachF (clF G) G f k R, Rep G r
  | 0, k, R, hR => ⟨rfl, hR⟩
  | f + 1, k, R, hR => by
    rw [reachF, reachF, List.getElem?_map]
    cases hk : R[k]? with
    | none => exact ⟨rfl, hR⟩
    | some r =>
      have hr := hR r (List.mem_of_getElem? hk)
      simp only [Option.map_some]
      obtain ⟨h1, h2⟩ := addRs_map h (refsOf (G.getD r default)) (refsOf (H.getD (psi H φ r) default)) R hR (fun x hx => h.inG r hr.1 x hx) (psi_refs h hr)
      rw [h1]
      exact reachF_map h f (k + 1) _ h2
theorem numR_le {G : List TyD} (hf : Fit G) {a : Nat} (ha : a < G.length) : (numR G a).length ≤ G.length := by
  have h := (numR_inv hf ha).1
  exact nodup_le _ _ h.nodup h.bnd
theorem numR_map (h : Hom G H φ) (hG : Fit G) (hH : Fit H) {a : Nat} (ha : a < G.length) : numR H (φ a) = (numR G a).map (psi H φ) ∧ ∀ r ∈ numR G a, Rep G r := by
  have h1 : numR G a = reachF (clF G) G (G.length + 1 + (H.length + 1)) 0 [clF G a] := (reachF_more _ _ _ _ (by have := numR_le hG ha; unfold numR reachL at this; omega)).symm
  have h2 : numR H (φ a) = reachF (clF H) H (H.length + 1 + (G.length + 1)) 0 [clF H (φ a)] := (reachF_more _ _ _ _ (by have := numR_le hH (h.lt a ha); unfold numR reachL at this; omega)).symm
  have h3 := reachF_map h (G.length + 1 + (H.length + 1)) 0 [clF G a] (fun r hr => by rw [List.mem_singleton.1 hr]; exact rep_cl ha)
  rw [← h1, List.map_cons, List.map_nil, psi_cl h ha, Nat.add_comm (G.length + 1), ← h2] at h3
  exact h3
theorem toF_num {G : List TyD} {a : Nat} {x : Int} (hx : x.toNat < G.length) : toF ((numTo G a).map Int.ofNat) x = (numN (numR G a) (clF G x.toNat) : Nat) := by
  have hl : x.toNat < (classesL G).length := by rw [classesL_len]; exact hx
  unfold toF numTo clF
  simp [List.getD_eq_getElem?_getD, hl]
end
end Go.Proofs.YteaokkaidcbdlaaGreatDoor

namespace Go.Proofs.YteaokkaidcbdlaaGreatDoor
open Go Go.RowKit Go.Shelf
theorem ty_nums {G : List TyD} (hz : GrZ G) (hc : (checkR G).2 = 0) {i : Nat} (hi : i < G.length) :
    (supB (G.getD i default).kind = true → 0 ≤ (G.getD i default).super ∧ (G.getD i default).super < G.length) ∧ (∀ p ∈ (G.getD i default).parts, 0 ≤ p.type ∧ p.type < G.length) ∧
    ∀ m ∈ (G.getD i default).meths, (∀ x ∈ m.args, 0 ≤ x ∧ x < G.length) ∧ (m.result ≠ -1 → 0 ≤ m.result ∧ m.result < G.length) := by
  have hmem : G.getD i default ∈ G := by rw [List.getD_eq_getElem?_getD, List.getElem?_eq_getElem hi]; exact List.getElem_mem hi
  have h3 := (check_fit hz hc).2.2 _ hmem
  generalize G.getD i default = t at h3
  unfold refsOf at h3
  refine ⟨fun hs => h3 _ (by simp [hs]), fun p hp => h3 _ ?_, fun m hm => ⟨fun x hx => h3 _ ?_, fun hr => h3 _ ?_⟩⟩
  · rw [List.mem_append, List.mem_append]
    exact .inr (.inl (List.mem_map_of_mem (f := (·.type)) hp))
  · rw [List.mem_append, List.mem_append]
    exact .inr (.inr (List.mem_flatMap.2 ⟨m, hm, by unfold sigRefs; simp [hx]⟩))
  · rw [List.mem_append, List.mem_append]
    exact .inr (.inr (List.mem_flatMap.2 ⟨m, hm, by unfold sigRefs; simp [hr]⟩))
theorem noneK_pos {x : Int} (h : 0 ≤ x) : noneK x = false := by unfold noneK; simp; omega
end Go.Proofs.YteaokkaidcbdlaaGreatDoor

namespace Go.Proofs.YteaokkaidcbdlaaGreatDoor
open Go Go.RowKit Go.Shelf
structure BI (G : List TyD) (cl : Nat → Nat) (first : Nat × Nat) (C : Came) (Q : List (Nat × Nat)) (s : Option (Nat × Nat)) (D : List Nat) (k : Nat) : Prop where
  keys : C.map (·.1) = Q ++ s.toList
  nodup : (C.map (·.1)).Nodup
  bnd : ∀ c ∈ C, c.1.1 < G.length ∧ c.1.2 < G.length
  dl : D.length = C.length
  h0 : ∃ c, C[0]? = some c ∧ c.1 = first
  d0 : D.getD 0 0 = 0
  par : ∀ m c, C[m]? = some c → m ≠ 0 → ∃ r c', r < m ∧ C[r]? = some c' ∧ c'.1 = c.2.1 ∧ D.getD m 0 = D.getD r 0 + 1 ∧ agB G c'.1 = true ∧ ∃ x ∈ besG G c'.1, x.1 = c.2.2 ∧ nxP x = c.1
  mono : ∀ i j, i ≤ j → j < D.length → D.getD i 0 ≤ D.getD j 0
  top : k < D.length → ∀ i, i < D.length → D.getD i 0 ≤ D.getD k 0 + 1
  ag : ∀ q ∈ Q, agB G q = true
  done : ∀ r q, r < k → Q[r]? = some q → ∀ x ∈ besG G q, cl (nxP x).1 = cl (nxP x).2 ∨ ∃ m, Q[m]? = some (nxP x) ∧ D.getD m 0 ≤ D.getD r 0 + 1
theorem getD_app {l : List Nat} {x i : Nat} (h : i < l.length) : (l ++ [x]).getD i 0 = l.getD i 0 := getD_snoc_lt h
theorem BI.push {G : List TyD} {cl : Nat → Nat} {first a : Nat × Nat} {C : Came} {Q : List (Nat × Nat)} {D : List Nat} {k : Nat} (h : BI G cl first C Q none D k) (hk : Q[k]? = some a) {x : Nat × Int × Int} (hx : x ∈ besG G a)
    (hnew : nxP x ∉ C.map (·.1)) (hb : (nxP x).1 < G.length ∧ (nxP x).2 < G.length) (Q' : List (Nat × Nat)) (s : Option (Nat × Nat)) (hQ : Q' ++ s.toList = Q ++ [nxP x]) (hag : ∀ q ∈ Q', agB G q = true) (hpre : ∀ (r : Nat) (q : Nat × Nat), Q[r]? = some q → Q'[r]? = some q) (hpre2 : ∀ (r : Nat) (q : Nat × Nat), r < Q.length → Q'[r]? = some q → Q[r]? = some q) :
    BI G cl first (C ++ [(nxP x, a, x.1)]) Q' s (D ++ [D.getD k 0 + 1]) k := by
  have hkeys : C.map (·.1) = Q := by have := h.keys; simpa using this
  have hlen : C.length = Q.length := by have := congrArg List.length hkeys; simpa using this
  have hkl : k < Q.length := (List.getElem?_eq_some_iff.1 hk).1
  have hkD : k < D.length := by rw [h.dl, hlen]; exact hkl
  have hDk := getD_app (x := D.getD k 0 + 1) hkD
  refine ⟨?_, ?_, fun c hc => ?_, by simp [h.dl], ?_, ?_, fun m c hm hm0 => ?_, fun i j hij hj => ?_, fun _ i hi => ?_, hag, fun r q hr hq x' hx' => ?_⟩
  · rw [List.map_append, hkeys, hQ]; rfl
  · rw [List.map_append, List.nodup_append]
    exact ⟨h.nodup, by simp, fun p hp q hq e => by simp at hq; subst hq; exact hnew (e ▸ hp)⟩
  · rw [List.mem_append, List.mem_singleton] at hc
    rcases hc with hc | rfl
    · exact h.bnd c hc
    · exact hb
  · obtain ⟨c, hc, e⟩ := h.h0
    exact ⟨c, by rw [List.getElem?_append_left (List.getElem?_eq_some_iff.1 hc).1]; exact hc, e⟩
  · rw [getD_app (by omega)]; exact h.d0
  · by_cases hlt : m < C.length
    · rw [List.getElem?_append_left hlt] at hm
      obtain ⟨r, c', h1, h2, h3, h4, h5, h6⟩ := h.par m c hm hm0
      exact ⟨r, c', h1, by rw [List.getElem?_append_left (by omega)]; exact h2, h3, by rw [getD_app (by rw [h.dl]; omega), getD_app (by rw [h.dl]; omega)]; exact h4, h5, h6⟩
    · have hme : m = C.length := by have := (List.getElem?_eq_some_iff.1 hm).1; simp at this; omega
      subst hme
      rw [List.getElem?_append_right (Nat.le_refl _), Nat.sub_self] at hm
      simp only [List.getElem?_cons_zero, Option.some.injEq] at hm
      subst hm
      have hck : ∃ c', C[k]? = some c' ∧ c'.1 = a := by
        have : (C.map (·.1))[k]? = some a := by rw [hkeys]; exact hk
        rw [List.getElem?_map, Option.map_eq_some_iff] at this
        exact this
      obtain ⟨c', hc1, hc2⟩ := hck
      refine ⟨k, c', by omega, by rw [List.getElem?_append_left (by omega)]; exact hc1, hc2, ?_, by rw [hc2]; exact h.ag a (List.mem_of_getElem? hk), x, by rw [hc2]; exact hx, rfl, rfl⟩
      rw [hDk, getD_snoc_len h.dl]
  · by_cases hjl : j < D.length
    · rw [getD_app hjl, getD_app (by omega)]; exact h.mono i j hij hjl
    · have hje : j = D.length := by simp at hj; omega
      subst hje
      rw [getD_snoc_len rfl]
      by_cases hil : i < D.length
      · rw [getD_app hil]; exact h.top hkD i hil
      · obtain rfl : i = D.length := by omega
        rw [getD_snoc_len rfl]; exact Nat.le_refl _
  · rw [hDk]
    by_cases hil : i < D.length
    · rw [getD_app hil]; exact h.top hkD i hil
    · have hie : i = D.length := by simp at hi; omega
      subst hie
      rw [getD_snoc_len rfl]; exact Nat.le_refl _
  · have hrl : r < Q.length := by omega
    rcases h.done r q hr (hpre2 r q hrl hq) x' hx' with h1 | ⟨m, h1, h2⟩
    · exact .inl h1
    · have hml : m < Q.length := (List.getElem?_eq_some_iff.1 h1).1
      exact .inr ⟨m, hpre m _ h1, by rw [getD_app (by rw [h.dl, hlen]; exact hml), getD_app (by rw [h.dl, hlen]; exact hrl)]; exact h2⟩
theorem inRun_BI {G : List TyD} {cl : Nat → Nat} {first a : Nat × Nat} {k : Nat} (hin : ∀ x ∈ besG G a, (nxP x).1 < G.length ∧ (nxP x).2 < G.length) : ∀ (xs : List (Nat × Int × Int)) (st : SSt) (D : List Nat),
    BI G cl first st.1 st.2 none D k → st.2[k]? = some a → (∀ x ∈ xs, x ∈ besG G a) →
    ∃ D', BI G cl first (inRun (agB G) cl a xs st).1.1 (inRun (agB G) cl a xs st).1.2 (inRun (agB G) cl a xs st).2 D' k ∧ (∀ i, i < D.length → D'.getD i 0 = D.getD i 0) ∧ (∃ R, (inRun (agB G) cl a xs st).1.2 = st.2 ++ R) ∧
      ((inRun (agB G) cl a xs st).2 = none → ∀ x ∈ xs, cl (nxP x).1 = cl (nxP x).2 ∨ ∃ m, (inRun (agB G) cl a xs st).1.2[m]? = some (nxP x) ∧ D'.getD m 0 ≤ D'.getD k 0 + 1) ∧
      (∀ nx, (inRun (agB G) cl a xs st).2 = some nx → agB G nx = false)
  | [], st, D, h, hk, _ => ⟨D, h, fun _ _ => rfl, ⟨[], by simp [inRun]⟩, fun _ x hx => by simp at hx, fun nx hn => by simp [inRun] at hn⟩
  | x :: xs, st, D, h, hk, hxs => by
    have hx := hxs x (by simp)
    have hkeys : st.1.map (·.1) = st.2 := by have := h.keys; simpa using this
    have hlen : st.1.length = st.2.length := by have := congrArg List.length hkeys; simpa using this
    have hkl : k < st.2.length := (List.getElem?_eq_some_iff.1 hk).1
    rw [inRun]
    unfold inStep
    by_cases hc : nxP x ∈ st.1.map (·.1) ∨ cl (nxP x).1 = cl (nxP x).2
    · rw [if_pos hc]
      simp only
      obtain ⟨D', h1, h2, ⟨R, h3⟩, h4, h5⟩ := inRun_BI hin xs st D h hk (fun y hy => hxs y (by simp [hy]))
      refine ⟨D', h1, h2, ⟨R, h3⟩, fun hn y hy => ?_, h5⟩
      rcases List.mem_cons.1 hy with rfl | hy
      · rcases hc with hc | hc
        · rw [hkeys] at hc
          obtain ⟨m, hm⟩ := List.getElem?_of_mem hc
          have hml : m < st.2.length := (List.getElem?_eq_some_iff.1 hm).1
          refine .inr ⟨m, by rw [h3, List.getElem?_append_left hml]; exact hm, ?_⟩
          rw [h2 m (by rw [h.dl, hlen]; exact hml), h2 k (by rw [h.dl, hlen]; exact hkl)]
          exact h.top (by rw [h.dl, hlen]; exact hkl) m (by rw [h.dl, hlen]; exact hml)
        · exact .inl hc
      · exact h4 hn y hy
    · rw [if_neg hc]
      have hnew : nxP x ∉ st.1.map (·.1) := fun e => hc (.inl e)
      cases hag : agB G (nxP x) with
      | true =>
        simp only [if_true]
        have hp := h.push hk hx hnew (hin x hx) (st.2 ++ [nxP x]) none (by simp) (fun q hq => by
          rw [List.mem_append, List.mem_singleton] at hq
          rcases hq with hq | rfl
          · exact h.ag q hq
          · exact hag) (fun r q hq => by rw [List.getElem?_append_left (List.getElem?_eq_some_iff.1 hq).1]; exact hq) (fun r q hr hq => by rw [List.getElem?_append_left hr] at hq; exact hq)
        obtain ⟨D', h1, h2, ⟨R, h3⟩, h4, h5⟩ := inRun_BI hin xs (st.1 ++ [(nxP x, a, x.1)], st.2 ++ [nxP x]) _ hp (by simp only; rw [List.getElem?_append_left hkl]; exact hk) (fun y hy => hxs y (by simp [hy]))
        refine ⟨D', h1, fun i hi => ?_, ⟨[nxP x] ++ R, by rw [h3]; simp⟩, fun hn y hy => ?_, h5⟩
        · rw [h2 i (by simp; omega), getD_app hi]
        · rcases List.mem_cons.1 hy with rfl | hy
          · refine .inr ⟨st.2.length, by rw [h3]; simp, ?_⟩
            rw [h2 _ (by simp [h.dl, hlen]), h2 k (by simp [h.dl, hlen]; omega), getD_snoc_len (by rw [h.dl, hlen]), getD_app (by rw [h.dl, hlen]; exact hkl)]
            exact Nat.le_refl _
          · exact h4 hn y hy
      | false =>
        simp only [Bool.false_eq_true, if_false]
        have hp := h.push hk hx hnew (hin x hx) st.2 (some (nxP x)) (by simp) h.ag (fun r q hq => hq) (fun r q _ hq => hq)
        exact ⟨_, hp, fun i hi => getD_app hi, ⟨[], by simp⟩, fun hn => (by cases hn), fun nx hn => (by cases hn; exact hag)⟩
theorem BI.small {G : List TyD} {cl : Nat → Nat} {first : Nat × Nat} {C : Came} {Q : List (Nat × Nat)} {s : Option (Nat × Nat)} {D : List Nat} {k : Nat} (h : BI G cl first C Q s D k) : C.length ≤ G.length * G.length :=
  SInv.small (G := G) (first := first) (st := (C, Q)) (s := s) ⟨h.keys, by have := h.nodup; rw [h.keys] at this; exact this, h.bnd, h.ag, fun m hm => by
    by_cases h0 : m = 0
    · subst h0
      obtain ⟨c, hc, e⟩ := h.h0
      left
      rw [List.getElem?_eq_getElem hm] at hc
      cases hc; exact e
    · obtain ⟨r, c', h1, h2, h3, -⟩ := h.par m _ (List.getElem?_eq_getElem hm) h0
      right
      obtain ⟨hr, e⟩ := List.getElem?_eq_some_iff.1 h2
      exact ⟨r, h1, by rw [e]; exact h3⟩, by
    obtain ⟨c, hc, e⟩ := h.h0
    obtain ⟨h0, e2⟩ := List.getElem?_eq_some_iff.1 hc
    exact ⟨h0, by rw [e2]; exact e⟩⟩
theorem outRun_BI {G : List TyD} {cl : Nat → Nat} {first : Nat × Nat} (hin : ∀ a : Nat × Nat, a.1 < G.length → a.2 < G.length → ∀ x ∈ besG G a, (nxP x).1 < G.length ∧ (nxP x).2 < G.length) : ∀ (f k : Nat) (st : SSt) (D : List Nat),
    BI G cl first st.1 st.2 none D k → k ≤ st.2.length → G.length * G.length < k + f →
    ∃ C' Q' s' D' k', outRun (agB G) cl (besG G) f k st = (C', s') ∧ BI G cl first C' Q' s' D' k' ∧ (s' = none → k' = Q'.length) ∧ (∀ nx, s' = some nx → agB G nx = false ∧ k' < Q'.length)
  | 0, k, st, D, h, hk, hf => by
    have := h.small
    have hkeys : st.1.map (·.1) = st.2 := by have := h.keys; simpa using this
    have hlen : st.1.length = st.2.length := by have := congrArg List.length hkeys; simpa using this
    omega
  | f + 1, k, st, D, h, hk, hf => by
    have hkeys : st.1.map (·.1) = st.2 := by have := h.keys; simpa using this
    have hlen : st.1.length = st.2.length := by have := congrArg List.length hkeys; simpa using this
    rw [outRun]
    cases ha : st.2[k]? with
    | none =>
      have : st.2.length ≤ k := List.getElem?_eq_none_iff.1 ha
      exact ⟨st.1, st.2, none, D, k, rfl, h, fun _ => by omega, fun nx hn => (by cases hn)⟩
    | some a =>
      have hkl : k < st.2.length := (List.getElem?_eq_some_iff.1 ha).1
      have hab : a.1 < G.length ∧ a.2 < G.length := by
        have : a ∈ st.1.map (·.1) := by rw [hkeys]; exact List.mem_of_getElem? ha
        obtain ⟨c, hc, rfl⟩ := List.mem_map.1 this
        exact h.bnd c hc
      obtain ⟨D', h1, h2, ⟨R, h3⟩, h4, h5⟩ := inRun_BI (hin a hab.1 hab.2) (besG G a) st D h ha (fun x hx => hx)
      simp only
      generalize inRun (agB G) cl a (besG G a) st = r at h1 h3 h4 h5
      obtain ⟨⟨C', Q'⟩, o⟩ := r
      simp only at h1 h3 h4 h5
      have hkl' : k < Q'.length := by rw [h3]; simp; omega
      cases o with
      | some nx => exact ⟨C', Q', some nx, D', k, rfl, h1, fun hn => (by cases hn), fun nx' hn => (by cases hn; exact ⟨h5 _ rfl, hkl'⟩)⟩
      | none =>
        have hk1 : Q'[k]? = some a := by rw [h3, List.getElem?_append_left hkl]; exact ha
        have hkeys' : C'.map (·.1) = Q' := by have := h1.keys; simpa using this
        have hlen' : C'.length = Q'.length := by have := congrArg List.length hkeys'; simpa using this
        have hb : BI G cl first C' Q' none D' (k + 1) := by
          refine ⟨h1.keys, h1.nodup, h1.bnd, h1.dl, h1.h0, h1.d0, h1.par, h1.mono, fun hk2 i hi => ?_, h1.ag, fun r q hr hq x hx => ?_⟩
          · have ht := h1.top (by omega) i hi
            have := h1.mono k (k + 1) (by omega) hk2
            omega
          · by_cases hrk : r < k
            · exact h1.done r q hrk hq x hx
            · obtain rfl : r = k := by omega
              rw [hk1] at hq
              cases hq
              exact h4 rfl x hx
        exact outRun_BI hin f (k + 1) (C', Q') D' hb hkl' (by omega)
theorem BI.start {G : List TyD} {cl : Nat → Nat} {first : Nat × Nat} (h1 : first.1 < G.length) (h2 : first.2 < G.length) (ha : agB G first = true) : BI G cl first [(first, (0, 0), 0)] [first] none [0] 0 :=
  ⟨rfl, by simp, fun c hc => (by simp at hc; subst hc; exact ⟨h1, h2⟩), rfl, ⟨_, rfl, rfl⟩, rfl, fun m c hm h0 => (by
    have := (List.getElem?_eq_some_iff.1 hm).1
    simp at this; exact absurd this h0), fun i j hij hj => (by simp at hj; subst hj; have : i = 0 := by omega
                                                               subst this; exact Nat.le_refl _), fun _ i hi => (by simp at hi; subst hi; exact Nat.le_succ _), fun q hq => (by simp at hq; subst hq; exact ha), fun r q hr => (by omega)⟩
def nextP (G : List TyD) (p : Nat × Nat) (k : Int) : Nat × Nat := (((refsOf (G.getD p.1 default)).getD k.toNat 0).toNat, ((refsOf (G.getD p.2 default)).getD k.toNat 0).toNat)
theorem tells_cons {G : List TyD} {p : Nat × Nat} {k : Int} {ks : List Int} : tellsL G p (k :: ks) = true ↔ agB G p = true ∧ (0 ≤ k ∧ k < ((refsOf (G.getD p.1 default)).length : Int)) ∧ tellsL G (nextP G p k) ks = true := by
  rw [tellsL]
  unfold nextP
  generalize refsOf (G.getD p.1 default) = A
  generalize refsOf (G.getD p.2 default) = B
  generalize agB G p = b
  cases b
  · simp
  · rw [if_pos rfl]
    by_cases h2 : 0 ≤ k ∧ k < (A.length : Int)
    · rw [if_pos h2]
      exact ⟨fun h => ⟨rfl, h2, h⟩, fun h => h.2.2⟩
    · rw [if_neg h2]
      exact ⟨fun h => (by cases h), fun h => absurd h.2.1 h2⟩
theorem getD_at {A : List Int} {k : Nat} (h : k < A.length) : A.getD k 0 = A[k] := by rw [List.getD_eq_getElem?_getD, List.getElem?_eq_getElem h]; rfl
theorem bes_mem {G : List TyD} {p : Nat × Nat} {k : Nat} (hl : (refsOf (G.getD p.1 default)).length = (refsOf (G.getD p.2 default)).length) (hk : k < (refsOf (G.getD p.1 default)).length) : ∃ x ∈ besG G p, x.1 = k ∧ nxP x = nextP G p k := by
  have h2 : k < (refsOf (G.getD p.2 default)).length := by omega
  refine ⟨(k, (refsOf (G.getD p.1 default))[k], (refsOf (G.getD p.2 default))[k]), ?_, rfl, ?_⟩
  · unfold besG besL
    refine List.mem_map.2 ⟨(((refsOf (G.getD p.1 default))[k], (refsOf (G.getD p.2 default))[k]), k), ?_, rfl⟩
    rw [List.mem_zipIdx_iff_getElem?]
    rw [List.getElem?_eq_getElem (by rw [List.length_zip]; omega), List.getElem_zip]
  · unfold nxP nextP
    rw [Int.toNat_natCast, getD_at hk, getD_at h2]
theorem bes_next {G : List TyD} {p : Nat × Nat} {x : Nat × Int × Int} (h : x ∈ besG G p) : x.1 < (refsOf (G.getD p.1 default)).length ∧ nxP x = nextP G p x.1 := by
  unfold besG besL at h
  obtain ⟨⟨⟨u, v⟩, k⟩, hm, rfl⟩ := List.mem_map.1 h
  rw [List.mem_zipIdx_iff_getElem?] at hm
  simp only at hm ⊢
  obtain ⟨hk, e⟩ := List.getElem?_eq_some_iff.1 hm
  rw [List.length_zip] at hk
  rw [List.getElem_zip, Prod.mk.injEq] at e
  refine ⟨by omega, ?_⟩
  unfold nxP nextP
  rw [Int.toNat_natCast, getD_at (show k < (refsOf (G.getD p.1 default)).length by omega), getD_at (show k < (refsOf (G.getD p.2 default)).length by omega), e.1, e.2]
end Go.Proofs.YteaokkaidcbdlaaGreatDoor

