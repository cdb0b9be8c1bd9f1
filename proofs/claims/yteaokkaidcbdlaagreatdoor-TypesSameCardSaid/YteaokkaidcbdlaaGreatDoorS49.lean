/- Part 49 of 53: the texts Ye, Zm, one behind the other. -/
import Derived.Test.YteaokkaidcbdlaaGreatDoorS48
import Derived.Test.YteaokkaidcbdlaaGreatDoorS30
import Derived.Tactics
import Derived.Tactics2
import Derived.WalkKit
import Derived.LoopTactic
import Derived.Outline
import Derived.Lib.Hide
import Derived.Handy
import Derived.KernelRfl
import Derived.Deep.LoopGhost
import Derived.CallsIn
import Derived.Deep.QuietTactic
import Derived.BigQuiet
import Derived.Deep.Draws
import Derived.WalkSpells
import Derived.Lib.Walk
import Derived.Lib.Strings
import Derived.Maps.OwnOps
import Derived.Maps.OwnSet
import Derived.Deep.RegionWith
import Derived.StillTailTactics
import Derived.WalkMore
import Derived.RangeFuncNested
import Derived.RangeFuncBound
import Derived.RangeFuncCalls
import Derived.RangeFuncLeaves
import Derived.RangeFuncBox
import Derived.Shelf.Abstract
import Derived.OwnWalkIn
import Derived.TacticsInMore
import Derived.LoopNIn
import Derived.LoopIn
import Derived.RecoverIn
import Derived.Maps.AppendAt
import Derived.RegionTactic
import Derived.ChangeAlike
import Derived.OwnWalk
import Derived.Deep.AppendLies
import Derived.Deep.DeepCutAuto
import Derived.Deep.RegionLaw
import Derived.Deep.RegionHeld3
import Derived.Laws.EntriesVeiled
import Derived.Test.YteaokkaidcbdlaaGreatDoorS40
import Derived.Test.YteaokkaidcbdlaaGreatDoorS31
/- On graphs that check, the reference's Agree is agree. -/
namespace Go.Proofs.YteaokkaidcbdlaaGreatDoor
open Go Go.RowKit Go.Shelf
/-! ### On graphs as they should be, the reference's Agree is agree -/
theorem eqF_congr {α : Type} {f g : α → α → Bool} : ∀ {l m : List α}, (∀ x ∈ l, ∀ y ∈ m, f x y = g x y) → eqF f l m = eqF g l m
  | [], [], _ => rfl
  | [], _ :: _, _ => rfl
  | _ :: _, [], _ => rfl
  | x :: l, y :: m, h => by
    have ih := eqF_congr (l := l) (m := m) (fun a ha b hb => h a (by simp [ha]) b (by simp [hb]))
    have h0 := h x (by simp) y (by simp)
    unfold eqF at ih ⊢
    simp only [List.zip_cons_cons, List.all_cons, List.length_cons, Nat.add_right_cancel_iff]
    rw [h0]
    cases g x y
    · simp
    · simpa using ih
theorem eqF_all {α : Type} {f : α → α → Bool} {l m : List α} (h : ∀ x ∈ l, ∀ y ∈ m, f x y = true) : eqF f l m = decide (l.length = m.length) := by
  rw [eqF_congr (g := fun _ _ => true) h]
  unfold eqF
  simp
/-- No index of a type is -1, but for results. -/
structure IdxOk (t : TyD) : Prop where
  sup : t.super ≠ -1
  parts : ∀ p ∈ t.parts, p.type ≠ -1
  args : ∀ m ∈ t.meths, ∀ x ∈ m.args, x ≠ -1
  res : ∀ m ∈ t.meths, -1 ≤ m.result
theorem fit_ne {i j : Int} (hi : i ≠ -1) (hj : j ≠ -1) : fitB i j = true := by
  unfold fitB
  have h1 : (i == -1) = false := by simpa using hi
  have h2 : (j == -1) = false := by simpa using hj
  rw [h1, h2]; rfl
theorem agR_agree {a b : TyD} (ha : IdxOk a) (hb : IdxOk b) : agR a b = agreeB a b := by
  unfold agR agreeB
  rw [fit_ne ha.sup hb.sup, Bool.true_and]
  rw [eqF_congr (f := partR) (g := partFitB) (fun x hx y hy => by unfold partR partFitB; rw [fit_ne (ha.parts x hx) (hb.parts y hy), Bool.and_true])]
  rw [eqF_congr (f := methR) (g := methFitB) (fun x hx y hy => by
    unfold methR methFitB
    rw [eqF_all (f := fitB) (fun u hu v hv => fit_ne (ha.args x hx u hu) (hb.args y hy v hv))]
    have h1 := ha.res x hx
    have h2 := hb.res y hy
    have : (decide (x.result < 0) == decide (y.result < 0)) = fitB x.result y.result := by
      unfold fitB
      have e1 : decide (x.result < 0) = (x.result == -1) := by rw [Bool.eq_iff_iff]; simp; omega
      have e2 : decide (y.result < 0) = (y.result == -1) := by rw [Bool.eq_iff_iff]; simp; omega
      rw [e1, e2]
    rw [this])]
theorem bareB_super {t : TyD} {n : Nat} (h : bareB t n = true) : t.super = 0 := by
  unfold bareB at h
  simp only [Bool.and_eq_true, decide_eq_true_eq] at h
  exact h.1.2
theorem tyB_super {G : List TyD} {t : TyD} (h : tyB G t = true) : t.super ≠ -1 := by
  by_cases hs : supB t.kind = true
  · have := (tyB_refs h).sup hs; omega
  · have hk : t.kind ≠ 12 ∧ t.kind ≠ 13 := by unfold supB at hs; simp at hs; omega
    unfold tyB at h
    split at h
    case h_12 hk2 => omega
    case h_13 hk2 => omega
    case h_14 => cases h
    all_goals
      first
        | (have := bareB_super h; omega)
        | (rw [Bool.and_eq_true] at h; have := bareB_super h.2; simp only at this; omega)
theorem tyB_idx {G : List TyD} {t : TyD} (h : tyB G t = true) : IdxOk t := by
  have hr := tyB_refs h
  refine ⟨tyB_super h, fun p hp => ?_, fun m hm x hx => ?_, fun m hm => ?_⟩
  · have := hr.parts p hp; omega
  · have h1 := hr.meths m hm
    unfold sigB at h1
    simp only [Bool.and_eq_true, List.all_eq_true] at h1
    have := idxB_iff.1 (h1.2.1 x hx); omega
  · have h1 := hr.meths m hm
    unfold sigB at h1
    simp only [Bool.and_eq_true, Bool.or_eq_true, decide_eq_true_eq] at h1
    rcases h1.2.2.1 with h2 | h2
    · omega
    · have := idxB_iff.1 h2; omega
/-- On types of a graph that checks, the reference's Agree is agree. -/
theorem agR_checked {G : List TyD} {a b : TyD} (ha : tyB G a = true) (hb : tyB G b = true) : agR a b = agreeB a b := agR_agree (tyB_idx ha) (tyB_idx hb)
end Go.Proofs.YteaokkaidcbdlaaGreatDoor
/- TypesSame: the maths of law 9 -/
namespace Go.Proofs.YteaokkaidcbdlaaGreatDoor
open Go Go.RowKit Go.Shelf
/-! ### TypesSame (9): the maths -/
theorem equalL_ok {G : List TyD} {i j : Int} (h : (equalL G i j).2 = 0) : checkedR G [i, j] = 0 ∧ (equalL G i j).1 = decide (clF G i.toNat = clF G j.toNat) := by
  unfold equalL at h ⊢
  by_cases hc : checkedR G [i, j] = 0
  · rw [if_neg (by simp [hc])]; exact ⟨hc, rfl⟩
  · rw [if_pos hc] at h; exact absurd h hc
theorem checkedR_zero {G : List TyD} {l : List Int} : checkedR G l = 0 ↔ (checkR G).2 = 0 ∧ l.all (idxB G.length) = true := by
  unfold checkedR
  constructor
  · intro h
    split at h
    · rename_i hne; exact absurd h hne
    · rename_i hne
      split at h
      · rename_i hl; exact ⟨by simpa using hne, hl⟩
      · cases h
  · rintro ⟨h1, h2⟩
    rw [if_neg (by simp [h1]), if_pos h2]
theorem equalL_yes {G : List TyD} {i j : Int} (hc : (checkR G).2 = 0) (hi : idxB G.length i = true) (hj : idxB G.length j = true) (h : clF G i.toNat = clF G j.toNat) : equalL G i j = (true, 0) := by
  unfold equalL
  have h0 : checkedR G [i, j] = 0 := checkedR_zero.2 ⟨hc, by simp [hi, hj]⟩
  rw [if_neg (by simp [h0])]
  unfold clF at h
  rw [decide_eq_true h]
theorem check_ty {G : List TyD} (h : (checkR G).2 = 0) (i : Nat) (hi : i < G.length) : tyB G (G.getD i default) = true := by
  unfold checkR at h
  split at h
  · simp at h
  · split at h
    · simp at h
    · rename_i hn
      have hall := firstNo_all (p := tyB G) (l := G) (by
        rcases firstNo_ge (tyB G) G with h1 | h1
        · exact h1
        · exact absurd h1 hn)
      rw [List.getD_eq_getElem?_getD, List.getElem?_eq_getElem hi]
      exact hall _ (List.getElem_mem hi)
/-- What law 9 asks of two types that are the same. -/
structure Same9 (G : List TyD) (i j : Nat) : Prop where
  ag : agR (G.getD i default) (G.getD j default) = true
  len : (refsOf (G.getD i default)).length = (refsOf (G.getD j default)).length
  next : ∀ k (h1 : k < (refsOf (G.getD i default)).length) (h2 : k < (refsOf (G.getD j default)).length), equalL G ((refsOf (G.getD i default))[k]) ((refsOf (G.getD j default))[k]) = (true, 0)
theorem refs_idx {G : List TyD} (hz : GrZ G) (hc : (checkR G).2 = 0) {i k : Nat} (hi : i < G.length) (hk : k < (refsOf (G.getD i default)).length) : idxB G.length ((refsOf (G.getD i default))[k]) = true := by
  have h3 := (check_fit hz hc).2.2
  have hm : G.getD i default ∈ G := by rw [List.getD_eq_getElem?_getD, List.getElem?_eq_getElem hi]; exact List.getElem_mem hi
  exact idxB_iff.2 (h3 _ hm _ (List.getElem_mem hk))
theorem same9 {G : List TyD} (hz : GrZ G) (hc : (checkR G).2 = 0) {i j : Nat} (hi : i < G.length) (hj : j < G.length) (h : clF G i = clF G j) : Same9 G i j := by
  obtain ⟨h1, h2, h3⟩ := class_next hi hj h
  exact ⟨by rw [agR_checked (check_ty hc i hi) (check_ty hc j hj)]; exact h1, h2, fun k k1 k2 => equalL_yes hc (refs_idx hz hc hi k1) (refs_idx hz hc hj k2) (h3 k k1 k2)⟩
/-- What law 9 asks of pairs that are closed. -/
theorem pairs9 {G : List TyD} {l : List (Int × Int)} (hc : (checkR G).2 = 0) (h : closedB G l = true) (k : Nat) (hk : k < l.length) : equalL G l[k].1 l[k].2 = (true, 0) := by
  have h1 := h
  unfold closedB at h1
  rw [List.all_eq_true] at h1
  obtain ⟨a, b, -⟩ := oneP_iff.1 (h1 _ (List.getElem_mem hk))
  exact equalL_yes hc a b (closedB_class h _ (List.getElem_mem hk))
theorem ckEqualL_ok {G : List TyD} {l : List (Int × Int)} (h : (ckEqualL G l).2 = 0) : (ckEqualL G l).1 = closedB G l := by
  unfold ckEqualL at h ⊢
  split
  · rename_i hne; rw [if_pos hne] at h; exact absurd h hne
  · rename_i hne
    rw [if_neg hne] at h
    split
    · rename_i h2; rw [if_pos h2] at h; simp at h
    · rfl
theorem refs_results {G : List TyD} (hc : (checkR G).2 = 0) {i : Nat} (hi : i < G.length) : ∀ m ∈ (G.getD i default).meths, -1 ≤ m.result := by
  intro m hm
  have h1 := (tyB_refs (check_ty hc i hi)).meths m hm
  unfold sigB at h1
  simp only [Bool.and_eq_true, Bool.or_eq_true, decide_eq_true_eq] at h1
  rcases h1.2.2.1 with h2 | h2
  · omega
  · have := idxB_iff.1 h2; omega
theorem all9 {G : List TyD} {a b c : Int} (hz : GrZ G) (h1 : (equalL G a b).2 = 0) (h2 : (equalL G b c).2 = 0) (h3 : (equalL G a c).2 = 0) (h4 : (equalL G b a).2 = 0) (h5 : (equalL G a a).2 = 0) :
    (equalL G a a).1 = true ∧ (equalL G b a).1 = (equalL G a b).1 ∧ ((equalL G a b).1 = true → (equalL G b c).1 = true → (equalL G a c).1 = true) ∧
    ∃ i j : Nat, a = i ∧ b = j ∧ i < G.length ∧ j < G.length ∧ (checkR G).2 = 0 ∧ ((equalL G a b).1 = true → Same9 G i j) := by
  obtain ⟨k1, e1⟩ := equalL_ok h1
  obtain ⟨k2, e2⟩ := equalL_ok h2
  obtain ⟨k3, e3⟩ := equalL_ok h3
  obtain ⟨k4, e4⟩ := equalL_ok h4
  obtain ⟨k5, e5⟩ := equalL_ok h5
  obtain ⟨i, j, rfl, rfl, hi, hj⟩ := checked_ij k1
  have hc := (checkedR_zero.1 k1).1
  rw [e1, e2, e3, e4, e5]
  simp only [Int.toNat_natCast, decide_eq_true_eq]
  refine ⟨trivial, ?_, fun x y => x.trans y, i, j, rfl, rfl, hi, hj, hc, fun h => same9 hz hc hi hj h⟩
  rw [Bool.eq_iff_iff]
  simp only [decide_eq_true_eq]
  exact eq_comm
end Go.Proofs.YteaokkaidcbdlaaGreatDoor
