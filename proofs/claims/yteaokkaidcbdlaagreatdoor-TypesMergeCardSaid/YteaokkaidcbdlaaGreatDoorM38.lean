/- Part 38 of 53: the texts Ye, Zm, one behind the other. -/
import Derived.Test.YteaokkaidcbdlaaGreatDoorM37
import Derived.Test.YteaokkaidcbdlaaGreatDoorM24
import Derived.Test.YteaokkaidcbdlaaGreatDoorM26
import Derived.Test.YteaokkaidcbdlaaGreatDoorM25
namespace Go.Proofs.YteaokkaidcbdlaaGreatDoor
open Go Go.RowKit Go.Shelf
theorem eqF_congr {α : Type} {f g : α → α → Bool} : ∀ {l m : List α}, (∀ x ∈ l, ∀ y ∈ m, f x y = g x y) → eqF f l m = eqF g l m
 | [], [], _ => rfl
 | [], _ :: _, _ => rfl
 | _ :: _, [], _ => rfl
 | x :: l, y :: m, h => by
   have ih := eqF_congr (l := l) (m := m) (fun a ha b hb => h a (by simp [ha]) b (by simp [hb]))
   have h0 := h x (by simp) y (by simp)
   unfold eqF at ih ⊢
   simp only [List.zip_cons_cons, List.all_cons, List.length_cons, Nat.add_right_cancel_iff]
   rw [h0]
   cases g x y
   ·simp
   ·simpa using ih
theorem eqF_all {α : Type} {f : α → α → Bool} {l m : List α} (h : ∀ x ∈ l, ∀ y ∈ m, f x y = true) : eqF f l m = decide (l.length = m.length) := by
 rw [eqF_congr (g := fun _ _ => true) h]
 unfold eqF
 simp
structure IdxOk (t : TyD) : Prop where
 sup : t.super ≠ -1
 parts : ∀ p ∈ t.parts, p.type ≠ -1
 args : ∀ m ∈ t.meths, ∀ x ∈ m.args, x ≠ -1
 res : ∀ m ∈ t.meths, -1 ≤ m.result
theorem fit_ne {i j : Int} (hi : i ≠ -1) (hj : j ≠ -1) : fitB i j = true := by
 unfold fitB
 have h1 : (i == -1) = false := by simpa using hi
 have h2 : (j == -1) = false := by simpa using hj
 rw [h1, h2]; rfl
theorem agR_agree {a b : TyD} (ha : IdxOk a) (hb : IdxOk b) : agR a b = agreeB a b := by
 unfold agR agreeB
 rw [fit_ne ha.sup hb.sup, Bool.true_and]
 rw [eqF_congr (f := partR) (g := partFitB) (fun x hx y hy => by unfold partR partFitB; rw [fit_ne (ha.parts x hx) (hb.parts y hy), Bool.and_true])]
 rw [eqF_congr (f := methR) (g := methFitB) (fun x hx y hy => by
  unfold methR methFitB
  rw [eqF_all (f := fitB) (fun u hu v hv => fit_ne (ha.args x hx u hu) (hb.args y hy v hv))]
  have h1 := ha.res x hx
  have h2 := hb.res y hy
  have : (decide (x.result < 0) == decide (y.result < 0)) = fitB x.result y.result := by
   unfold fitB
   have e1 : decide (x.result < 0) = (x.result == -1) := by rw [Bool.eq_iff_iff]; simp; omega
   have e2 : decide (y.result < 0) = (y.result == -1) := by rw [Bool.eq_iff_iff]; simp; omega
   rw [e1, e2]
  rw [this])]
theorem bareB_super {t : TyD} {n : Nat} (h : bareB t n = true) : t.super = 0 := by
 unfold bareB at h
 simp only [Bool.and_eq_true, decide_eq_true_eq] at h
 exact h.1.2
theorem tyB_super {G : List TyD} {t : TyD} (h : tyB G t = true) : t.super ≠ -1 := by
 by_cases hs : supB t.kind = true
 ·have := (tyB_refs h).sup hs; omega
 ·have hk : t.kind ≠ 12 ∧ t.kind ≠ 13 := by unfold supB at hs; simp at hs; omega
  unfold tyB at h
  split at h
  case h_12 hk2 => omega
  case h_13 hk2 => omega
  case h_14 => cases h
  all_goals
   first
    | (have := bareB_super h; omega)
    | (rw [Bool.and_eq_true] at h; have := bareB_super h.2; simp only at this; omega)
theorem tyB_idx {G : List TyD} {t : TyD} (h : tyB G t = true) : IdxOk t := by
 have hr := tyB_refs h
 refine ⟨tyB_super h, fun p hp => ?_, fun m hm x hx => ?_, fun m hm => ?_⟩
 ·have := hr.parts p hp; omega
 ·have h1 := hr.meths m hm
  unfold sigB at h1
  simp only [Bool.and_eq_true, List.all_eq_true] at h1
  have := idxB_iff.1 (h1.2.1 x hx); omega
 ·have h1 := hr.meths m hm
  unfold sigB at h1
  simp only [Bool.and_eq_true, Bool.or_eq_true, decide_eq_true_eq] at h1
  rcases h1.2.2.1 with h2 | h2
  ·omega
  ·have := idxB_iff.1 h2; omega
theorem agR_checked {G : List TyD} {a b : TyD} (ha : tyB G a = true) (hb : tyB G b = true) : agR a b = agreeB a b := agR_agree (tyB_idx ha) (tyB_idx hb)
end Go.Proofs.YteaokkaidcbdlaaGreatDoor

namespace Go.Proofs.YteaokkaidcbdlaaGreatDoor
open Go Go.RowKit Go.Shelf
theorem checkedR_zero {G : List TyD} {l : List Int} : checkedR G l = 0 ↔ (checkR G).2 = 0 ∧ l.all (idxB G.length) = true := by
 unfold checkedR
 constructor
 ·intro h
  split at h
  ·rename_i hne; exact absurd h hne
  ·rename_i hne
   split at h
   ·rename_i hl; exact ⟨by simpa using hne, hl⟩
   ·cases h
 ·rintro ⟨h1, h2⟩
  rw [if_neg (by simp [h1]), if_pos h2]
theorem check_ty {G : List TyD} (h : (checkR G).2 = 0) (i : Nat) (hi : i < G.length) : tyB G (G.getD i default) = true := by
 unfold checkR at h
 split at h
 ·simp at h
 ·split at h
  ·simp at h
  ·rename_i hn
   have hall := firstNo_all (p := tyB G) (l := G) (by
    rcases firstNo_ge (tyB G) G with h1 | h1
    ·exact h1
    ·exact absurd h1 hn)
   rw [List.getD_eq_getElem?_getD, List.getElem?_eq_getElem hi]
   exact hall _ (List.getElem_mem hi)
theorem refs_results {G : List TyD} (hc : (checkR G).2 = 0) {i : Nat} (hi : i < G.length) : ∀ m ∈ (G.getD i default).meths, -1 ≤ m.result := by
 intro m hm
 have h1 := (tyB_refs (check_ty hc i hi)).meths m hm
 unfold sigB at h1
 simp only [Bool.and_eq_true, Bool.or_eq_true, decide_eq_true_eq] at h1
 rcases h1.2.2.1 with h2 | h2
 ·omega
 ·have := idxB_iff.1 h2; omega
end Go.Proofs.YteaokkaidcbdlaaGreatDoor

