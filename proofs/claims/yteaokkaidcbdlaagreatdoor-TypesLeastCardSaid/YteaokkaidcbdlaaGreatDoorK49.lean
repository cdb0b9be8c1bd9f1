/- Part 49 of 53: the texts Ye, Zm, Ve, Vf, Vg, one behind the other. -/
import Derived.Test.YteaokkaidcbdlaaGreatDoorK48
import Derived.Test.YteaokkaidcbdlaaGreatDoorK30
import Derived.Tactics
import Derived.Tactics2
import Derived.WalkKit
import Derived.LoopTactic
import Derived.Outline
import Derived.Lib.Hide
import Derived.Handy
import Derived.KernelRfl
import Derived.Deep.LoopGhost
import Derived.CallsIn
import Derived.Deep.QuietTactic
import Derived.BigQuiet
import Derived.Deep.Draws
import Derived.WalkSpells
import Derived.Lib.Walk
import Derived.Lib.Strings
import Derived.Maps.OwnOps
import Derived.Maps.OwnSet
import Derived.Deep.RegionWith
import Derived.StillTailTactics
import Derived.WalkMore
import Derived.RangeFuncNested
import Derived.RangeFuncBound
import Derived.RangeFuncCalls
import Derived.RangeFuncLeaves
import Derived.RangeFuncBox
import Derived.Shelf.Abstract
import Derived.OwnWalkIn
import Derived.TacticsInMore
import Derived.LoopNIn
import Derived.LoopIn
import Derived.RecoverIn
import Derived.Maps.AppendAt
import Derived.RegionTactic
import Derived.ChangeAlike
import Derived.OwnWalk
import Derived.Deep.AppendLies
import Derived.Deep.DeepCutAuto
import Derived.Deep.RegionLaw
import Derived.Deep.RegionHeld3
import Derived.Laws.EntriesVeiled
import Derived.Test.YteaokkaidcbdlaaGreatDoorK33
import Derived.Test.YteaokkaidcbdlaaGreatDoorK31
import Derived.Test.YteaokkaidcbdlaaGreatDoorK47
import Derived.Test.YteaokkaidcbdlaaGreatDoorK45
import Derived.Test.YteaokkaidcbdlaaGreatDoorK37
namespace Go.Proofs.YteaokkaidcbdlaaGreatDoor
open Go Go.RowKit Go.Shelf
theorem bareB_super {t : TyD} {n : Nat} (h : bareB t n = true) : t.super = 0 := by
  unfold bareB at h
  simp only [Bool.and_eq_true, decide_eq_true_eq] at h
  exact h.1.2
end Go.Proofs.YteaokkaidcbdlaaGreatDoor

namespace Go.Proofs.YteaokkaidcbdlaaGreatDoor
open Go Go.RowKit Go.Shelf
theorem checkedR_zero {G : List TyD} {l : List Int} : checkedR G l = 0 ↔ (checkR G).2 = 0 ∧ l.all (idxB G.length) = true := by
  unfold checkedR
  constructor
  · intro h
    split at h
    · rename_i hne; exact absurd h hne
    · rename_i hne
      split at h
      · rename_i hl; exact ⟨by simpa using hne, hl⟩
      · cases h
  · rintro ⟨h1, h2⟩
    rw [if_neg (by simp [h1]), if_pos h2]
theorem check_ty {G : List TyD} (h : (checkR G).2 = 0) (i : Nat) (hi : i < G.length) : tyB G (G.getD i default) = true := by
  unfold checkR at h
  split at h
  · simp at h
  · split at h
    · simp at h
    · rename_i hn
      have hall := firstNo_all (p := tyB G) (l := G) (by
        rcases firstNo_ge (tyB G) G with h1 | h1
        · exact h1
        · exact absurd h1 hn)
      rw [List.getD_eq_getElem?_getD, List.getElem?_eq_getElem hi]
      exact hall _ (List.getElem_mem hi)
end Go.Proofs.YteaokkaidcbdlaaGreatDoor

namespace Go.Proofs.YteaokkaidcbdlaaGreatDoor
open Go Go.RowKit Go.Shelf
theorem tyB_sup0 {G : List TyD} {t : TyD} (h : tyB G t = true) (hs : supB t.kind = false) : t.super = 0 := by
  have hk : t.kind ≠ 12 ∧ t.kind ≠ 13 := by unfold supB at hs; simp at hs; omega
  obtain ⟨hk1, hk2⟩ := hk
  unfold tyB at h
  split at h
  case h_12 hk2 => omega
  case h_13 hk2 => omega
  case h_14 => cases h
  all_goals
    first
      | (have := bareB_super h; omega)
      | (rw [Bool.and_eq_true] at h; have := bareB_super h.2; simp only at this; omega)
theorem supZ_of {G : List TyD} (hc : (checkR G).2 = 0) : SupZ G := fun i hi hs => tyB_sup0 (check_ty hc i hi) hs
structure Keeps (n n' : Nat) (G T : List TyD) (f : Int → Int) : Prop where
  inn : ∀ x : Int, 0 ≤ x → x < (n : Int) → idxB n' (f x) = true
  kind : ∀ x : Int, 0 ≤ x → x < (n : Int) → kindAt T (f x) = kindAt G x
theorem sigB_map {n n' : Nat} {G T : List TyD} {f : Int → Int} (h : Keeps n n' G T f) {m : MethD} (hm : sigB n m = true) : sigB n' (mapM f m) = true := by
  unfold sigB at hm ⊢
  simp only [Bool.and_eq_true, List.all_eq_true, Bool.or_eq_true] at hm ⊢
  obtain ⟨⟨h1, h2⟩, h3, h4, h5⟩ := hm
  refine ⟨⟨by unfold mapM; simpa using h1, h2⟩, fun x hx => ?_, ?_, h5⟩
  · unfold mapM at hx
    simp only [List.mem_map] at hx
    obtain ⟨y, hy, rfl⟩ := hx
    have := idxB_iff.1 (h3 y hy)
    exact h.inn y this.1 this.2
  · unfold mapM
    simp only
    by_cases hr : m.result = -1
    · left; simp [hr]
    · right
      rw [if_neg hr]
      rcases h4 with h4 | h4
      · exact absurd (of_decide_eq_true h4) hr
      · have := idxB_iff.1 h4
        exact h.inn _ this.1 this.2
theorem methsB_map {n n' : Nat} {G T : List TyD} {f : Int → Int} (h : Keeps n n' G T f) {t : TyD} (ht : methsB n t = true) : methsB n' (mapTy f t) = true := by
  unfold methsB at ht ⊢
  rw [Bool.and_eq_true, List.all_eq_true] at ht ⊢
  refine ⟨?_, fun m hm => ?_⟩
  · have : (mapTy f t).meths.map (·.name) = t.meths.map (·.name) := by unfold mapTy; simp [List.map_map, Function.comp_def, mapM]
    rw [this]; exact ht.1
  · unfold mapTy at hm
    simp only [List.mem_map] at hm
    obtain ⟨m0, hm0, rfl⟩ := hm
    have := ht.2 m0 hm0
    unfold methB at this ⊢
    rw [Bool.and_eq_true] at this ⊢
    exact ⟨sigB_map h this.1, this.2⟩
theorem fieldsB_map {n n' : Nat} {G T : List TyD} {f : Int → Int} (h : Keeps n n' G T f) {t : TyD} (ht : fieldsB n t = true) : fieldsB n' (mapTy f t) = true := by
  unfold fieldsB at ht ⊢
  simp only [Bool.and_eq_true, List.all_eq_true] at ht ⊢
  obtain ⟨h1, h2, h3⟩ := ht
  refine ⟨by unfold mapTy; simpa using h1, ?_, fun p hp => ?_⟩
  · have : (mapTy f t).parts.map (·.name) = t.parts.map (·.name) := by unfold mapTy; simp [List.map_map, Function.comp_def]
    rw [this]; exact h2
  · unfold mapTy at hp
    simp only [List.mem_map] at hp
    obtain ⟨p0, hp0, rfl⟩ := hp
    have := idxB_iff.1 (h3 p0 hp0)
    exact h.inn _ this.1 this.2
theorem partB_map {n n' : Nat} {G T : List TyD} {f : Int → Int} (h : Keeps n n' G T f) {t : TyD} (ht : partB n t = true) : partB n' (mapTy f t) = true := by
  unfold partB at ht ⊢
  have hp : (mapTy f t).parts = t.parts.map (fun p => { p with type := f p.type }) := rfl
  rw [hp]
  match hl : t.parts with
  | [] => rw [hl] at ht; cases ht
  | [p] =>
    rw [hl] at ht
    simp only [List.map_cons, List.map_nil, Bool.and_eq_true] at ht ⊢
    have := idxB_iff.1 ht.2
    exact ⟨ht.1, h.inn _ this.1 this.2⟩
  | _ :: _ :: _ => rw [hl] at ht; cases ht
theorem superB_map {G T : List TyD} {f : Int → Int} (h : Keeps G.length T.length G T f) {t : TyD} (hs : supB t.kind = true) (ht : superB G t = true) : superB T (mapTy f t) = true := by
  unfold superB at ht ⊢
  rw [Bool.and_eq_true] at ht ⊢
  have hi := idxB_iff.1 ht.1
  have e : (mapTy f t).super = f t.super := by unfold mapTy; simp [hs]
  rw [e]
  refine ⟨h.inn _ hi.1 hi.2, ?_⟩
  rw [h.kind _ hi.1 hi.2]
  exact ht.2
theorem tyB_map {G T : List TyD} {f : Int → Int} (h : Keeps G.length T.length G T f) {t : TyD} (ht : tyB G t = true) : tyB T (mapTy f t) = true := by
  have l1 : (mapTy f t).parts.length = t.parts.length := by unfold mapTy; simp
  have l2 : (mapTy f t).meths.length = t.meths.length := by unfold mapTy; simp
  have l3 : (mapTy f t).overs.length = t.overs.length := rfl
  have hk : (mapTy f t).kind = t.kind := rfl
  have hr : 1 ≤ t.kind ∧ t.kind ≤ 13 := Classical.not_not.1 fun hn => by rw [tyB_no hn] at ht; cases ht
  have hs : ∀ k, t.kind = k → k ≠ 12 → k ≠ 13 → supB t.kind = false := fun k e h1 h2 => by unfold supB; simp; omega
  have hbr : brandedB (mapTy f t) = brandedB t := rfl
  unfold tyB at ht ⊢
  rw [hk, l1, l2, l3]
  have es : supB t.kind = false → (mapTy f t).super = t.super := fun h' => by unfold mapTy; simp [h']
  rcases (show t.kind = 1 ∨ t.kind = 2 ∨ t.kind = 3 ∨ t.kind = 4 ∨ t.kind = 5 ∨ t.kind = 6 ∨ t.kind = 7 ∨ t.kind = 8 ∨ t.kind = 9 ∨ t.kind = 10 ∨ t.kind = 11 ∨ t.kind = 12 ∨ t.kind = 13 by omega) with e | e | e | e | e | e | e | e | e | e | e | e | e <;> simp only [e, Bool.and_eq_true] at ht ⊢
  case inr.inr.inr.inr.inr.inr.inr.inr.inr.inr.inr.inl =>
    exact ⟨⟨⟨⟨⟨ht.1.1.1.1.1, superB_map h (by rw [e]; rfl) ht.1.1.1.1.2⟩, fieldsB_map h ht.1.1.1.2⟩, methsB_map h ht.1.1.2⟩, ht.1.2⟩, ht.2⟩
  case inr.inr.inr.inr.inr.inr.inr.inr.inr.inr.inr.inr =>
    exact ⟨⟨ht.1.1, superB_map h (by rw [e]; rfl) ht.1.2⟩, ht.2⟩
  all_goals
    have hse := es (hs _ e (by decide) (by decide))
    first
      | (unfold bareB at ht ⊢; rw [hse]; exact ht)
      | (rw [hse]; exact ⟨ht.1, ht.2⟩)
      | (rw [hse]; exact ⟨⟨ht.1.1, partB_map h ht.1.2⟩, ht.2⟩)
      | (rw [hse]; exact ⟨⟨ht.1.1, fieldsB_map h ht.1.2⟩, ht.2⟩)
end Go.Proofs.YteaokkaidcbdlaaGreatDoor

namespace Go.Proofs.YteaokkaidcbdlaaGreatDoor
open Go Go.RowKit Go.Shelf
def upS (G : List TyD) (a : Nat) : Nat := (G.getD a default).super.toNat
def itU (G : List TyD) : Nat → Nat → Nat
  | 0, a => a
  | j + 1, a => itU G j (upS G a)
theorem itU_add (G : List TyD) : ∀ i j a, itU G (i + j) a = itU G j (itU G i a)
  | 0, j, a => by rw [Nat.zero_add]; rfl
  | i + 1, j, a => by rw [Nat.add_right_comm]; exact itU_add G i j (upS G a)
theorem itU_succ (G : List TyD) (j a : Nat) : itU G (j + 1) a = upS G (itU G j a) := by rw [itU_add]; rfl
def goes (G : List TyD) (a : Nat) : Prop := a < G.length ∧ supB (G.getD a default).kind = true
theorem backIn_path {G : List TyD} {i : Nat} : ∀ (f a : Nat), backIn G i f a = true → ∃ s, 1 ≤ s ∧ s ≤ f ∧ (∀ j, j < s → goes G (itU G j a)) ∧ itU G s a = i
  | 0, a, h => by simp [backIn] at h
  | f + 1, a, h => by
    cases hg : G[a]? with
    | none => unfold backIn at h; rw [hg] at h; cases h
    | some t =>
      have ha := (List.getElem?_eq_some_iff.1 hg).1
      have hgd : G.getD a default = t := by rw [List.getD_eq_getElem?_getD, hg]; rfl
      rw [backIn_at hg, Bool.and_eq_true, Bool.or_eq_true] at h
      have hgo : goes G a := ⟨ha, by rw [hgd]; exact h.1⟩
      have hup : upS G a = t.super.toNat := by unfold upS; rw [hgd]
      rcases h.2 with h2 | h2
      · refine ⟨1, Nat.le_refl _, by omega, fun j hj => ?_, ?_⟩
        · obtain rfl : j = 0 := by omega
          exact hgo
        · show upS G a = i
          rw [hup]; simpa using h2
      · obtain ⟨s, s1, s2, s3, s4⟩ := backIn_path f _ h2
        refine ⟨s + 1, by omega, by omega, fun j hj => ?_, ?_⟩
        · cases j with
          | zero => exact hgo
          | succ j =>
            show goes G (itU G j (upS G a))
            rw [hup]; exact s3 j (by omega)
        · show itU G s (upS G a) = i
          rw [hup]; exact s4
theorem path_backIn {G : List TyD} {i : Nat} : ∀ (f s a : Nat), 1 ≤ s → s ≤ f → (∀ j, j < s → goes G (itU G j a)) → itU G s a = i → backIn G i f a = true
  | 0, s, a, h1, h2, _, _ => by omega
  | f + 1, s, a, h1, h2, h3, h4 => by
    obtain ⟨ha, hs⟩ := h3 0 (by omega)
    change a < G.length at ha
    change supB (G.getD a default).kind = true at hs
    have hg : G[a]? = some (G.getD a default) := by rw [List.getD_eq_getElem?_getD, List.getElem?_eq_getElem ha]; rfl
    rw [backIn_at hg, Bool.and_eq_true, Bool.or_eq_true]
    refine ⟨hs, ?_⟩
    cases s with
    | zero => omega
    | succ s =>
      by_cases h0 : s = 0
      · subst h0
        left
        have : upS G a = i := h4
        unfold upS at this
        simpa using this
      · right
        exact path_backIn f s (upS G a) (by omega) (by omega) (fun j hj => h3 (j + 1) (by omega)) h4
theorem merge_kind {G : List TyD} {i : Nat} (hi : i < G.length) : ((mergeT G).getD (toM G i) default).kind = (G.getD i default).kind := by
  have hr := rep_cl hi
  rw [mergeT_at (toM_lt hi).1, (toM_lt hi).2]
  have := (class_agree hr.1 hi hr.2).1
  unfold agK at this
  simp only [Prod.mk.injEq] at this
  exact this.1.1
theorem merge_keeps (G : List TyD) : Keeps G.length (mergeT G).length G (mergeT G) (tfM G) := by
  have hk : ∀ (L : List TyD) (q : Nat), q < L.length → kindAt L (q : Int) = (L.getD q default).kind := fun L q hq => by
    unfold kindAt
    simp [List.getD_eq_getElem?_getD, List.getElem?_eq_getElem hq]
  refine ⟨fun x h0 h1 => ?_, fun x h0 h1 => ?_⟩
  · rw [tfM_nat]
    have := (toM_lt (G := G) (i := x.toNat) (by omega)).1
    exact idxB_iff.2 (by omega)
  · obtain ⟨i, rfl⟩ := Int.eq_ofNat_of_zero_le h0
    have hi : i < G.length := by omega
    rw [tfM_nat, Int.toNat_natCast, hk _ _ (toM_lt hi).1, hk _ _ hi, merge_kind hi]
theorem super_ref {t : TyD} (hs : supB t.kind = true) : ∃ h : 0 < (refsOf t).length, (refsOf t)[0] = t.super := by
  unfold refsOf
  simp [hs]
theorem merge_up {G : List TyD} (hz : GrZ G) (hc : (checkR G).2 = 0) {i : Nat} (hi : i < G.length) (hs : supB (G.getD i default).kind = true) : upS (mergeT G) (toM G i) = toM G (upS G i) ∧ upS G i < G.length := by
  have hr := rep_cl hi
  have hn := (ty_nums hz hc hi).1 hs
  have hk : (G.getD (clF G i) default).kind = (G.getD i default).kind := by
    have := (class_agree hr.1 hi hr.2).1
    unfold agK at this
    simp only [Prod.mk.injEq] at this
    exact this.1.1
  have hs' : supB (G.getD (clF G i) default).kind = true := by rw [hk]; exact hs
  have hn' := (ty_nums hz hc hr.1).1 hs'
  obtain ⟨a1, a2⟩ := super_ref hs
  obtain ⟨b1, b2⟩ := super_ref hs'
  have e := class_refs hr.1 hi hr.2 b1 a1
  rw [a2, b2] at e
  unfold upS
  refine ⟨?_, by omega⟩
  rw [mergeT_at (toM_lt hi).1, (toM_lt hi).2]
  have : (mapTy (tfM G) (G.getD (clF G i) default)).super = tfM G (G.getD (clF G i) default).super := by unfold mapTy; exact if_pos hs'
  rw [this, tfM_nat, Int.toNat_natCast]
  exact (toM_iff (by omega) (by omega)).2 e
theorem twice {n : Nat} {x : Nat → Nat} (h : ∀ j, x j < n) : ∃ i j, i < j ∧ j ≤ n ∧ x i = x j := by
  refine Classical.not_not.1 fun hn => ?_
  have hnd : ((List.range (n + 1)).map x).Nodup := by
    rw [List.Nodup, List.pairwise_map]
    refine List.Pairwise.imp_of_mem (fun {a b} ha hb hab e => ?_) List.pairwise_lt_range
    rw [List.mem_range] at ha hb
    exact hn ⟨a, b, hab, by omega, e⟩
  have := nodup_le n _ hnd (fun y hy => by
    obtain ⟨j, -, rfl⟩ := List.mem_map.1 hy
    exact h j)
  rw [List.length_map, List.length_range] at this
  omega
theorem merge_above {G : List TyD} (hz : GrZ G) (hc : (checkR G).2 = 0) (ha : ∀ i, i < G.length → backIn G i G.length i = false) (q : Nat) (hq : q < (mergeT G).length) : backIn (mergeT G) q (mergeT G).length q = false := by
  rw [Bool.eq_false_iff]
  intro hb
  obtain ⟨s, s1, -, s3, s4⟩ := backIn_path _ _ hb
  have hy : ∀ j, goes (mergeT G) (itU (mergeT G) j q) := by
    intro j
    induction j using Nat.strongRecOn with
    | _ j ih =>
      by_cases hj : j < s
      · exact s3 j hj
      · have e : itU (mergeT G) j q = itU (mergeT G) (j - s) q := by
          conv => lhs; rw [show j = s + (j - s) by omega, itU_add, s4]
        rw [e]
        exact ih (j - s) (by omega)
  obtain ⟨⟨r1, r2⟩, r3⟩ := ofM_lt hq
  have hx : ∀ j, itU G j (ofM G q) < G.length ∧ toM G (itU G j (ofM G q)) = itU (mergeT G) j q := by
    intro j
    induction j with
    | zero => exact ⟨r1, r3⟩
    | succ j ih =>
      obtain ⟨i1, i2⟩ := ih
      have hs : supB (G.getD (itU G j (ofM G q)) default).kind = true := by
        rw [← merge_kind i1, i2]; exact (hy j).2
      obtain ⟨u1, u2⟩ := merge_up hz hc i1 hs
      rw [itU_succ, itU_succ, ← i2, u1]
      exact ⟨u2, rfl⟩
  have hg : ∀ j, goes G (itU G j (ofM G q)) := fun j => ⟨(hx j).1, by rw [← merge_kind (hx j).1, (hx j).2]; exact (hy j).2⟩
  obtain ⟨i, j, h1, h2, h3⟩ := twice (fun j => (hx j).1)
  have := path_backIn (i := itU G i (ofM G q)) G.length (j - i) (itU G i (ofM G q)) (by omega) (by omega) (fun k hk => by rw [← itU_add]; exact hg _) (by rw [← itU_add, show i + (j - i) = j by omega]; exact h3.symm)
  rw [ha _ (hx i).1] at this
  cases this
theorem merge_z {G : List TyD} (hz : GrZ G) : GrZ (mergeT G) := by
  obtain ⟨l1, l2, l3⟩ := mergeS_len (clF G) G.length
  refine ⟨by rw [mergeT_len]; exact Nat.le_trans l2 hz.len, fun t ht => ?_⟩
  unfold mergeT at ht
  obtain ⟨r, hr, rfl⟩ := List.mem_map.1 ht
  have hrl := l3 r hr
  have hmem : G.getD r default ∈ G := by rw [List.getD_eq_getElem?_getD, List.getElem?_eq_getElem hrl]; exact List.getElem_mem hrl
  obtain ⟨⟨z1, z2, z3, z4, z5⟩, z6, z7, z8, z9⟩ := hz.tys _ hmem
  generalize G.getD r default = t at *
  refine ⟨⟨z1, z2, fun p hp => ?_, fun m hm => ?_, z5⟩, by unfold mapTy; simpa using z6, by unfold mapTy; simpa using z7, z8, z9⟩
  · unfold mapTy at hp
    obtain ⟨p0, hp0, rfl⟩ := List.mem_map.1 hp
    exact z3 p0 hp0
  · unfold mapTy at hm
    obtain ⟨m0, hm0, rfl⟩ := List.mem_map.1 hm
    exact z4 m0 hm0
theorem firstNo_neg {α : Type} {p : α → Bool} {l : List α} (h : ∀ x ∈ l, p x = true) : firstNo p l = -1 := firstNo_none (List.all_eq_true.2 h)
theorem merge_check {G : List TyD} (hz : GrZ G) (hc : (checkR G).2 = 0) : (checkR (mergeT G)).2 = 0 := by
  have h400 : G.length ≤ 400 ∧ ∀ i, i < G.length → backIn G i G.length i = false := by
    unfold checkR at hc
    split at hc
    · simp at hc
    · rename_i h4
      split at hc
      · simp at hc
      · split at hc
        · simp at hc
        · rename_i ha
          have hall := firstNo_all (p := aboveNo G) (l := List.range G.length) (by
            rcases firstNo_ge (aboveNo G) (List.range G.length) with h1 | h1
            · exact h1
            · exact absurd h1 ha)
          refine ⟨by omega, fun i hi => ?_⟩
          have := hall i (List.mem_range.2 hi)
          unfold aboveNo at this
          simpa using this
  obtain ⟨l1, l2, l3⟩ := mergeS_len (clF G) G.length
  have hl : (mergeT G).length ≤ 400 := by rw [mergeT_len]; exact Nat.le_trans l2 h400.1
  have h1 : firstNo (tyB (mergeT G)) (mergeT G) = -1 := firstNo_neg (fun t ht => by
    unfold mergeT at ht
    obtain ⟨r, hr, rfl⟩ := List.mem_map.1 ht
    exact tyB_map (merge_keeps G) (check_ty hc r (l3 r hr)))
  have h2 : firstNo (aboveNo (mergeT G)) (List.range (mergeT G).length) = -1 := firstNo_neg (fun q hq => by
    unfold aboveNo
    rw [merge_above hz hc h400.2 q (List.mem_range.1 hq)]; rfl)
  unfold checkR
  rw [if_neg (by omega), h1, if_neg (by omega), h2, if_neg (by omega)]
end Go.Proofs.YteaokkaidcbdlaaGreatDoor

namespace Go.Proofs.YteaokkaidcbdlaaGreatDoor
open Go Go.RowKit Go.Shelf
theorem merge_cl {G : List TyD} (hz : GrZ G) (hc : (checkR G).2 = 0) {k : Nat} (hk : k < (mergeT G).length) : clF (mergeT G) k = k := by
  obtain ⟨h1, h2⟩ := rep_cl hk
  obtain ⟨a1, a2⟩ := ofM_lt hk
  obtain ⟨b1, b2⟩ := ofM_lt h1
  have := ((merge_hom hz hc).class b1.1 a1.1).2 (by rw [b2, a2]; exact h2)
  rw [b1.2, a1.2] at this
  rw [← b2, this, a2]
theorem mergeS_id {c : Nat → Nat} : ∀ k, (∀ i, i < k → c i = i) → mergeS c k = (List.range k, List.range k)
  | 0, _ => rfl
  | k + 1, h => by
    unfold mergeS
    rw [if_pos (h k (by omega)), mergeS_id k (fun i hi => h i (by omega)), List.range_succ]
    simp
theorem merge_again {G : List TyD} (hz : GrZ G) (hc : (checkR G).2 = 0) : mergeL (mergeT G) = (List.range (mergeT G).length, List.range (mergeT G).length) :=
  mergeS_id _ (fun _ hi => merge_cl hz hc hi)
theorem mapTy_id {f : Int → Int} {t : TyD} (hs : supB t.kind = true → f t.super = t.super) (hp : ∀ p ∈ t.parts, f p.type = p.type) (hm : ∀ m ∈ t.meths, (∀ x ∈ m.args, f x = x) ∧ (m.result ≠ -1 → f m.result = m.result)) : mapTy f t = t := by
  have e1 : (if supB t.kind then f t.super else t.super) = t.super := by
    by_cases h : supB t.kind = true
    · rw [if_pos h]; exact hs h
    · rw [if_neg h]
  have e2 : t.parts.map (fun p => { p with type := f p.type }) = t.parts := by
    conv => rhs; rw [← List.map_id t.parts]
    apply List.map_congr_left
    intro p hp'
    rw [hp p hp']; rfl
  have e3 : t.meths.map (mapM f) = t.meths := by
    conv => rhs; rw [← List.map_id t.meths]
    apply List.map_congr_left
    intro m hm'
    obtain ⟨h1, h2⟩ := hm m hm'
    unfold mapM
    have h3 : m.args.map f = m.args := by
      conv => rhs; rw [← List.map_id m.args]
      exact List.map_congr_left h1
    have h4 : (if m.result = -1 then -1 else f m.result) = m.result := by
      by_cases h : m.result = -1
      · rw [if_pos h, h]
      · rw [if_neg h]; exact h2 h
    rw [h3, h4]; rfl
  unfold mapTy
  rw [e1, e2, e3]
theorem toF_range {n : Nat} {x : Int} (h0 : 0 ≤ x) (h1 : x < n) : toF ((List.range n).map Int.ofNat) x = x := by
  obtain ⟨i, rfl⟩ := Int.eq_ofNat_of_zero_le h0
  unfold toF
  rw [getD_ofNat]
  have hi : i < n := by omega
  simp [List.getD_eq_getElem?_getD, hi]
theorem merge_same {G : List TyD} (hz : GrZ G) (hc : (checkR G).2 = 0) : mergeT (mergeT G) = mergeT G := by
  have hz' := merge_z hz
  have hc' := merge_check hz hc
  have hm := merge_again hz hc
  generalize mergeT G = T at hz' hc' hm
  unfold mergeT
  rw [hm]
  apply List.ext_getElem (by simp)
  intro q q1 q2
  rw [List.getElem_map, List.getElem_range]
  have hg : T.getD q default = T[q] := by simp [List.getD_eq_getElem?_getD, List.getElem?_eq_getElem q2]
  obtain ⟨n1, n2, n3⟩ := ty_nums hz' hc' q2
  rw [hg] at n1 n2 n3 ⊢
  exact mapTy_id (fun hs => toF_range (n1 hs).1 (n1 hs).2) (fun p hp => toF_range (n2 p hp).1 (n2 p hp).2) (fun m hm => ⟨fun x hx => toF_range ((n3 m hm).1 x hx).1 ((n3 m hm).1 x hx).2, fun hr => toF_range ((n3 m hm).2 hr).1 ((n3 m hm).2 hr).2⟩)
theorem merge_text {G : List TyD} (hz : GrZ G) (hc : (checkR G).2 = 0) {a : Nat} (ha : a < G.length) : textL (mergeT G) (toM G a : Nat) = textL G a := by
  have hz' := merge_z hz
  have hc' := merge_check hz hc
  have h1 : checkedR G [(a : Int)] = 0 := checkedR_zero.2 ⟨hc, by simp; exact idxB_iff.2 (by omega)⟩
  have hlt := (toM_lt ha).1
  have h2 : checkedR (mergeT G) [((toM G a : Nat) : Int)] = 0 := checkedR_zero.2 ⟨hc', by simp; exact idxB_iff.2 (by omega)⟩
  unfold textL
  rw [if_pos h1, if_pos h2, Int.toNat_natCast, Int.toNat_natCast, numT_map (merge_hom hz hc) (check_fit hz hc) (check_fit hz' hc') (supZ_of hc) (supZ_of hc') ha]
set_option maxRecDepth 100000 in
set_option maxHeartbeats 4000000 in
theorem classes_all (gv : Value) (G : List TyD) (W : World) (hG0 : GrAt W gv G) (hz : GrZ G) :
    Calls Tryz.prog 32 #[gv] W fun e w' => ∃ v, e = .returned (.tuple #[v, .int .i64 (checkedR G [])]) ∧ Below W.heap.size W w' ∧ (if checkedR G [] = 0 then w'.ownsRow W.heap.size 3 1 v G.length (natsV (classesL G)) else v = .slice none 0 0) := by
  obtain ⟨o, cap, rfl⟩ := hG0.form
  have HC := hide (checked_any _ G W hG0 hz (.slice none 0 0) [] .none')
  by_cases h0 : checkedR G [] = 0
  · obtain ⟨h1, h2, h3⟩ := checked_fit hz h0
    have HK := hide (fun (w1 : World) (h : Below W.heap.size W w1) => classes_any _ G w1 (hG0.below h) h1 h2 h3)
    rw [h0] at HC ⊢
    clear h0 h1 h2 h3 hz hG0
    go_enter Tryz.func32, Tryz.ntmps32
    go_wp2_with (first | (go_at_call 57; refine (unhide HC).mono ?_; clear HC; rintro e w1 ⟨rfl, hb1⟩) | (go_at_call 64; refine (unhide HK w1 hb1).mono ?_; clear HK; rintro e w3 ⟨v3, rfl, hr3, hb3⟩))
    go_ret2
    exact ⟨_, rfl, hb1.trans (hb3.mono hb1.size), Row.mono hr3 hb1.size⟩
  · clear hz hG0
    generalize checkedR G [] = ck at h0 HC
    go_enter Tryz.func32, Tryz.ntmps32
    go_wp2_with (first | (go_at_call 57; refine (unhide HC).mono ?_; clear HC; rintro e w1 ⟨rfl, hb1⟩))
    go_ret2
    first
      | exact ⟨rfl, hb1⟩
      | exact ⟨_, rfl, hb1, rfl⟩
end Go.Proofs.YteaokkaidcbdlaaGreatDoor

