/- Part 46 of 53: the texts Vn, Vo, one behind the other. -/
import Derived.Test.YteaokkaidcbdlaaGreatDoorJ45
import Derived.Test.YteaokkaidcbdlaaGreatDoorJ33
import Derived.Test.YteaokkaidcbdlaaGreatDoorJ31
import Derived.Tactics
import Derived.Tactics2
import Derived.WalkKit
import Derived.LoopTactic
import Derived.Outline
import Derived.Lib.Hide
import Derived.Handy
import Derived.KernelRfl
import Derived.Deep.LoopGhost
import Derived.CallsIn
import Derived.Deep.QuietTactic
import Derived.BigQuiet
import Derived.Deep.Draws
import Derived.WalkSpells
import Derived.Lib.Walk
import Derived.Lib.Strings
import Derived.Maps.OwnOps
import Derived.Maps.OwnSet
import Derived.Deep.RegionWith
import Derived.StillTailTactics
import Derived.WalkMore
import Derived.RangeFuncNested
import Derived.RangeFuncBound
import Derived.RangeFuncCalls
import Derived.RangeFuncLeaves
import Derived.RangeFuncBox
import Derived.Shelf.Abstract
import Derived.OwnWalkIn
import Derived.TacticsInMore
import Derived.LoopNIn
import Derived.LoopIn
import Derived.RecoverIn
import Derived.Maps.AppendAt
import Derived.RegionTactic
import Derived.ChangeAlike
import Derived.OwnWalk
import Derived.Deep.AppendLies
import Derived.Deep.DeepCutAuto
import Derived.Deep.RegionLaw
import Derived.Deep.RegionHeld3
import Derived.Laws.EntriesVeiled
namespace Go.Proofs.YteaokkaidcbdlaaGreatDoor
open Go Go.RowKit Go.Shelf
theorem tells_nil {G : List TyD} {p : Nat × Nat} : tellsL G p [] = true ↔ agB G p = false := by rw [tellsL]; simp
theorem agB_len {G : List TyD} {p : Nat × Nat} (h : agB G p = true) : (refsOf (G.getD p.1 default)).length = (refsOf (G.getD p.2 default)).length := agree_refs h
theorem same_no {G : List TyD} (hf : Fit G) : ∀ (way : List Int) (p : Nat × Nat), p.1 < G.length → p.2 < G.length → clF G p.1 = clF G p.2 → tellsL G p way = true → False
  | [], p, h1, h2, hc, h => by
    have := tells_nil.1 h
    have ha := (class_next h1 h2 hc).1
    unfold agB at this
    rw [ha] at this; cases this
  | k :: ks, p, h1, h2, hc, h => by
    obtain ⟨a1, ⟨a2, a3⟩, a4⟩ := tells_cons.1 h
    obtain ⟨i, rfl⟩ := Int.eq_ofNat_of_zero_le a2
    have hi : i < (refsOf (G.getD p.1 default)).length := by omega
    have hj : i < (refsOf (G.getD p.2 default)).length := by rw [← agB_len a1]; exact hi
    have hm : ∀ q, q < G.length → G.getD q default ∈ G := fun q hq => by rw [List.getD_eq_getElem?_getD, List.getElem?_eq_getElem hq]; exact List.getElem_mem hq
    have b1 := hf.2.2 _ (hm _ h1) _ (List.getElem_mem hi)
    have b2 := hf.2.2 _ (hm _ h2) _ (List.getElem_mem hj)
    refine same_no hf ks _ ?_ ?_ ?_ a4
    · unfold nextP; simp only [Int.toNat_natCast]; rw [getD_at hi]; omega
    · unfold nextP; simp only [Int.toNat_natCast]; rw [getD_at hj]; omega
    · unfold nextP; simp only [Int.toNat_natCast]; rw [getD_at hi, getD_at hj]; exact class_refs h1 h2 hc hi hj
theorem bes_in {G : List TyD} (hf : Fit G) (a : Nat × Nat) (h1 : a.1 < G.length) (h2 : a.2 < G.length) (x : Nat × Int × Int) (hx : x ∈ besG G a) : (nxP x).1 < G.length ∧ (nxP x).2 < G.length := by
  have hm : ∀ q, q < G.length → G.getD q default ∈ G := fun q hq => by rw [List.getD_eq_getElem?_getD, List.getElem?_eq_getElem hq]; exact List.getElem_mem hq
  obtain ⟨m1, m2⟩ := besL_mem hx
  have b1 := hf.2.2 _ (hm _ h1) _ m1
  have b2 := hf.2.2 _ (hm _ h2) _ m2
  unfold nxP
  simp only
  omega
section
variable {G : List TyD} {first : Nat × Nat} {C : Came} {Q : List (Nat × Nat)} {s : Option (Nat × Nat)} {D : List Nat} {k : Nat}
theorem back_way (h : BI G (clF G) first C Q s D k) : ∀ (m f : Nat) (c : (Nat × Nat) × (Nat × Nat) × Nat), C[m]? = some c → m < f →
    ((backL C first f c.1).map Int.ofNat).reverse.length = D.getD m 0 ∧ ∀ rest, tellsL G first (((backL C first f c.1).map Int.ofNat).reverse ++ rest) = true ↔ tellsL G c.1 rest = true := by
  intro m
  induction m using Nat.strongRecOn with
  | _ m ih =>
    intro f c hc hmf
    obtain ⟨c0, hc0, e0⟩ := h.h0
    obtain ⟨f, rfl⟩ : ∃ f', f = f' + 1 := ⟨f - 1, by omega⟩
    by_cases hm : m = 0
    · subst hm
      rw [hc0] at hc
      cases hc
      rw [backL, if_pos e0, h.d0]
      exact ⟨rfl, fun rest => by simp [e0]⟩
    · obtain ⟨hml, em⟩ := List.getElem?_eq_some_iff.1 hc
      obtain ⟨h0l, e00⟩ := List.getElem?_eq_some_iff.1 hc0
      have hne : c.1 ≠ first := fun e => by
        have hp := List.pairwise_iff_getElem.1 h.nodup 0 m (by simpa using h0l) (by simpa using hml) (by omega)
        simp only [List.getElem_map] at hp
        rw [e00, em, e0, e] at hp
        exact hp rfl
      obtain ⟨r, c', h1, h2, h3, h4, h5, x, hx, x1, x2⟩ := h.par m c hc hm
      have hfk := find_key h.nodup hml
      rw [em] at hfk
      obtain ⟨i1, i2⟩ := ih r h1 f c' h2 (by omega)
      rw [h3] at i1 i2
      rw [backL, if_neg hne, hfk]
      simp only [List.map_cons, List.reverse_cons, List.length_append, List.length_cons, List.length_nil]
      refine ⟨by rw [i1, h4], fun rest => ?_⟩
      rw [List.append_assoc, i2, List.cons_append, List.nil_append]
      obtain ⟨n1, n2⟩ := bes_next hx
      rw [h3] at n1 n2 h5
      have e3 : tellsL G c.2.1 (Int.ofNat c.2.2 :: rest) = true ↔ _ := tells_cons
      rw [e3]
      have e4 : nextP G c.2.1 (Int.ofNat c.2.2) = c.1 := by rw [← x2, n2, ← x1]; rfl
      rw [e4]
      refine ⟨fun hh => hh.2.2, fun hh => ⟨h5, ⟨by simp, ?_⟩, hh⟩⟩
      rw [← x1]
      simp only [Int.ofNat_eq_natCast]
      omega
theorem no_shorter (hf : Fit G) (h : BI G (clF G) first C Q s D k) (hs : s = none → k = Q.length) : ∀ (way : List Int) (r t : Nat) (q : Nat × Nat), Q[r]? = some q → D.getD r 0 ≤ t → tellsL G q way = true → k < Q.length ∧ D.getD k 0 + 1 ≤ t + way.length
  | [], r, t, q, hq, _, hw => by
    have := tells_nil.1 hw
    rw [h.ag q (List.mem_of_getElem? hq)] at this; cases this
  | κ :: ks, r, t, q, hq, ht, hw => by
    have hrl : r < Q.length := (List.getElem?_eq_some_iff.1 hq).1
    have hCl : Q.length ≤ C.length := by have := congrArg List.length h.keys; simp at this; omega
    have hqb : q.1 < G.length ∧ q.2 < G.length := by
      have : q ∈ C.map (·.1) := by rw [h.keys]; exact List.mem_append_left _ (List.mem_of_getElem? hq)
      obtain ⟨c, hc, rfl⟩ := List.mem_map.1 this
      exact h.bnd c hc
    obtain ⟨a1, ⟨a2, a3⟩, a4⟩ := tells_cons.1 hw
    by_cases hrk : r < k
    · obtain ⟨i, rfl⟩ := Int.eq_ofNat_of_zero_le a2
      obtain ⟨x, hx, x1, x2⟩ := bes_mem (agB_len a1) (show i < _ by omega)
      have x2' : nxP x = nextP G q (i : Int) := x2
      rw [← x2'] at a4
      rcases h.done r q hrk hq x hx with hd | ⟨m, hm1, hm2⟩
      · obtain ⟨b1, b2⟩ := bes_in hf q hqb.1 hqb.2 x hx
        exact (same_no hf ks _ b1 b2 hd a4).elim
      · obtain ⟨c1, c2⟩ := no_shorter hf h hs ks m (t + 1) _ hm1 (by omega) a4
        exact ⟨c1, by rw [List.length_cons]; omega⟩
    · have hkq : k < Q.length := by omega
      have := h.mono k r (by omega) (by rw [h.dl]; omega)
      exact ⟨hkq, by rw [List.length_cons]; omega⟩
theorem all_same (hf : Fit G) (h : BI G (clF G) first C Q none D k) (hk : k = Q.length) : clF G first.1 = clF G first.2 := by
  have hkeys : C.map (·.1) = Q := by have := h.keys; simpa using this
  have hb : ∀ q ∈ Q, q.1 < G.length ∧ q.2 < G.length := fun q hq => by
    rw [← hkeys] at hq
    obtain ⟨c, hc, rfl⟩ := List.mem_map.1 hq
    exact h.bnd c hc
  refine class_closed (R := fun i j => (i, j) ∈ Q ∨ (i < G.length ∧ j < G.length ∧ clF G i = clF G j)) ?_ (.inl ?_)
  · rintro i j (hm | ⟨h1, h2, h3⟩)
    · obtain ⟨b1, b2⟩ := hb _ hm
      have ha := h.ag _ hm
      refine ⟨b1, b2, (agree_key _ _).1 ha, agB_len ha, fun z z1 z2 => ?_⟩
      obtain ⟨x, hx, x1, x2⟩ := bes_mem (agB_len ha) z1
      have e : nxP x = (((refsOf (G.getD i default))[z]).toNat, ((refsOf (G.getD j default))[z]).toNat) := by
        rw [x2]
        unfold nextP
        simp only [Int.toNat_natCast]
        rw [getD_at z1, getD_at z2]
      obtain ⟨r, hr⟩ := List.getElem?_of_mem hm
      have hrl : r < Q.length := (List.getElem?_eq_some_iff.1 hr).1
      rcases h.done r _ (by omega) hr x hx with hd | ⟨m, hm1, -⟩
      · obtain ⟨c1, c2⟩ := bes_in hf (i, j) b1 b2 x hx
        rw [e] at hd c1 c2
        exact .inr ⟨c1, c2, hd⟩
      · left
        rw [← e]; exact List.mem_of_getElem? hm1
    · obtain ⟨a1, a2⟩ := class_agree h1 h2 h3
      have hm : ∀ q, q < G.length → G.getD q default ∈ G := fun q hq => by rw [List.getD_eq_getElem?_getD, List.getElem?_eq_getElem hq]; exact List.getElem_mem hq
      refine ⟨h1, h2, a1, by have := congrArg List.length a2; simpa using this, fun z z1 z2 => .inr ⟨?_, ?_, class_refs h1 h2 h3 z1 z2⟩⟩
      · have := hf.2.2 _ (hm _ h1) _ (List.getElem_mem z1); omega
      · have := hf.2.2 _ (hm _ h2) _ (List.getElem_mem z2); omega
  · obtain ⟨c, hc, e⟩ := h.h0
    have : first ∈ C.map (·.1) := by rw [← e]; exact List.mem_map_of_mem (List.mem_of_getElem? hc)
    rw [hkeys] at this; exact this
end
theorem tell_spec {G : List TyD} (hf : Fit G) {i j : Nat} (hi : i < G.length) (hj : j < G.length) :
    (clF G i ≠ clF G j → tellsL G (i, j) (tellL G (clF G) (i, j)) = true) ∧ ∀ way, tellsL G (i, j) way = true → clF G i ≠ clF G j ∧ (tellL G (clF G) (i, j)).length ≤ way.length := by
  have hne : ∀ way, tellsL G (i, j) way = true → clF G i ≠ clF G j := fun way h e => same_no hf way (i, j) hi hj e h
  cases ha : agB G (i, j) with
  | false =>
    have ht : tellL G (clF G) (i, j) = [] := by unfold tellL; rw [ha]; rfl
    rw [ht]
    exact ⟨fun _ => tells_nil.2 ha, fun way h => ⟨hne way h, Nat.zero_le _⟩⟩
  | true =>
    obtain ⟨C, Q, s, D, k, h1, h2, h3, h4⟩ := outRun_BI (cl := clF G) (first := (i, j)) (bes_in hf) (G.length * G.length + 1) 0 ([((i, j), (0, 0), 0)], [(i, j)]) [0] (BI.start hi hj ha) (Nat.zero_le _) (by omega)
    have ht : tellL G (clF G) (i, j) = wayL C (i, j) (s.getD (i, j)) := by unfold tellL; rw [ha, if_pos rfl, h1]
    obtain ⟨c0, hc0, e0⟩ := h2.h0
    have hQ0 : Q[0]? = some (i, j) := by
      have h5 : (C.map (·.1))[0]? = some (i, j) := by rw [List.getElem?_map, hc0, Option.map_some, e0]
      rw [h2.keys] at h5
      have hal : agB G (i, j) = true := ha
      cases hq : Q with
      | nil =>
        rw [hq] at h5
        cases s with
        | none => simp at h5
        | some nx =>
          have := (h4 nx rfl).2
          rw [hq] at this; simp at this
      | cons q Q' =>
        rw [hq] at h5
        simpa using h5
    cases s with
    | none =>
      have hk := h3 rfl
      have hsame := all_same hf h2 hk
      exact ⟨fun h => absurd hsame h, fun way h => absurd hsame (hne way h)⟩
    | some nx =>
      obtain ⟨hn1, hn2⟩ := h4 nx rfl
      have hlast : ∃ c, C[Q.length]? = some c ∧ c.1 = nx := by
        have h5 : (C.map (·.1))[Q.length]? = some nx := by rw [h2.keys]; simp
        rw [List.getElem?_map, Option.map_eq_some_iff] at h5
        exact h5
      obtain ⟨c, hc, rfl⟩ := hlast
      have hCl : C.length = Q.length + 1 := by have := congrArg List.length h2.keys; simpa using this
      obtain ⟨w1, w2⟩ := back_way h2 Q.length (C.length + 1) c hc (by omega)
      have hw : tellL G (clF G) (i, j) = ((backL C (i, j) (C.length + 1) c.1).map Int.ofNat).reverse := by rw [ht]; rfl
      rw [hw]
      refine ⟨fun _ => ?_, fun way h => ⟨hne way h, ?_⟩⟩
      · have := (w2 []).2 (tells_nil.2 hn1)
        rwa [List.append_nil] at this
      · rw [w1]
        obtain ⟨-, z⟩ := no_shorter hf h2 (fun e => (by cases e)) way 0 0 (i, j) hQ0 (by rw [h2.d0]; exact Nat.le_refl _) h
        have := h2.top (by rw [h2.dl]; omega) Q.length (by rw [h2.dl]; omega)
        omega
end Go.Proofs.YteaokkaidcbdlaaGreatDoor

namespace Go.Proofs.YteaokkaidcbdlaaGreatDoor
open Go Go.RowKit Go.Shelf
theorem addR_pre (sf : Nat → Nat) (R : List Nat) (x : Int) : R <+: addR sf R x ∧ sf x.toNat ∈ addR sf R x := by
  unfold addR
  by_cases h : sf x.toNat ∈ R
  · rw [if_pos h]; exact ⟨List.prefix_refl _, h⟩
  · rw [if_neg h]; exact ⟨List.prefix_append _ _, by simp⟩
theorem addRs_both (sf : Nat → Nat) : ∀ (l : List Int) (R : List Nat), R <+: addRs sf R l ∧ ∀ x ∈ l, sf x.toNat ∈ addRs sf R l
  | [], R => ⟨List.prefix_refl _, fun x hx => by simp at hx⟩
  | x :: l, R => by
    obtain ⟨h1, h2⟩ := addR_pre sf R x
    obtain ⟨h3, h4⟩ := addRs_both sf l (addR sf R x)
    unfold addRs at h3 h4 ⊢
    rw [List.foldl_cons]
    refine ⟨h1.trans h3, fun y hy => ?_⟩
    rcases List.mem_cons.1 hy with rfl | hy
    · exact h3.subset h2
    · exact h4 y hy
theorem reachF_pre (sf : Nat → Nat) (G : List TyD) : ∀ (f k : Nat) (R : List Nat), R <+: reachF sf G f k R
  | 0, k, R => List.prefix_refl _
  | f + 1, k, R => by
    rw [reachF]
    cases hk : R[k]? with
    | none => exact List.prefix_refl _
    | some t => exact (addRs_both sf _ R).1.trans (reachF_pre sf G f (k + 1) _)
theorem reachF_closed {sf : Nat → Nat} {G : List TyD} : ∀ (f k : Nat) (R : List Nat), (reachF sf G f k R).length < k + f → ∀ q t, k ≤ q → (reachF sf G f k R)[q]? = some t → ∀ x ∈ refsOf (G.getD t default), sf x.toNat ∈ reachF sf G f k R
  | 0, k, R, h, q, t, hq, ht => by
    have := (List.getElem?_eq_some_iff.1 ht).1
    omega
  | f + 1, k, R, h, q, t, hq, ht => by
    intro x hx
    rw [reachF] at h ht ⊢
    cases hk : R[k]? with
    | none =>
      rw [hk] at ht
      have h1 := (List.getElem?_eq_some_iff.1 ht).1
      have h2 := List.getElem?_eq_none_iff.1 hk
      simp only at h1
      omega
    | some t0 =>
      rw [hk] at h ht
      simp only at h ht ⊢
      have hp := reachF_pre sf G f (k + 1) (addRs sf R (refsOf (G.getD t0 default)))
      by_cases hqk : q = k
      · subst hqk
        obtain ⟨a1, a2⟩ := addRs_both sf (refsOf (G.getD t0 default)) R
        have hkl := (List.getElem?_eq_some_iff.1 hk).1
        have e : (reachF sf G f (q + 1) (addRs sf R (refsOf (G.getD t0 default))))[q]? = some t0 := by
          obtain ⟨z, hz⟩ := a1.trans hp
          rw [← hz, List.getElem?_append_left hkl]; exact hk
        rw [e] at ht
        cases ht
        exact hp.subset (a2 x hx)
      · exact reachF_closed f (k + 1) _ (by omega) q t (by omega) ht x hx
theorem numR_closed {G : List TyD} (hf : Fit G) {a : Nat} (ha : a < G.length) {t : Nat} (ht : t ∈ numR G a) {x : Int} (hx : x ∈ refsOf (G.getD t default)) : clF G x.toNat ∈ numR G a := by
  obtain ⟨q, hq⟩ := List.getElem?_of_mem ht
  exact reachF_closed (G.length + 1) 0 [clF G a] (by have := numR_le hf ha; unfold numR reachL at this; omega) q t (Nat.zero_le _) hq x hx
theorem numR_zero {G : List TyD} {a : Nat} : (numR G a)[0]? = some (clF G a) := by
  obtain ⟨z, hz⟩ := reachF_pre (clF G) G (G.length + 1) 0 [clF G a]
  unfold numR reachL
  rw [← hz]; rfl
theorem numR_rep {G : List TyD} (hf : Fit G) {a : Nat} (ha : a < G.length) : ∀ r ∈ numR G a, Rep G r := by
  have hid : Hom G G id := ⟨fun _ h => h, fun _ _ => rfl, fun _ _ => rfl, fun i hi x hx => by
    have hm : G.getD i default ∈ G := by rw [List.getD_eq_getElem?_getD, List.getElem?_eq_getElem hi]; exact List.getElem_mem hi
    have := hf.2.2 _ hm x hx
    omega⟩
  exact (numR_map hid hf hf ha).2
theorem numN_at {R : List Nat} {c : Nat} (h : c ∈ R) : R[numN R c]? = some c := by
  unfold numN
  rw [if_pos h]
  have := List.idxOf_lt_length_iff.2 h
  rw [List.getElem?_eq_getElem this, List.getElem_idxOf this]
theorem numT_at {G : List TyD} {a q r : Nat} (h : (numR G a)[q]? = some r) : (numT G a)[q]? = some (mapTy (toF ((numTo G a).map Int.ofNat)) (G.getD r default)) := by
  unfold numT
  rw [List.getElem?_map, h]; rfl
theorem toF_pos (l : List Nat) (x : Int) : noneK (toF (l.map Int.ofNat) x) = false := by
  unfold toF
  rw [getD_ofNat]
  exact noneK_pos (by omega)
theorem toF_ne (l : List Nat) (x : Int) : toF (l.map Int.ofNat) x ≠ -1 := fun e => by
  have := toF_pos l x
  rw [e] at this; cases this
theorem numT_class {G : List TyD} (hz : GrZ G) (hc : (checkR G).2 = 0) {i j : Nat} (hi : i < G.length) (hj : j < G.length)
    (h : ∀ (q : Nat) (a b : TyD), (numT G i)[q]? = some a → (numT G j)[q]? = some b → agK a = agK b ∧ refsOf a = refsOf b) : clF G i = clF G j := by
  have hf := check_fit hz hc
  have hag : ∀ r (l : List Nat), Rep G r → agK (mapTy (toF (l.map Int.ofNat)) (G.getD r default)) = agK (G.getD r default) := fun r l hr => by
    obtain ⟨n1, n2, n3⟩ := ty_nums hz hc hr.1
    exact agK_map (fun hs => by rw [toF_pos, noneK_pos (n1 hs).1]) (fun p hp => by rw [toF_pos, noneK_pos (n2 p hp).1]) (fun m hm => ⟨fun x hx => by rw [toF_pos, noneK_pos ((n3 m hm).1 x hx).1], fun _ => toF_ne _ _⟩)
  have hrf : ∀ r (l : List Nat), refsOf (mapTy (toF (l.map Int.ofNat)) (G.getD r default)) = (refsOf (G.getD r default)).map (toF (l.map Int.ofNat)) := fun r l => refs_map (fun m _ _ => toF_ne _ _)
  have hin : ∀ r, r < G.length → ∀ x ∈ refsOf (G.getD r default), x.toNat < G.length := fun r hr x hx => by
    have hm : G.getD r default ∈ G := by rw [List.getD_eq_getElem?_getD, List.getElem?_eq_getElem hr]; exact List.getElem_mem hr
    have := hf.2.2 _ hm x hx
    omega
  refine class_closed (R := fun x y => x < G.length ∧ y < G.length ∧ ∃ q, (numR G i)[q]? = some (clF G x) ∧ (numR G j)[q]? = some (clF G y)) ?_ ⟨hi, hj, 0, numR_zero, numR_zero⟩
  rintro x y ⟨hx, hy, q, h1, h2⟩
  have r1 := rep_cl hx
  have r2 := rep_cl hy
  obtain ⟨k1, k2⟩ := h q _ _ (numT_at h1) (numT_at h2)
  rw [hag _ _ r1, hag _ _ r2] at k1
  rw [hrf, hrf] at k2
  have x1 := (class_agree r1.1 hx r1.2).1
  have x2 := (class_agree r1.1 hx r1.2).2
  have y1 := (class_agree r2.1 hy r2.2).1
  have y2 := (class_agree r2.1 hy r2.2).2
  have lx := congrArg List.length x2
  have ly := congrArg List.length y2
  have lk := congrArg List.length k2
  rw [List.length_map, List.length_map] at lx ly lk
  refine ⟨hx, hy, x1.symm.trans (k1.trans y1), by omega, fun z z1 z2 => ⟨hin x hx _ (List.getElem_mem z1), hin y hy _ (List.getElem_mem z2), ?_⟩⟩
  have w1 : z < (refsOf (G.getD (clF G x) default)).length := by omega
  have w2 : z < (refsOf (G.getD (clF G y) default)).length := by omega
  have e := congrArg (fun l => l[z]?) k2
  simp only [List.getElem?_map, List.getElem?_eq_getElem w1, List.getElem?_eq_getElem w2, Option.map_some, Option.some.injEq] at e
  rw [toF_num (hin _ r1.1 _ (List.getElem_mem w1)), toF_num (hin _ r2.1 _ (List.getElem_mem w2))] at e
  have c1 := class_refs r1.1 hx r1.2 w1 z1
  have c2 := class_refs r2.1 hy r2.2 w2 z2
  have m1 := numR_closed hf hi (List.mem_of_getElem? h1) (List.getElem_mem w1)
  have m2 := numR_closed hf hj (List.mem_of_getElem? h2) (List.getElem_mem w2)
  rw [c1] at e m1
  rw [c2] at e m2
  refine ⟨numN (numR G i) (clF G ((refsOf (G.getD x default))[z]).toNat), numN_at m1, ?_⟩
  rw [show numN (numR G i) (clF G ((refsOf (G.getD x default))[z]).toNat) = numN (numR G j) (clF G ((refsOf (G.getD y default))[z]).toNat) by omega]
  exact numN_at m2
end Go.Proofs.YteaokkaidcbdlaaGreatDoor

