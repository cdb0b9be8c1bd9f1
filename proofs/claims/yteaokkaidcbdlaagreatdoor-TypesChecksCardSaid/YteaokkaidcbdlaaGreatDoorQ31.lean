/- Part 31 of 51: the texts Cw, Rd, one behind the other. -/
import Derived.Test.YteaokkaidcbdlaaGreatDoorQ29
import Derived.Test.YteaokkaidcbdlaaGreatDoorQ30
import Derived.Test.YteaokkaidcbdlaaGreatDoorQ2
import Derived.Tactics
import Derived.Tactics2
import Derived.WalkKit
import Derived.LoopTactic
import Derived.Outline
import Derived.Lib.Hide
import Derived.Handy
import Derived.KernelRfl
import Derived.Deep.LoopGhost
import Derived.CallsIn
import Derived.Deep.QuietTactic
import Derived.BigQuiet
import Derived.Deep.Draws
import Derived.WalkSpells
import Derived.Lib.Walk
import Derived.Lib.Strings
import Derived.Maps.OwnOps
import Derived.Maps.OwnSet
import Derived.Deep.RegionWith
import Derived.StillTailTactics
import Derived.WalkMore
import Derived.RangeFuncNested
import Derived.RangeFuncBound
import Derived.RangeFuncCalls
import Derived.RangeFuncLeaves
import Derived.RangeFuncBox
import Derived.Shelf.Abstract
import Derived.OwnWalkIn
import Derived.TacticsInMore
import Derived.LoopNIn
import Derived.LoopIn
import Derived.RecoverIn
import Derived.Maps.AppendAt
import Derived.RegionTactic
import Derived.ChangeAlike
import Derived.OwnWalk
import Derived.Deep.AppendLies
import Derived.Deep.DeepCutAuto
import Derived.Deep.RegionLaw
import Derived.Deep.RegionHeld3
import Derived.Laws.EntriesVeiled
/- rows of structs; slices.Clone of them -/
namespace Go.Proofs.YteaokkaidcbdlaaGreatDoor
open Go Go.RowKit Go.Shelf
/-! ### Rows of structs -/
theorem flat_get {α : Type} {f : α → List Value} {sz : Nat} (hf : ∀ x, (f x).length = sz) : ∀ (l : List α) (i k : Nat) (hi : i < l.length), k < sz → (l.flatMap f)[i * sz + k]? = (f l[i])[k]?
  | x :: l, 0, k, _, hk => by
    rw [List.flatMap_cons, Nat.zero_mul, Nat.zero_add, List.getElem?_append_left (by rw [hf]; exact hk)]; rfl
  | x :: l, i + 1, k, hi, hk => by
    rw [List.flatMap_cons, Nat.add_mul, Nat.one_mul, List.getElem?_append_right (by rw [hf]; omega), hf, show i * sz + sz + k - sz = i * sz + k by omega]
    exact flat_get hf l i k (by simpa using hi) hk
theorem cells_len {α : Type} {f : α → List Value} {sz : Nat} (hf : ∀ x, (f x).length = sz) : ∀ (l : List α), (l.flatMap f).length = l.length * sz
  | [] => by simp
  | x :: l => by rw [List.flatMap_cons, List.length_append, hf, cells_len hf l, List.length_cons, Nat.add_mul]; omega
theorem flat_set {α : Type} {f : α → List Value} {sz : Nat} (hf : ∀ x, (f x).length = sz) {v : Value} {y : α} : ∀ (l : List α) (i k : Nat) (hi : i < l.length), k < sz → f y = (f l[i]).set k v → (l.flatMap f).set (i * sz + k) v = (l.set i y).flatMap f
  | x :: l, 0, k, _, hk, hy => by
    rw [List.set_cons_zero, List.flatMap_cons, List.flatMap_cons, Nat.zero_mul, Nat.zero_add, List.set_append_left _ _ (by rw [hf]; exact hk)]
    rw [hy]; rfl
  | x :: l, i + 1, k, hi, hk, hy => by
    rw [List.set_cons_succ, List.flatMap_cons, List.flatMap_cons, Nat.add_mul, Nat.one_mul, List.set_append_right _ _ (by rw [hf]; omega), hf, show i * sz + sz + k - sz = i * sz + k by omega]
    rw [flat_set hf l i k (by simpa using hi) hk hy]
def partCells (l : List PartD) : List Value := l.flatMap fun p => [.string p.name, .int .i64 p.type]
def overCells (l : List OverD) : List Value := l.flatMap fun p => [.string p.name, .string p.proc]
abbrev MV := MethD × Value × Value
def mvC (x : MV) : List Value := [.string x.1.name, x.2.1, .int .i64 x.1.result, x.2.2, .string x.1.proc]
def mvCells (l : List MV) : List Value := l.flatMap mvC
theorem row_setN {w : World} {base : Nat} {e : TypeId} {sz g n cap : Nat} {xs : List Value} (h : w.ownsRow base e sz (.slice (some ⟨g, 0, none⟩) n cap) n xs) (k : Nat) (v : Value) :
    (w.setCell ⟨g, k, none⟩ v).ownsRow base e sz (.slice (some ⟨g, 0, none⟩) n cap) n (xs.set k v) := by
  rcases h.2 with ⟨h0, _⟩ | ⟨g', cap', cur, h0, hg, hc, h1, h2, h3, h4⟩
  · cases h0
  · cases h0
    refine ⟨by rw [List.length_set]; exact h.1, .inr ⟨g, cap, cur.setIfInBounds k v, rfl, hg, ?_, h1, h2, by simpa using h3, ?_⟩⟩
    · have hlt := (Array.getElem?_eq_some_iff.1 hc).1
      show (w.heap.modify g _)[g]? = _
      rw [Array.getElem?_modify, if_pos rfl, hc]
      rfl
    · rw [Array.toList_setIfInBounds, List.take_set, h4]
theorem slice_addr {α : Type} {sz : Nat} {At : Nat → Nat → α → Prop} {v : Value} {l : List α} (h : SliceOf sz At v l) : (∃ n c, v = .slice none n c ∧ l = []) ∨ (∃ ad c, v = .slice (some ad) l.length c ∧ l = []) ∨ ∃ b off c, v = .slice (some ⟨b, off, none⟩) l.length c ∧ ∀ i x, l[i]? = some x → At b (off + i * sz) x := by
  obtain ⟨o, cap, rfl, h1, h2, h3⟩ := h
  cases l with
  | nil =>
    cases o with
    | none => exact .inl ⟨_, _, rfl, rfl⟩
    | some ad => exact .inr (.inl ⟨ad, cap, rfl, rfl⟩)
  | cons x l =>
    obtain ⟨b, off, rfl, _⟩ := h3 0 x rfl
    refine .inr (.inr ⟨b, off, cap, rfl, fun i y hy => ?_⟩)
    obtain ⟨b', off', e, ha⟩ := h3 i y hy
    cases e; exact ha
theorem nil_row (w : World) (base : Nat) (e : TypeId) (sz : Nat) : w.ownsRow base e sz (.slice none 0 0) 0 [] := ⟨by simp, .inl ⟨rfl, rfl⟩⟩
theorem clone_parts (v : Value) (l : List PartD) (w : World) (h : SliceOf 2 (PartAt w) v l) (hl : l.length ≤ 100000) :
    Calls Tryz.prog 119 #[v] w fun e w' => ∃ v', e = .returned v' ∧ w'.ownsRow w.heap.size 93 2 v' l.length (partCells l) ∧ Below w.heap.size w w' := by
  rcases slice_addr h with ⟨n, c, rfl, rfl⟩ | ⟨ad, c, rfl, rfl⟩ | ⟨b, off, c, rfl, hat⟩
  · refine (clone119_nil n c w).mono ?_
    rintro e w' ⟨rfl, rfl⟩
    exact ⟨_, rfl, nil_row _ _ _ _, Below.refl _ _⟩
  · exact clone119 ad 0 c [] w rfl (fun j u h => by simp at h) (fun u h => by simp at h) (by omega)
  · refine clone119 ⟨b, off, none⟩ l.length c (partCells l) w (by unfold partCells; exact cells_len (sz := 2) (fun _ => rfl) l) (fun j u hj => ?_) (fun u hu => ?_) hl
    · have hlen := (List.getElem?_eq_some_iff.1 hj).1
      unfold partCells at hlen hj
      rw [cells_len (sz := 2) (fun _ => rfl)] at hlen
      have hi : j / 2 < l.length := by omega
      have hp := hat (j / 2) l[j / 2] (List.getElem?_eq_getElem hi)
      rw [add_addr]
      have e0 : j = j / 2 * 2 + j % 2 := by omega
      rw [e0, flat_get (sz := 2) (fun _ => rfl) l (j / 2) (j % 2) hi (by omega)] at hj
      rcases (show j % 2 = 0 ∨ j % 2 = 1 by omega) with h2 | h2
      · rw [h2] at hj; simp at hj; subst hj
        have := hp.1
        rwa [show off + j / 2 * 2 = off + j by omega] at this
      · rw [h2] at hj; simp at hj; subst hj
        have := hp.2
        rwa [show off + j / 2 * 2 + 1 = off + j by omega] at this
    · unfold partCells at hu
      obtain ⟨p, _, hp⟩ := List.mem_flatMap.1 hu
      simp at hp
      rcases hp with rfl | rfl <;> rfl
theorem clone_overs (v : Value) (l : List OverD) (w : World) (h : SliceOf 2 (OverAt w) v l) (hl : l.length ≤ 100000) :
    Calls Tryz.prog 120 #[v] w fun e w' => ∃ v', e = .returned v' ∧ w'.ownsRow w.heap.size 116 2 v' l.length (overCells l) ∧ Below w.heap.size w w' := by
  rcases slice_addr h with ⟨n, c, rfl, rfl⟩ | ⟨ad, c, rfl, rfl⟩ | ⟨b, off, c, rfl, hat⟩
  · refine (clone120_nil n c w).mono ?_
    rintro e w' ⟨rfl, rfl⟩
    exact ⟨_, rfl, nil_row _ _ _ _, Below.refl _ _⟩
  · exact clone120 ad 0 c [] w rfl (fun j u h => by simp at h) (fun u h => by simp at h) (by omega)
  · refine clone120 ⟨b, off, none⟩ l.length c (overCells l) w (by unfold overCells; exact cells_len (sz := 2) (fun _ => rfl) l) (fun j u hj => ?_) (fun u hu => ?_) hl
    · have hlen := (List.getElem?_eq_some_iff.1 hj).1
      unfold overCells at hlen hj
      rw [cells_len (sz := 2) (fun _ => rfl)] at hlen
      have hi : j / 2 < l.length := by omega
      have hp := hat (j / 2) l[j / 2] (List.getElem?_eq_getElem hi)
      rw [add_addr]
      have e0 : j = j / 2 * 2 + j % 2 := by omega
      rw [e0, flat_get (sz := 2) (fun _ => rfl) l (j / 2) (j % 2) hi (by omega)] at hj
      rcases (show j % 2 = 0 ∨ j % 2 = 1 by omega) with h2 | h2
      · rw [h2] at hj; simp at hj; subst hj
        have := hp.1
        rwa [show off + j / 2 * 2 = off + j by omega] at this
      · rw [h2] at hj; simp at hj; subst hj
        have := hp.2
        rwa [show off + j / 2 * 2 + 1 = off + j by omega] at this
    · unfold overCells at hu
      obtain ⟨p, _, hp⟩ := List.mem_flatMap.1 hu
      simp at hp
      rcases hp with rfl | rfl <;> rfl
/-- The methods, with the values of their rows. -/
theorem meths_mv {W : World} {v : Value} {l : List MethD} (h : SliceOf 5 (MethAt W) v l) : ∃ M : List MV, M.map (·.1) = l ∧ (∀ x ∈ M, MethV W x.2.1 x.2.2 x.1) ∧ ∀ b off c, v = .slice (some ⟨b, off, none⟩) l.length c → ∀ i (hi : i < M.length) k u, (mvC M[i])[k]? = some u → W.cell? ⟨b, off + i * 5 + k, none⟩ = some u := by
  obtain ⟨o, cap, rfl, h1, h2, h3⟩ := h
  obtain ⟨M, hl, hM⟩ := choose_list (P := fun i (x : MV) => ∀ hi : i < l.length, x.1 = l[i] ∧ MethV W x.2.1 x.2.2 x.1 ∧ ∀ b off c, (Value.slice o l.length cap) = .slice (some ⟨b, off, none⟩) l.length c → ∀ k u, (mvC x)[k]? = some u → W.cell? ⟨b, off + i * 5 + k, none⟩ = some u) l.length (fun i hi => by
    obtain ⟨b, off, rfl, va, vr, hv, m0, m1, m2, m3, m4⟩ := h3 i l[i] (List.getElem?_eq_getElem hi)
    refine ⟨(l[i], va, vr), fun _ => ⟨rfl, hv, fun b' off' c' e k u hk => ?_⟩⟩
    cases e
    match k with
    | 0 => simp [mvC] at hk; subst hk; exact m0
    | 1 => simp [mvC] at hk; subst hk; exact m1
    | 2 => simp [mvC] at hk; subst hk; exact m2
    | 3 => simp [mvC] at hk; subst hk; exact m3
    | 4 => simp [mvC] at hk; subst hk; exact m4
    | k + 5 => simp [mvC] at hk)
  refine ⟨M, ?_, ?_, ?_⟩
  · apply List.ext_getElem (by simpa using hl)
    intro i a1 a2
    rw [List.getElem_map]
    exact (hM i (by omega) a2).1
  · intro x hx
    obtain ⟨i, hi, rfl⟩ := List.mem_iff_getElem.1 hx
    exact (hM i hi (by omega)).2.1
  · intro b off c e i hi k u hk
    exact (hM i hi (by omega)).2.2 b off c e k u hk
theorem methV_one {W : World} {x : MV} (h : MethV W x.2.1 x.2.2 x.1) : ∀ u ∈ mvC x, u.oneCell' = true := by
  obtain ⟨o1, c1, e1⟩ := h.args.form
  obtain ⟨o2, c2, e2⟩ := h.raises.form
  intro u hu
  unfold mvC at hu
  rw [e1, e2] at hu
  simp at hu
  rcases hu with rfl | rfl | rfl | rfl | rfl <;> rfl
theorem clone_meths (v : Value) (l : List MethD) (w0 w : World) (hh : Go.Proofs.YteaokkaidcbdlaaGreatDoor.Holds w0 w) (h : SliceOf 5 (MethAt w0) v l) (hl : l.length ≤ 100000) :
    Calls Tryz.prog 121 #[v] w fun e w' => ∃ v' M, e = .returned v' ∧ M.map (·.1) = l ∧ (∀ x ∈ M, MethV w0 x.2.1 x.2.2 x.1) ∧ w'.ownsRow w.heap.size 74 5 v' l.length (mvCells M) ∧ Below w.heap.size w w' := by
  obtain ⟨M, hM, hV, hC⟩ := meths_mv h
  have hMl : M.length = l.length := by rw [← hM]; simp
  rcases slice_addr h with ⟨n, c, rfl, rfl⟩ | ⟨ad, c, rfl, rfl⟩ | ⟨b, off, c, rfl, hat⟩
  · refine (clone121_nil n c w).mono ?_
    rintro e w' ⟨rfl, rfl⟩
    exact ⟨_, [], rfl, rfl, fun x hx => by simp at hx, nil_row _ _ _ _, Below.refl _ _⟩
  · refine (clone121 ad 0 c [] w rfl (fun j u h => by simp at h) (fun u h => by simp at h) (by omega)).mono ?_
    rintro e w' ⟨v', rfl, hr, hb⟩
    exact ⟨v', [], rfl, rfl, fun x hx => by simp at hx, hr, hb⟩
  · refine (clone121 ⟨b, off, none⟩ l.length c (mvCells M) w (by rw [← hMl]; unfold mvCells; exact cells_len (sz := 5) (fun _ => rfl) M) (fun j u hj => ?_) (fun u hu => ?_) hl).mono ?_
    · have hlen := (List.getElem?_eq_some_iff.1 hj).1
      unfold mvCells at hlen hj
      rw [cells_len (sz := 5) (fun _ => rfl)] at hlen
      have hi : j / 5 < M.length := by omega
      rw [add_addr]
      have e0 : j = j / 5 * 5 + j % 5 := by omega
      rw [e0, flat_get (sz := 5) (fun _ => rfl) M (j / 5) (j % 5) hi (by omega)] at hj
      have := hh _ _ (hC b off c rfl (j / 5) hi (j % 5) u hj)
      rwa [show off + j / 5 * 5 + j % 5 = off + j by omega] at this
    · unfold mvCells at hu
      obtain ⟨p, hp, hu⟩ := List.mem_flatMap.1 hu
      exact methV_one (hV p hp) u hu
    · rintro e w' ⟨v', rfl, hr, hb⟩
      exact ⟨v', M, rfl, hM, hV, hr, hb⟩
theorem clone_ints (v : Value) (l : List Int) (w : World) (h : SliceOf 1 (IntAt w) v l) (hl : l.length ≤ 100000) :
    Calls Tryz.prog 122 #[v] w fun e w' => ∃ v', e = .returned v' ∧ w'.ownsRow w.heap.size 3 1 v' l.length (l.map (.int .i64)) ∧ Below w.heap.size w w' := by
  rcases slice_addr h with ⟨n, c, rfl, rfl⟩ | ⟨ad, c, rfl, rfl⟩ | ⟨b, off, c, rfl, hat⟩
  · refine (Tryz.slices_Clone_int_nil n c w).mono ?_
    rintro e w' ⟨rfl, rfl⟩
    exact ⟨_, rfl, nil_row _ _ _ _, Below.refl _ _⟩
  · refine (Tryz.slices_Clone_int_zero ad c w).mono ?_
    rintro e w' ⟨v', rfl, hr, _, hb⟩
    exact ⟨v', rfl, hr, hb⟩
  · refine (Tryz.slices_Clone_int b off l.length c l w (Nat.le_refl _) (by omega) (fun j hj => ?_)).mono ?_
    · have := hat j l[j] (List.getElem?_eq_getElem hj)
      unfold IntAt at this
      rw [Nat.mul_one] at this
      rw [this, List.getD_eq_getElem?_getD, List.getElem?_eq_getElem hj]; rfl
    · rintro e w' ⟨v', rfl, hr, _, hb⟩
      rw [List.take_length] at hr
      exact ⟨v', rfl, hr, hb⟩
theorem clone_strs (v : Value) (l : List ByteArray) (w : World) (h : SliceOf 1 (StrAt w) v l) (hl : l.length ≤ 100000) :
    Calls Tryz.prog 123 #[v] w fun e w' => ∃ v', e = .returned v' ∧ w'.ownsRow w.heap.size 9 1 v' l.length (l.map .string) ∧ Below w.heap.size w w' := by
  rcases slice_addr h with ⟨n, c, rfl, rfl⟩ | ⟨ad, c, rfl, rfl⟩ | ⟨b, off, c, rfl, hat⟩
  · refine (Tryz.slices_Clone_string_nil n c w).mono ?_
    rintro e w' ⟨rfl, rfl⟩
    exact ⟨_, rfl, nil_row _ _ _ _, Below.refl _ _⟩
  · refine (Tryz.slices_Clone_string_zero ad c w).mono ?_
    rintro e w' ⟨v', rfl, hr, _, hb⟩
    exact ⟨v', rfl, hr, hb⟩
  · refine (Tryz.slices_Clone_string b off l.length c l w (Nat.le_refl _) (by omega) (fun j hj => ?_)).mono ?_
    · have := hat j l[j] (List.getElem?_eq_getElem hj)
      unfold StrAt at this
      rw [Nat.mul_one] at this
      rw [this, List.getD_eq_getElem?_getD, List.getElem?_eq_getElem hj]; rfl
    · rintro e w' ⟨v', rfl, hr, _, hb⟩
      rw [List.take_length] at hr
      exact ⟨v', rfl, hr, hb⟩
end Go.Proofs.YteaokkaidcbdlaaGreatDoor
/- reachedFrom (74): the search, as plain data; what lies in memory -/
namespace Go.Proofs.YteaokkaidcbdlaaGreatDoor
open Go Go.RowKit Go.Shelf
/-! ### reachedFrom (74): the search, as plain data -/
def addR (sf : Nat → Nat) (R : List Nat) (x : Int) : List Nat := if sf x.toNat ∈ R then R else R ++ [sf x.toNat]
def addRs (sf : Nat → Nat) (R : List Nat) (l : List Int) : List Nat := l.foldl (addR sf) R
theorem addRs_snoc (sf : Nat → Nat) (R : List Nat) (l : List Int) (x : Int) : addRs sf R (l ++ [x]) = addR sf (addRs sf R l) x := by unfold addRs; rw [List.foldl_append]; rfl
def reachF (sf : Nat → Nat) (G : List TyD) : Nat → Nat → List Nat → List Nat
  | 0, _, R => R
  | f + 1, k, R => match R[k]? with
    | none => R
    | some t => reachF sf G f (k + 1) (addRs sf R (refsOf (G.getD t default)))
/-- The types that are reached from one, in the order in which they are come upon. -/
def reachL (sf : Nat → Nat) (G : List TyD) (a : Nat) : List Nat := reachF sf G (G.length + 1) 0 [sf a]
structure RInv (G : List TyD) (R : List Nat) : Prop where
  nodup : R.Nodup
  bnd : ∀ x ∈ R, x < G.length
theorem RInv.add {G : List TyD} {sf : Nat → Nat} (hsf : ∀ x, x < G.length → sf x < G.length) {R : List Nat} (h : RInv G R) {x : Int} (h0 : 0 ≤ x) (h1 : x < G.length) : RInv G (addR sf R x) := by
  unfold addR
  split
  · exact h
  · rename_i hn
    refine ⟨?_, fun y hy => ?_⟩
    · rw [List.nodup_append]
      exact ⟨h.nodup, by simp, fun p hp q hq e => by simp at hq; subst hq; exact hn (e ▸ hp)⟩
    · rw [List.mem_append, List.mem_singleton] at hy
      rcases hy with hy | rfl
      · exact h.bnd y hy
      · exact hsf _ (by omega)
theorem RInv.len {G : List TyD} {R : List Nat} (h : RInv G R) : R.length ≤ G.length := nodup_le _ _ h.nodup h.bnd
theorem addRs_pre (sf : Nat → Nat) : ∀ (l : List Int) (R : List Nat), R <+: addRs sf R l
  | [], R => List.prefix_refl _
  | x :: l, R => by
    have h1 : R <+: addR sf R x := by
      unfold addR; split
      · exact List.prefix_refl _
      · exact List.prefix_append _ _
    exact h1.trans (addRs_pre sf l _)
/-- Each with its number. -/
def numA (R : List Nat) : List (Nat × Value) := R.zipIdx.map fun x => (x.1, natI x.2)
theorem numA_keys (R : List Nat) : (numA R).map (·.1) = R := by
  unfold numA; rw [List.map_map]; exact List.zipIdx_map_fst 0 R
theorem numA_snoc (R : List Nat) (x : Nat) : numA (R ++ [x]) = numA R ++ [(x, natI R.length)] := by
  unfold numA; rw [List.zipIdx_append, List.map_append]; simp
theorem lookA_num {R : List Nat} (hn : R.Nodup) {k : Nat} (h : k < R.length) : lookA (numA R) R[k] = some (natI k) := by
  apply lookA_mem
  · rw [numA_keys]; exact hn
  · unfold numA
    exact List.mem_map.2 ⟨(R[k], k), by rw [List.mem_zipIdx_iff_getElem?]; simp [h], rfl⟩
abbrev MapN (w : World) (b : Nat) (R : List Nat) : Prop := AMap w b 3 natI (numA R)
theorem natI_inj' (x y : Nat) (h : natI x = natI y) : x = y := by unfold natI at h; simp at h; omega
/-- What lies in memory between two steps of the search. -/
structure TR (W wr : World) (fv : Value) (N mbk b8 b9 : Nat) (R : List Nat) (rv : Value) (ms : List Nat) : Prop where
  bel : Below W.heap.size W wr
  hN : W.heap.size + 1 ≤ N
  ge : N ≤ mbk ∧ N ≤ b8 ∧ N ≤ b9
  f : Boxed wr W.heap.size 94 fv
  qb : Boxed wr b8 37 rv
  row : wr.ownsRow N 3 1 rv R.length (natsV R)
  mb : Boxed wr b9 95 (.map (some mbk))
  mp : MapN wr mbk R
  op : Open' wr N ms
theorem TR.below {W wr w' : World} {fv rv : Value} {N mbk b8 b9 : Nat} {R : List Nat} {ms : List Nat} (h : TR W wr fv N mbk b8 b9 R rv ms) (hb : Below wr.heap.size wr w') : TR W w' fv N mbk b8 b9 R rv ms :=
  ⟨h.bel.trans (hb.mono h.bel.size), h.hN, h.ge, (hb.block _ h.f.lt).trans h.f, (hb.block _ h.qb.lt).trans h.qb, Row.below h.row hb, (hb.block _ h.mb.lt).trans h.mb, h.mp.below hb h.mp.lt, h.op.below hb⟩
theorem TR.put {W wr : World} {fv rv : Value} {N mbk b8 b9 : Nat} {R : List Nat} {ms : List Nat} (h : TR W wr fv N mbk b8 b9 R rv ms) {l : Nat} {o : Obj} (o' : Obj) (hl : wr.heap[l]? = some o) (ho : o.isCells = false) (hlN : mbk < l) (hms : ∀ D ∈ ms, D < l) :
    TR W (wr.putObj l o') fv N mbk b8 b9 R rv ms := by
  have hot : ∀ b x, wr.heap[b]? = some x → b ≠ l → (wr.putObj l o').heap[b]? = some x := fun b x hb hne => (World.putObj_heap_other (by omega)).trans hb
  have hN := h.hN
  have hge := h.ge
  refine ⟨h.bel.grown (grownBy_putObj' wr l o') h.bel.size (fun j e => by cases e; omega), h.hN, h.ge, hot _ _ h.f (by omega), hot _ _ h.qb ?_, ownsRow_putObj h.row o' hl ho, hot _ _ h.mb ?_, h.mp.block (World.putObj_heap_other (by omega)), h.op.keeps fun D hD => World.putObj_heap_other (by have := hms D hD; omega)⟩
  · rintro rfl; rw [h.qb] at hl; cases hl; cases ho
  · rintro rfl; rw [h.mb] at hl; cases hl; cases ho
/-- The map has been written, and one more stands in the row: what the two steps leave. -/
theorem TR.more {W wr w1 w' : World} {fv rv rv' : Value} {N mbk b8 b9 : Nat} {R : List Nat} {ms : List Nat} (h : TR W wr fv N mbk b8 b9 R rv ms) (hg1 : wr.grownBy w1 (some mbk)) (x : Nat) (hM : MapN w1 mbk (R ++ [x])) (tmp : Obj)
    (hown : w'.ownsRow N 3 1 rv' (R.length + 1) (natsV R ++ [natI x])) (hg : (w1.alloc tmp).grownBy w' rv.ownBlock) :
    TR W (w'.setCell ⟨b8, 0, none⟩ rv') fv N mbk b8 b9 (R ++ [x]) rv' ms := by
  have hge := h.ge
  have hN := h.hN
  have hk1 : ∀ (b : Nat) (cs : Array Value) (t : TypeId) (f : Nat × Nat), wr.heap[b]? = some (.cells cs t f) → w1.heap[b]? = some (.cells cs t f) := fun b cs t f hb => (hg1.block b (Array.getElem?_eq_some_iff.1 hb).1 (by simpa using h.mp.ne_cells hb)).trans hb
  have hrow1 : w1.ownsRow N 3 1 rv R.length (natsV R) := h.row.kept hg1 (.inr fun e => row_ne_map h.mp h.row e.symm)
  have hrA := hrow1.alloc tmp
  have q81 : Boxed w1 b8 37 rv := hk1 _ _ _ _ h.qb
  have hk : ∀ (b : Nat) (o : Obj), w1.heap[b]? = some o → some b ≠ rv.ownBlock → w'.heap[b]? = some o := fun b o hb hne => by
    have hlt := (Array.getElem?_eq_some_iff.1 hb).1
    exact (hg.block b (by simp; omega) hne).trans ((Below.heap_alloc _ _ _ hlt).trans hb)
  have q8 : Boxed w' b8 37 rv := hk _ _ q81 (q81.not_row (by decide) hrow1)
  have hset : ∀ (b : Nat) (o : Obj), w'.heap[b]? = some o → b ≠ b8 → (w'.setCell ⟨b8, 0, none⟩ rv').heap[b]? = some o := fun b o hb hne => by
    show (w'.heap.modify b8 _)[b]? = _
    rw [Array.getElem?_modify, if_neg (by omega)]; exact hb
  have hty : ∀ b v t, Boxed w1 b t v → t ≠ 37 → b ≠ b8 := by
    rintro b v t hb ht rfl
    unfold Boxed at q81 hb
    rw [hb] at q81; cases q81; exact ht rfl
  have f1 : Boxed w1 W.heap.size 94 fv := hk1 _ _ _ _ h.f
  have m1 : Boxed w1 b9 95 _ := hk1 _ _ _ _ h.mb
  have hb0 : Below W.heap.size W w' := ((h.bel.grown hg1 h.bel.size (fun j e => by cases e; omega)).alloc (Nat.le_trans h.bel.size hg1.size) tmp).grown hg (by simp; have := h.bel.size; have := hg1.size; omega) (fun j e => by have := (hrow1.lt j e).1; omega)
  have hM' : MapN w' mbk (R ++ [x]) := (hM.alloc tmp).kept hg (row_ne_map (hM.alloc tmp) hrA)
  refine ⟨hb0.setCell (p := ⟨b8, 0, none⟩) (show W.heap.size ≤ b8 by omega) rv', hN, hge, hset _ _ (hk _ _ f1 (f1.not_row (by decide) hrow1)) (hty _ _ _ f1 (by decide)), q8.set rv', ?_, hset _ _ (hk _ _ m1 (m1.not_row (by decide) hrow1)) (hty _ _ _ m1 (by decide)), hM'.set rv' (fun e => hM'.ne_cells q8 e.symm), ?_⟩
  · rw [natsV_snoc, List.length_append]
    exact hown.kept (grownBy_setCell' w' b8 rv') (.inr fun e => q8.not_row (by decide) hown e.symm)
  · have h0 := h.op.grown hg1 (fun r e => by
      cases e
      obtain ⟨es, clock, hm, _⟩ := h.mp.at'
      exact ⟨_, hm, fun ds e => by cases e⟩)
    have h1 := (h0.below ((Below.refl _ _).alloc (Nat.le_refl _) tmp)).grown hg (fun r e => by
      rcases hrA.2 with ⟨rfl, _⟩ | ⟨g, cap, cur, rfl, _, hgb, _⟩
      · simp [Value.ownBlock] at e
      · simp only [Value.ownBlock, Option.some.injEq] at e
        subst e
        exact ⟨_, hgb, fun ds e => by cases e⟩)
    exact h1.grown (grownBy_setCell' w' b8 rv') (fun r e => by cases e; exact ⟨_, q8, fun ds e => by cases e⟩)
end Go.Proofs.YteaokkaidcbdlaaGreatDoor
