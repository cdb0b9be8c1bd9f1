/- Part 34 of 53: the texts Cw, one behind the other. -/
import Derived.Test.YteaokkaidcbdlaaGreatDoorJ32
import Derived.Test.YteaokkaidcbdlaaGreatDoorJ33
import Derived.Test.YteaokkaidcbdlaaGreatDoorJ2
import Derived.Tactics
import Derived.Tactics2
import Derived.WalkKit
import Derived.LoopTactic
import Derived.Outline
import Derived.Lib.Hide
import Derived.Handy
import Derived.KernelRfl
import Derived.Deep.LoopGhost
import Derived.CallsIn
import Derived.Deep.QuietTactic
import Derived.BigQuiet
import Derived.Deep.Draws
import Derived.WalkSpells
import Derived.Lib.Walk
import Derived.Lib.Strings
import Derived.Maps.OwnOps
import Derived.Maps.OwnSet
import Derived.Deep.RegionWith
import Derived.StillTailTactics
import Derived.WalkMore
import Derived.RangeFuncNested
import Derived.RangeFuncBound
import Derived.RangeFuncCalls
import Derived.RangeFuncLeaves
import Derived.RangeFuncBox
import Derived.Shelf.Abstract
import Derived.OwnWalkIn
import Derived.TacticsInMore
import Derived.LoopNIn
import Derived.LoopIn
import Derived.RecoverIn
import Derived.Maps.AppendAt
import Derived.RegionTactic
import Derived.ChangeAlike
import Derived.OwnWalk
import Derived.Deep.AppendLies
import Derived.Deep.DeepCutAuto
import Derived.Deep.RegionLaw
import Derived.Deep.RegionHeld3
import Derived.Laws.EntriesVeiled
namespace Go.Proofs.YteaokkaidcbdlaaGreatDoor
open Go Go.RowKit Go.Shelf
theorem flat_get {α : Type} {f : α → List Value} {sz : Nat} (hf : ∀ x, (f x).length = sz) : ∀ (l : List α) (i k : Nat) (hi : i < l.length), k < sz → (l.flatMap f)[i * sz + k]? = (f l[i])[k]?
  | x :: l, 0, k, _, hk => by
    rw [List.flatMap_cons, Nat.zero_mul, Nat.zero_add, List.getElem?_append_left (by rw [hf]; exact hk)]; rfl
  | x :: l, i + 1, k, hi, hk => by
    rw [List.flatMap_cons, Nat.add_mul, Nat.one_mul, List.getElem?_append_right (by rw [hf]; omega), hf, show i * sz + sz + k - sz = i * sz + k by omega]
    exact flat_get hf l i k (by simpa using hi) hk
theorem cells_len {α : Type} {f : α → List Value} {sz : Nat} (hf : ∀ x, (f x).length = sz) : ∀ (l : List α), (l.flatMap f).length = l.length * sz
  | [] => by simp
  | x :: l => by rw [List.flatMap_cons, List.length_append, hf, cells_len hf l, List.length_cons, Nat.add_mul]; omega
theorem flat_set {α : Type} {f : α → List Value} {sz : Nat} (hf : ∀ x, (f x).length = sz) {v : Value} {y : α} : ∀ (l : List α) (i k : Nat) (hi : i < l.length), k < sz → f y = (f l[i]).set k v → (l.flatMap f).set (i * sz + k) v = (l.set i y).flatMap f
  | x :: l, 0, k, _, hk, hy => by
    rw [List.set_cons_zero, List.flatMap_cons, List.flatMap_cons, Nat.zero_mul, Nat.zero_add, List.set_append_left _ _ (by rw [hf]; exact hk)]
    rw [hy]; rfl
  | x :: l, i + 1, k, hi, hk, hy => by
    rw [List.set_cons_succ, List.flatMap_cons, List.flatMap_cons, Nat.add_mul, Nat.one_mul, List.set_append_right _ _ (by rw [hf]; omega), hf, show i * sz + sz + k - sz = i * sz + k by omega]
    rw [flat_set hf l i k (by simpa using hi) hk hy]
def partCells (l : List PartD) : List Value := l.flatMap fun p => [.string p.name, .int .i64 p.type]
def overCells (l : List OverD) : List Value := l.flatMap fun p => [.string p.name, .string p.proc]
abbrev MV := MethD × Value × Value
def mvC (x : MV) : List Value := [.string x.1.name, x.2.1, .int .i64 x.1.result, x.2.2, .string x.1.proc]
def mvCells (l : List MV) : List Value := l.flatMap mvC
theorem row_setN {w : World} {base : Nat} {e : TypeId} {sz g n cap : Nat} {xs : List Value} (h : w.ownsRow base e sz (.slice (some ⟨g, 0, none⟩) n cap) n xs) (k : Nat) (v : Value) :
    (w.setCell ⟨g, k, none⟩ v).ownsRow base e sz (.slice (some ⟨g, 0, none⟩) n cap) n (xs.set k v) := by
  rcases h.2 with ⟨h0, _⟩ | ⟨g', cap', cur, h0, hg, hc, h1, h2, h3, h4⟩
  · cases h0
  · cases h0
    refine ⟨by rw [List.length_set]; exact h.1, .inr ⟨g, cap, cur.setIfInBounds k v, rfl, hg, ?_, h1, h2, by simpa using h3, ?_⟩⟩
    · have hlt := (Array.getElem?_eq_some_iff.1 hc).1
      show (w.heap.modify g _)[g]? = _
      rw [Array.getElem?_modify, if_pos rfl, hc]
      rfl
    · rw [Array.toList_setIfInBounds, List.take_set, h4]
theorem slice_addr {α : Type} {sz : Nat} {At : Nat → Nat → α → Prop} {v : Value} {l : List α} (h : SliceOf sz At v l) : (∃ n c, v = .slice none n c ∧ l = []) ∨ (∃ ad c, v = .slice (some ad) l.length c ∧ l = []) ∨ ∃ b off c, v = .slice (some ⟨b, off, none⟩) l.length c ∧ ∀ i x, l[i]? = some x → At b (off + i * sz) x := by
  obtain ⟨o, cap, rfl, h1, h2, h3⟩ := h
  cases l with
  | nil =>
    cases o with
    | none => exact .inl ⟨_, _, rfl, rfl⟩
    | some ad => exact .inr (.inl ⟨ad, cap, rfl, rfl⟩)
  | cons x l =>
    obtain ⟨b, off, rfl, _⟩ := h3 0 x rfl
    refine .inr (.inr ⟨b, off, cap, rfl, fun i y hy => ?_⟩)
    obtain ⟨b', off', e, ha⟩ := h3 i y hy
    cases e; exact ha
theorem nil_row (w : World) (base : Nat) (e : TypeId) (sz : Nat) : w.ownsRow base e sz (.slice none 0 0) 0 [] := ⟨by simp, .inl ⟨rfl, rfl⟩⟩
theorem clone_parts (v : Value) (l : List PartD) (w : World) (h : SliceOf 2 (PartAt w) v l) (hl : l.length ≤ 100000) :
    Calls Tryz.prog 119 #[v] w fun e w' => ∃ v', e = .returned v' ∧ w'.ownsRow w.heap.size 93 2 v' l.length (partCells l) ∧ Below w.heap.size w w' := by
  rcases slice_addr h with ⟨n, c, rfl, rfl⟩ | ⟨ad, c, rfl, rfl⟩ | ⟨b, off, c, rfl, hat⟩
  · refine (clone119_nil n c w).mono ?_
    rintro e w' ⟨rfl, rfl⟩
    exact ⟨_, rfl, nil_row _ _ _ _, Below.refl _ _⟩
  · exact clone119 ad 0 c [] w rfl (fun j u h => by simp at h) (fun u h => by simp at h) (by omega)
  · refine clone119 ⟨b, off, none⟩ l.length c (partCells l) w (by unfold partCells; exact cells_len (sz := 2) (fun _ => rfl) l) (fun j u hj => ?_) (fun u hu => ?_) hl
    · have hlen := (List.getElem?_eq_some_iff.1 hj).1
      unfold partCells at hlen hj
      rw [cells_len (sz := 2) (fun _ => rfl)] at hlen
      have hi : j / 2 < l.length := by omega
      have hp := hat (j / 2) l[j / 2] (List.getElem?_eq_getElem hi)
      rw [add_addr]
      have e0 : j = j / 2 * 2 + j % 2 := by omega
      rw [e0, flat_get (sz := 2) (fun _ => rfl) l (j / 2) (j % 2) hi (by omega)] at hj
      rcases (show j % 2 = 0 ∨ j % 2 = 1 by omega) with h2 | h2
      · rw [h2] at hj; simp at hj; subst hj
        have := hp.1
        rwa [show off + j / 2 * 2 = off + j by omega] at this
      · rw [h2] at hj; simp at hj; subst hj
        have := hp.2
        rwa [show off + j / 2 * 2 + 1 = off + j by omega] at this
    · unfold partCells at hu
      obtain ⟨p, _, hp⟩ := List.mem_flatMap.1 hu
      simp at hp
      rcases hp with rfl | rfl <;> rfl
theorem clone_overs (v : Value) (l : List OverD) (w : World) (h : SliceOf 2 (OverAt w) v l) (hl : l.length ≤ 100000) :
    Calls Tryz.prog 120 #[v] w fun e w' => ∃ v', e = .returned v' ∧ w'.ownsRow w.heap.size 116 2 v' l.length (overCells l) ∧ Below w.heap.size w w' := by
  rcases slice_addr h with ⟨n, c, rfl, rfl⟩ | ⟨ad, c, rfl, rfl⟩ | ⟨b, off, c, rfl, hat⟩
  · refine (clone120_nil n c w).mono ?_
    rintro e w' ⟨rfl, rfl⟩
    exact ⟨_, rfl, nil_row _ _ _ _, Below.refl _ _⟩
  · exact clone120 ad 0 c [] w rfl (fun j u h => by simp at h) (fun u h => by simp at h) (by omega)
  · refine clone120 ⟨b, off, none⟩ l.length c (overCells l) w (by unfold overCells; exact cells_len (sz := 2) (fun _ => rfl) l) (fun j u hj => ?_) (fun u hu => ?_) hl
    · have hlen := (List.getElem?_eq_some_iff.1 hj).1
      unfold overCells at hlen hj
      rw [cells_len (sz := 2) (fun _ => rfl)] at hlen
      have hi : j / 2 < l.length := by omega
      have hp := hat (j / 2) l[j / 2] (List.getElem?_eq_getElem hi)
      rw [add_addr]
      have e0 : j = j / 2 * 2 + j % 2 := by omega
      rw [e0, flat_get (sz := 2) (fun _ => rfl) l (j / 2) (j % 2) hi (by omega)] at hj
      rcases (show j % 2 = 0 ∨ j % 2 = 1 by omega) with h2 | h2
      · rw [h2] at hj; simp at hj; subst hj
        have := hp.1
        rwa [show off + j / 2 * 2 = off + j by omega] at this
      · rw [h2] at hj; simp at hj; subst hj
        have := hp.2
        rwa [show off + j / 2 * 2 + 1 = off + j by omega] at this
    · unfold overCells at hu
      obtain ⟨p, _, hp⟩ := List.mem_flatMap.1 hu
      simp at hp
      rcases hp with rfl | rfl <;> rfl
theorem meths_mv {W : World} {v : Value} {l : List MethD} (h : SliceOf 5 (MethAt W) v l) : ∃ M : List MV, M.map (·.1) = l ∧ (∀ x ∈ M, MethV W x.2.1 x.2.2 x.1) ∧ ∀ b off c, v = .slice (some ⟨b, off, none⟩) l.length c → ∀ i (hi : i < M.length) k u, (mvC M[i])[k]? = some u → W.cell? ⟨b, off + i * 5 + k, none⟩ = some u := by
  obtain ⟨o, cap, rfl, h1, h2, h3⟩ := h
  obtain ⟨M, hl, hM⟩ := choose_list (P := fun i (x : MV) => ∀ hi : i < l.length, x.1 = l[i] ∧ MethV W x.2.1 x.2.2 x.1 ∧ ∀ b off c, (Value.slice o l.length cap) = .slice (some ⟨b, off, none⟩) l.length c → ∀ k u, (mvC x)[k]? = some u → W.cell? ⟨b, off + i * 5 + k, none⟩ = some u) l.length (fun i hi => by
    obtain ⟨b, off, rfl, va, vr, hv, m0, m1, m2, m3, m4⟩ := h3 i l[i] (List.getElem?_eq_getElem hi)
    refine ⟨(l[i], va, vr), fun _ => ⟨rfl, hv, fun b' off' c' e k u hk => ?_⟩⟩
    cases e
    match k with
    | 0 => simp [mvC] at hk; subst hk; exact m0
    | 1 => simp [mvC] at hk; subst hk; exact m1
    | 2 => simp [mvC] at hk; subst hk; exact m2
    | 3 => simp [mvC] at hk; subst hk; exact m3
    | 4 => simp [mvC] at hk; subst hk; exact m4
    | k + 5 => simp [mvC] at hk)
  refine ⟨M, ?_, ?_, ?_⟩
  · apply List.ext_getElem (by simpa using hl)
    intro i a1 a2
    rw [List.getElem_map]
    exact (hM i (by omega) a2).1
  · intro x hx
    obtain ⟨i, hi, rfl⟩ := List.mem_iff_getElem.1 hx
    exact (hM i hi (by omega)).2.1
  · intro b off c e i hi k u hk
    exact (hM i hi (by omega)).2.2 b off c e k u hk
theorem methV_one {W : World} {x : MV} (h : MethV W x.2.1 x.2.2 x.1) : ∀ u ∈ mvC x, u.oneCell' = true := by
  obtain ⟨o1, c1, e1⟩ := h.args.form
  obtain ⟨o2, c2, e2⟩ := h.raises.form
  intro u hu
  unfold mvC at hu
  rw [e1, e2] at hu
  simp at hu
  rcases hu with rfl | rfl | rfl | rfl | rfl <;> rfl
theorem clone_meths (v : Value) (l : List MethD) (w0 w : World) (hh : Go.Proofs.YteaokkaidcbdlaaGreatDoor.Holds w0 w) (h : SliceOf 5 (MethAt w0) v l) (hl : l.length ≤ 100000) :
    Calls Tryz.prog 121 #[v] w fun e w' => ∃ v' M, e = .returned v' ∧ M.map (·.1) = l ∧ (∀ x ∈ M, MethV w0 x.2.1 x.2.2 x.1) ∧ w'.ownsRow w.heap.size 74 5 v' l.length (mvCells M) ∧ Below w.heap.size w w' := by
  obtain ⟨M, hM, hV, hC⟩ := meths_mv h
  have hMl : M.length = l.length := by rw [← hM]; simp
  rcases slice_addr h with ⟨n, c, rfl, rfl⟩ | ⟨ad, c, rfl, rfl⟩ | ⟨b, off, c, rfl, hat⟩
  · refine (clone121_nil n c w).mono ?_
    rintro e w' ⟨rfl, rfl⟩
    exact ⟨_, [], rfl, rfl, fun x hx => by simp at hx, nil_row _ _ _ _, Below.refl _ _⟩
  · refine (clone121 ad 0 c [] w rfl (fun j u h => by simp at h) (fun u h => by simp at h) (by omega)).mono ?_
    rintro e w' ⟨v', rfl, hr, hb⟩
    exact ⟨v', [], rfl, rfl, fun x hx => by simp at hx, hr, hb⟩
  · refine (clone121 ⟨b, off, none⟩ l.length c (mvCells M) w (by rw [← hMl]; unfold mvCells; exact cells_len (sz := 5) (fun _ => rfl) M) (fun j u hj => ?_) (fun u hu => ?_) hl).mono ?_
    · have hlen := (List.getElem?_eq_some_iff.1 hj).1
      unfold mvCells at hlen hj
      rw [cells_len (sz := 5) (fun _ => rfl)] at hlen
      have hi : j / 5 < M.length := by omega
      rw [add_addr]
      have e0 : j = j / 5 * 5 + j % 5 := by omega
      rw [e0, flat_get (sz := 5) (fun _ => rfl) M (j / 5) (j % 5) hi (by omega)] at hj
      have := hh _ _ (hC b off c rfl (j / 5) hi (j % 5) u hj)
      rwa [show off + j / 5 * 5 + j % 5 = off + j by omega] at this
    · unfold mvCells at hu
      obtain ⟨p, hp, hu⟩ := List.mem_flatMap.1 hu
      exact methV_one (hV p hp) u hu
    · rintro e w' ⟨v', rfl, hr, hb⟩
      exact ⟨v', M, rfl, hM, hV, hr, hb⟩
theorem clone_ints (v : Value) (l : List Int) (w : World) (h : SliceOf 1 (IntAt w) v l) (hl : l.length ≤ 100000) :
    Calls Tryz.prog 122 #[v] w fun e w' => ∃ v', e = .returned v' ∧ w'.ownsRow w.heap.size 3 1 v' l.length (l.map (.int .i64)) ∧ Below w.heap.size w w' := by
  rcases slice_addr h with ⟨n, c, rfl, rfl⟩ | ⟨ad, c, rfl, rfl⟩ | ⟨b, off, c, rfl, hat⟩
  · refine (Tryz.slices_Clone_int_nil n c w).mono ?_
    rintro e w' ⟨rfl, rfl⟩
    exact ⟨_, rfl, nil_row _ _ _ _, Below.refl _ _⟩
  · refine (Tryz.slices_Clone_int_zero ad c w).mono ?_
    rintro e w' ⟨v', rfl, hr, _, hb⟩
    exact ⟨v', rfl, hr, hb⟩
  · refine (Tryz.slices_Clone_int b off l.length c l w (Nat.le_refl _) (by omega) (fun j hj => ?_)).mono ?_
    · have := hat j l[j] (List.getElem?_eq_getElem hj)
      unfold IntAt at this
      rw [Nat.mul_one] at this
      rw [this, List.getD_eq_getElem?_getD, List.getElem?_eq_getElem hj]; rfl
    · rintro e w' ⟨v', rfl, hr, _, hb⟩
      rw [List.take_length] at hr
      exact ⟨v', rfl, hr, hb⟩
theorem clone_strs (v : Value) (l : List ByteArray) (w : World) (h : SliceOf 1 (StrAt w) v l) (hl : l.length ≤ 100000) :
    Calls Tryz.prog 123 #[v] w fun e w' => ∃ v', e = .returned v' ∧ w'.ownsRow w.heap.size 9 1 v' l.length (l.map .string) ∧ Below w.heap.size w w' := by
  rcases slice_addr h with ⟨n, c, rfl, rfl⟩ | ⟨ad, c, rfl, rfl⟩ | ⟨b, off, c, rfl, hat⟩
  · refine (Tryz.slices_Clone_string_nil n c w).mono ?_
    rintro e w' ⟨rfl, rfl⟩
    exact ⟨_, rfl, nil_row _ _ _ _, Below.refl _ _⟩
  · refine (Tryz.slices_Clone_string_zero ad c w).mono ?_
    rintro e w' ⟨v', rfl, hr, _, hb⟩
    exact ⟨v', rfl, hr, hb⟩
  · refine (Tryz.slices_Clone_string b off l.length c l w (Nat.le_refl _) (by omega) (fun j hj => ?_)).mono ?_
    · have := hat j l[j] (List.getElem?_eq_getElem hj)
      unfold StrAt at this
      rw [Nat.mul_one] at this
      rw [this, List.getD_eq_getElem?_getD, List.getElem?_eq_getElem hj]; rfl
    · rintro e w' ⟨v', rfl, hr, _, hb⟩
      rw [List.take_length] at hr
      exact ⟨v', rfl, hr, hb⟩
end Go.Proofs.YteaokkaidcbdlaaGreatDoor

