/- Part 48 of 53: the texts Vr, one behind the other. -/
import Derived.Test.YteaokkaidcbdlaaGreatDoorJ47
import Derived.Tactics
import Derived.Tactics2
import Derived.WalkKit
import Derived.LoopTactic
import Derived.Outline
import Derived.Lib.Hide
import Derived.Handy
import Derived.KernelRfl
import Derived.Deep.LoopGhost
import Derived.CallsIn
import Derived.Deep.QuietTactic
import Derived.BigQuiet
import Derived.Deep.Draws
import Derived.WalkSpells
import Derived.Lib.Walk
import Derived.Lib.Strings
import Derived.Maps.OwnOps
import Derived.Maps.OwnSet
import Derived.Deep.RegionWith
import Derived.StillTailTactics
import Derived.WalkMore
import Derived.RangeFuncNested
import Derived.RangeFuncBound
import Derived.RangeFuncCalls
import Derived.RangeFuncLeaves
import Derived.RangeFuncBox
import Derived.Shelf.Abstract
import Derived.OwnWalkIn
import Derived.TacticsInMore
import Derived.LoopNIn
import Derived.LoopIn
import Derived.RecoverIn
import Derived.Maps.AppendAt
import Derived.RegionTactic
import Derived.ChangeAlike
import Derived.OwnWalk
import Derived.Deep.AppendLies
import Derived.Deep.DeepCutAuto
import Derived.Deep.RegionLaw
import Derived.Deep.RegionHeld3
import Derived.Laws.EntriesVeiled
namespace Go.Proofs.YteaokkaidcbdlaaGreatDoor
open Go Go.RowKit Go.Shelf
theorem empty_bs {s : ByteArray} (h : (bs s).isEmpty = true) : bs s = [] := List.isEmpty_iff.1 h
theorem all_nil {p : UInt8 → Bool} {l : List UInt8} (h : l = []) : l.all p = true := by rw [h]; rfl
theorem name_al {l : List UInt8} (h : nameB l = true) : l.all alC = true := by
  unfold nameB at h
  split at h
  · cases h
  · simp only [Bool.and_eq_true] at h
    exact h.2
theorem spn_stop (p : Int → Bool) : ∀ (l : List UInt8) (h : spn p l < l.length), p (l[spn p l]).toNat = false
  | [], h => by simp [spn] at h
  | c :: l, h => by
    by_cases hc : p c.toNat = true
    · have e : spn p (c :: l) = spn p l + 1 := by show (if p c.toNat = true then _ else _) = _; rw [if_pos hc]
      have hl : spn p l < l.length := by rw [e] at h; simpa using h
      have := spn_stop p l hl
      simp only [e, List.getElem_cons_succ]
      exact this
    · have e : spn p (c :: l) = 0 := by unfold spn; rw [if_neg hc]
      simp only [e, List.getElem_cons_zero]
      simpa using hc
theorem sym_sy {l : List UInt8} (h : symB l = true) : l.all syC = true := by
  unfold symB at h
  simp only [Bool.and_eq_true, decide_eq_true_eq] at h
  obtain ⟨h0, h1, h2⟩ := h
  have a1 := all_imp (q := syC) (fun c hc => by unfold syC; rw [hc]; rfl) (name_al h1)
  have a2 := all_imp (q := syC) (fun c hc => by unfold syC; rw [hc]; rfl) (name_al h2)
  have hd : decide (((l[spn ndB l]).toNat : Int) ≠ 46) = false := spn_stop ndB l h0
  rw [← List.take_append_drop (spn ndB l) l, List.all_append, a1, Bool.true_and, List.drop_eq_getElem_cons h0, List.all_cons, a2, Bool.and_true]
  have hd := Classical.not_not.1 (of_decide_eq_false hd)
  unfold syC
  rw [Bool.or_eq_true, decide_eq_true_iff]
  right
  omega
theorem exc_sy {l : List UInt8} (h : excB l = true) : l.all syC = true := by
  unfold excB at h
  rw [Bool.or_eq_true] at h
  rcases h with h | h
  · rw [eq_of_beq h]; decide
  · exact sym_sy h
theorem brand_br {t : TyD} (h : brandedB t = true) : (bs t.brand).all brC = true ∧ (t.branded = false → bs t.brand = []) := by
  unfold brandedB brandB at h
  simp only [Bool.and_eq_true, Bool.or_eq_true] at h
  exact ⟨h.1.2, fun e => by rcases h.2 with h | h; rw [e] at h; cases h; exact empty_bs h⟩
theorem meth_ln {n : Nat} {m : MethD} (h : methB n m = true) (hname : nameB (bs m.name) = true) : MLn m := by
  unfold methB sigB at h
  simp only [Bool.and_eq_true, decide_eq_true_eq, Bool.or_eq_true, List.all_eq_true] at h
  obtain ⟨⟨⟨ha, hr⟩, hargs, hres, hrs⟩, hproc⟩ := h
  refine ⟨name_al hname, ?_, ?_, fun r hrm => ?_⟩
  · rcases hproc with h | h
    · exact all_nil (empty_bs h)
    · exact sym_sy h
  · rcases hres with h | h
    · exact .inl h
    · exact .inr (idxB_iff.1 h).1
  · obtain ⟨k, hk, rfl⟩ := List.mem_iff_getElem.1 hrm
    have := hrs k (List.mem_range.2 hk)
    unfold raisesAt at this
    rw [List.getElem?_eq_getElem hk] at this
    simp only [Bool.and_eq_true] at this
    exact exc_sy this.1
theorem bare_br {t : TyD} {n : Nat} (h : bareB t n = true) : t.branded = false := by
  unfold bareB at h
  simp only [Bool.and_eq_true] at h
  simpa using h.1.1.2.1
theorem size_bs {s : ByteArray} (h : s.size = 0) : bs s = [] := List.length_eq_zero_iff.1 (by rw [bs_len]; exact h)
theorem overs_nil {t : TyD} (h : t.overs.length = 0) : t.overs = [] := List.eq_nil_of_length_eq_zero h
theorem tyB_ln {G : List TyD} {t : TyD} (h : tyB G t = true) : TLn t := by
  have hr : 1 ≤ t.kind ∧ t.kind ≤ 13 := Classical.not_not.1 fun hn => by rw [tyB_no hn] at h; cases h
  have fld : fieldsB G.length t = true → ∀ p ∈ t.parts, (bs p.name).all alC = true := fun h p hp => by
    unfold fieldsB namedB at h
    simp only [Bool.and_eq_true] at h
    exact name_al (namedFrom_all _ [] h.2.1.2 _ (List.mem_map_of_mem hp))
  have prt : partB G.length t = true → ∀ p ∈ t.parts, (bs p.name).all alC = true := fun hp x hx => by
    unfold partB at hp
    split at hp
    · rename_i p hpe
      rw [Bool.and_eq_true] at hp
      rw [hpe, List.mem_singleton] at hx
      subst hx
      exact all_nil (empty_bs hp.1)
    · cases hp
  have z0 : ∀ {l : List PartD}, l = [] → ∀ p ∈ l, (bs p.name).all alC = true := fun e p hp => by rw [e] at hp; cases hp
  have z1 : ∀ {l : List MethD}, l = [] → ∀ p ∈ l, MLn p := fun e p hp => by rw [e] at hp; cases hp
  have z2 : ∀ {l : List OverD}, l = [] → ∀ p ∈ l, (bs p.name).all alC = true ∧ (bs p.proc).all syC = true := fun e p hp => by rw [e] at hp; cases hp
  unfold tyB at h
  rcases (show t.kind = 3 ∨ (t.kind = 9 ∨ t.kind = 11) ∨ t.kind = 10 ∨ t.kind = 12 ∨ t.kind = 13 ∨ (t.kind ≠ 3 ∧ t.kind ≠ 9 ∧ t.kind ≠ 10 ∧ t.kind ≠ 11 ∧ t.kind ≠ 12 ∧ t.kind ≠ 13) by omega) with e | e | e | e | e | e
  · simp only [e, Bool.and_eq_true] at h
    have b := bare_ok h.2
    have br := bare_br h.2
    obtain ⟨-, -, q3, q4, q5, q6⟩ := b
    simp only at q3 q4 q5 br
    have p0 := parts_nil (t := t) (by omega)
    have m0 := meths_nil (t := t) (by omega)
    have o0 := overs_nil (t := t) (by omega)
    exact ⟨fun k => (k e).elim, all_nil (size_bs q3), fun _ => size_bs q3, fun _ _ _ _ => br, all_nil (size_bs q4), fun _ => size_bs q4, fun _ _ => q5, z0 p0, fun _ _ _ _ => p0, z1 m0, fun _ => m0, z2 o0, fun _ => o0⟩
  · have h : ((brandedB t && partB G.length t) && bareB { t with branded := false, brand := ⟨#[]⟩ } (0 + t.meths.length + t.overs.length)) = true := by
      rcases e with e | e <;> (simp only [e] at h; exact h)
    simp only [Bool.and_eq_true] at h
    obtain ⟨⟨hbr, hp⟩, h⟩ := h
    obtain ⟨q1, q2, q3, q4, q5, q6⟩ := bare_ok h
    simp only at q1 q2 q4 q5
    have m0 := meths_nil (t := t) (by omega)
    have o0 := overs_nil (t := t) (by omega)
    exact ⟨fun _ => ⟨q1, q2⟩, (brand_br hbr).1, (brand_br hbr).2, fun k1 _ k2 _ => by omega, all_nil (size_bs q4), fun _ => size_bs q4, fun _ _ => q5, prt hp, fun k1 _ k2 _ => by omega, z1 m0, fun _ => m0, z2 o0, fun _ => o0⟩
  · simp only [e, Bool.and_eq_true] at h
    obtain ⟨⟨hbr, hp⟩, h⟩ := h
    obtain ⟨q1, q2, q3, q4, q5, q6⟩ := bare_ok h
    simp only at q1 q2 q4 q5
    have m0 := meths_nil (t := t) (by omega)
    have o0 := overs_nil (t := t) (by omega)
    exact ⟨fun _ => ⟨q1, q2⟩, (brand_br hbr).1, (brand_br hbr).2, fun _ k1 _ _ => by omega, all_nil (size_bs q4), fun _ => size_bs q4, fun _ _ => q5, fld hp, fun _ k1 _ _ => by omega, z1 m0, fun _ => m0, z2 o0, fun _ => o0⟩
  · simp only [e, Bool.and_eq_true] at h
    obtain ⟨⟨⟨⟨⟨hbr, hsu⟩, hp⟩, hm⟩, ho⟩, h⟩ := h
    obtain ⟨q1, q2, q3, q4, q5, q6⟩ := bare_ok h
    simp only at q1 q2 q4
    have hmm : ∀ m ∈ t.meths, MLn m := fun m hmm => by
      unfold methsB namedB at hm
      simp only [Bool.and_eq_true, List.all_eq_true] at hm
      exact meth_ln (hm.2 m hmm) (namedFrom_all _ [] hm.1.2 _ (List.mem_map_of_mem hmm))
    have hoo : ∀ p ∈ t.overs, (bs p.name).all alC = true ∧ (bs p.proc).all syC = true := fun p hpp => by
      unfold oversB namedB at ho
      simp only [Bool.and_eq_true, List.all_eq_true] at ho
      exact ⟨name_al (namedFrom_all _ [] ho.1.2 _ (List.mem_map_of_mem hpp)), sym_sy (ho.2 p hpp)⟩
    exact ⟨fun _ => ⟨q1, q2⟩, (brand_br hbr).1, (brand_br hbr).2, fun _ _ _ k => (k e).elim, all_nil (size_bs q4), fun _ => size_bs q4, fun k _ => (k e).elim, fld hp, fun _ _ _ k => (k e).elim, hmm, fun k => (k e).elim, hoo, fun k => (k e).elim⟩
  · simp only [e, Bool.and_eq_true] at h
    obtain ⟨⟨hop, hsu⟩, h⟩ := h
    have br := bare_br h
    obtain ⟨q1, q2, q3, q4, q5, q6⟩ := bare_ok h
    simp only at q1 q2 q3 br
    have p0 := parts_nil (t := t) (by omega)
    have m0 := meths_nil (t := t) (by omega)
    have o0 := overs_nil (t := t) (by omega)
    exact ⟨fun _ => ⟨q1, q2⟩, all_nil (size_bs q3), fun _ => size_bs q3, fun _ _ _ _ => br, sym_sy hop, fun k => (k e).elim, fun _ k => (k e).elim, z0 p0, fun _ _ _ _ => p0, z1 m0, fun _ => m0, z2 o0, fun _ => o0⟩
  · have h : bareB t (t.parts.length + t.meths.length + t.overs.length) = true := by
      split at h
      all_goals first | omega | exact h | cases h
    have br := bare_br h
    obtain ⟨q1, q2, q3, q4, q5, q6⟩ := bare_ok h
    have p0 := parts_nil (t := t) (by omega)
    have m0 := meths_nil (t := t) (by omega)
    have o0 := overs_nil (t := t) (by omega)
    exact ⟨fun _ => ⟨q1, q2⟩, all_nil (size_bs q3), fun _ => size_bs q3, fun _ _ _ _ => br, all_nil (size_bs q4), fun _ => size_bs q4, fun _ _ => q5, z0 p0, fun _ _ _ _ => p0, z1 m0, fun _ => m0, z2 o0, fun _ => o0⟩
theorem map_ln {f : Int → Int} (hf : ∀ x, 0 ≤ f x) {t : TyD} (h : TLn t) : TLn (mapTy f t) := by
  refine ⟨h.bnd, h.brand, h.noBrand, h.noBr, h.opq, h.noOpq, fun k1 k2 => ?_, fun p hp => ?_, fun k1 k2 k3 k4 => ?_, fun m hm => ?_, fun k => ?_, h.overs, h.noO⟩
  · have : (mapTy f t).super = t.super := by
      have k1 : t.kind ≠ 12 := k1
      have k2 : t.kind ≠ 13 := k2
      unfold mapTy supB; simp [k1, k2]
    rw [this]; exact h.noSup k1 k2
  · obtain ⟨q, hq, rfl⟩ := List.mem_map.1 (show p ∈ t.parts.map (fun p => { p with type := f p.type }) from hp)
    exact h.parts q hq
  · show t.parts.map _ = []
    rw [h.noP k1 k2 k3 k4]; rfl
  · obtain ⟨q, hq, rfl⟩ := List.mem_map.1 (show m ∈ t.meths.map (mapM f) from hm)
    have := h.meths q hq
    refine ⟨this.name, this.proc, ?_, this.raises⟩
    unfold mapM
    simp only
    split
    · exact .inl rfl
    · exact .inr (hf _)
  · show t.meths.map _ = []
    rw [h.noM k]; rfl
end Go.Proofs.YteaokkaidcbdlaaGreatDoor

