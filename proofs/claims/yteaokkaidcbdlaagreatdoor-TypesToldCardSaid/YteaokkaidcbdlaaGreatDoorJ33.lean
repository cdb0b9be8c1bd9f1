/- Part 33 of 53: the texts Tu, Yk, Za, one behind the other. -/
import Derived.Test.YteaokkaidcbdlaaGreatDoorJ26
import Derived.Test.YteaokkaidcbdlaaGreatDoorJ31
import Derived.Tactics
import Derived.Tactics2
import Derived.WalkKit
import Derived.LoopTactic
import Derived.Outline
import Derived.Lib.Hide
import Derived.Handy
import Derived.KernelRfl
import Derived.Deep.LoopGhost
import Derived.CallsIn
import Derived.Deep.QuietTactic
import Derived.BigQuiet
import Derived.Deep.Draws
import Derived.WalkSpells
import Derived.Lib.Walk
import Derived.Lib.Strings
import Derived.Maps.OwnOps
import Derived.Maps.OwnSet
import Derived.Deep.RegionWith
import Derived.StillTailTactics
import Derived.WalkMore
import Derived.RangeFuncNested
import Derived.RangeFuncBound
import Derived.RangeFuncCalls
import Derived.RangeFuncLeaves
import Derived.RangeFuncBox
import Derived.Shelf.Abstract
import Derived.OwnWalkIn
import Derived.TacticsInMore
import Derived.LoopNIn
import Derived.LoopIn
import Derived.RecoverIn
import Derived.Maps.AppendAt
import Derived.RegionTactic
import Derived.ChangeAlike
import Derived.OwnWalk
import Derived.Deep.AppendLies
import Derived.Deep.DeepCutAuto
import Derived.Deep.RegionLaw
import Derived.Deep.RegionHeld3
import Derived.Laws.EntriesVeiled
import Derived.Test.YteaokkaidcbdlaaGreatDoorJ30
import Derived.Test.YteaokkaidcbdlaaGreatDoorJ21
import Derived.Test.YteaokkaidcbdlaaGreatDoorJ18
namespace Go.Proofs.YteaokkaidcbdlaaGreatDoor
open Go Go.RowKit Go.Shelf
def mapM (tf : Int → Int) (m : MethD) : MethD := { m with args := m.args.map tf, result := if m.result = -1 then -1 else tf m.result }
def mapTy (tf : Int → Int) (t : TyD) : TyD :=
  { t with super := if supB t.kind then tf t.super else t.super, parts := t.parts.map (fun p => { p with type := tf p.type }), meths := t.meths.map (mapM tf) }
def setAll (f : Addr → Value) (w : World) (l : List Addr) : World := l.foldl (fun w a => w.setCell a (f a)) w
theorem setAll_snoc (f : Addr → Value) (w : World) (l : List Addr) (a : Addr) : setAll f w (l ++ [a]) = (setAll f w l).setCell a (f a) := by unfold setAll; rw [List.foldl_append]; rfl
theorem setAll_other {f : Addr → Value} {b : Addr} : ∀ (l : List Addr) (w : World), b ∉ l → (setAll f w l).cell? b = w.cell? b
  | [], _, _ => rfl
  | a :: l, w, h => by
    have h1 : a ≠ b := fun e => h (by rw [e]; simp)
    exact (setAll_other l _ (fun e => h (by simp [e]))).trans (World.cell?_setCell_other _ _ _ _ h1)
theorem setAll_in {f : Addr → Value} {b : Addr} : ∀ (l : List Addr) (w : World), l.Nodup → b ∈ l → (w.cell? b).isSome = true → (setAll f w l).cell? b = some (f b)
  | a :: l, w, hn, h, hs => by
    rw [List.nodup_cons] at hn
    rcases List.mem_cons.1 h with rfl | h
    · exact (setAll_other l _ hn.1).trans (World.cell?_setCell_same' _ _ _ hs)
    · have h1 : a ≠ b := fun e => hn.1 (by rw [e]; exact h)
      refine setAll_in l _ hn.2 h ?_
      rw [World.cell?_setCell_other _ _ _ _ h1]; exact hs
theorem Holds.set {A B : World} {a : Addr} {v : Value} (h : Holds A B) (hs : (A.cell? a).isSome = true) : Holds (A.setCell a v) (B.setCell a v) := by
  intro b u hb
  by_cases e : a = b
  · subst e
    rw [World.cell?_setCell_same' _ _ _ hs] at hb
    obtain ⟨x, hx⟩ := Option.isSome_iff_exists.1 hs
    rw [World.cell?_setCell_same' _ _ _ (by rw [h _ _ hx]; rfl)]
    exact hb
  · rw [World.cell?_setCell_other _ _ _ _ e] at hb
    rw [World.cell?_setCell_other _ _ _ _ e]
    exact h _ _ hb
theorem mem_argAts {b off n : Nat} {a : Addr} : a ∈ argAts (some ⟨b, off, none⟩) n ↔ ∃ i, i < n ∧ a = ⟨b, off + i, none⟩ := by
  unfold argAts; simp [eq_comm]
theorem mem_partAts {b off n : Nat} {a : Addr} : a ∈ partAts (some ⟨b, off, none⟩) n ↔ ∃ i, i < n ∧ a = ⟨b, off + i * 2 + 1, none⟩ := by
  unfold partAts; simp [eq_comm]
theorem argAts_nodup {b off n : Nat} : (argAts (some ⟨b, off, none⟩) n).Nodup := by
  unfold argAts
  rw [List.Nodup, List.pairwise_map]
  refine List.Pairwise.imp ?_ List.nodup_range
  intro i j h e
  simp at e; omega
theorem partAts_nodup {b off n : Nat} : (partAts (some ⟨b, off, none⟩) n).Nodup := by
  unfold partAts
  rw [List.Nodup, List.pairwise_map]
  refine List.Pairwise.imp ?_ List.nodup_range
  intro i j h e
  simp at e; omega
theorem argAts_zero (o : Option Addr) : argAts o 0 = [] := rfl
theorem partAts_zero (o : Option Addr) : partAts o 0 = [] := rfl
theorem mem_sigAts {s : SigD} {b k : Nat} {a : Addr} (h : a ∈ sigAts s.o s.n b k s.res) (ho : 0 < s.n → ∃ ab aoff, s.o = some ⟨ab, aoff, none⟩) : (∃ ab aoff i, s.o = some ⟨ab, aoff, none⟩ ∧ i < s.n ∧ a = ⟨ab, aoff + i, none⟩) ∨ (s.res ≠ -1 ∧ a = ⟨b, k + 1, none⟩) := by
  unfold sigAts at h
  rw [List.mem_append] at h
  rcases h with h | h
  · by_cases h0 : 0 < s.n
    · obtain ⟨ab, aoff, e⟩ := ho h0
      rw [e] at h
      obtain ⟨i, hi, rfl⟩ := mem_argAts.1 h
      exact .inl ⟨ab, aoff, i, e, hi, rfl⟩
    · rw [show s.n = 0 by omega, argAts_zero] at h; simp at h
  · split at h
    · simp at h
    · rename_i hr
      exact .inr ⟨hr, by simpa using h⟩
theorem mem_methAts {mb moff : Nat} {S : List SigD} {a : Addr} (ho : ∀ s ∈ S, 0 < s.n → ∃ ab aoff, s.o = some ⟨ab, aoff, none⟩) : ∀ m, m ≤ S.length → a ∈ methAts (some ⟨mb, moff, none⟩) S m →
    ∃ i, ∃ h : i < S.length, i < m ∧ ((∃ ab aoff j, S[i].o = some ⟨ab, aoff, none⟩ ∧ j < S[i].n ∧ a = ⟨ab, aoff + j, none⟩) ∨ (S[i].res ≠ -1 ∧ a = ⟨mb, moff + i * 5 + 1 + 1, none⟩))
  | 0, _, h => by simp [methAts] at h
  | m + 1, hm, h => by
    rw [methAts_succ _ _ _ _ (by omega), List.mem_append] at h
    rcases h with h | h
    · obtain ⟨i, hi, hlt, hr⟩ := mem_methAts ho m (by omega) h
      exact ⟨i, hi, by omega, hr⟩
    · exact ⟨m, by omega, by omega, mem_sigAts h (ho _ (List.getElem_mem _))⟩
theorem in_sigAts_arg {s : SigD} {b k ab aoff j : Nat} (ho : s.o = some ⟨ab, aoff, none⟩) (hj : j < s.n) : (⟨ab, aoff + j, none⟩ : Addr) ∈ sigAts s.o s.n b k s.res := by
  unfold sigAts
  rw [List.mem_append, ho]
  exact .inl (mem_argAts.2 ⟨j, hj, rfl⟩)
theorem in_sigAts_res {s : SigD} {b k : Nat} (hr : s.res ≠ -1) : (⟨b, k + 1, none⟩ : Addr) ∈ sigAts s.o s.n b k s.res := by
  unfold sigAts
  rw [List.mem_append, if_neg hr]
  exact .inr (by simp)
theorem in_methAts {mb moff : Nat} {S : List SigD} {a : Addr} {i : Nat} (hi : i < S.length) (h : a ∈ sigAts S[i].o S[i].n mb (moff + i * 5 + 1) S[i].res) : a ∈ methAts (some ⟨mb, moff, none⟩) S S.length := by
  have h1 := methAts_pre (some ⟨mb, moff, none⟩) S (show i + 1 ≤ S.length by omega)
  refine h1.subset ?_
  rw [methAts_succ _ _ _ _ hi, List.mem_append]
  exact .inr h
theorem methAts_nodup {mb moff : Nat} {S : List SigD} (ho : ∀ s ∈ S, 0 < s.n → ∃ ab aoff, s.o = some ⟨ab, aoff, none⟩ ∧ ab ≠ mb)
    (hd : ∀ i j (hi : i < S.length) (hj : j < S.length), i < j → ∀ ab aoff ab' aoff', 0 < S[i].n → 0 < S[j].n → S[i].o = some ⟨ab, aoff, none⟩ → S[j].o = some ⟨ab', aoff', none⟩ → ab ≠ ab') : ∀ m, m ≤ S.length → (methAts (some ⟨mb, moff, none⟩) S m).Nodup
  | 0, _ => by simp [methAts]
  | m + 1, hm => by
    have ih := methAts_nodup (moff := moff) ho hd m (by omega)
    have ho' : ∀ s ∈ S, 0 < s.n → ∃ ab aoff, s.o = some ⟨ab, aoff, none⟩ := fun s hs h => by obtain ⟨ab, aoff, e, _⟩ := ho s hs h; exact ⟨ab, aoff, e⟩
    rw [methAts_succ _ _ _ _ (by omega), List.nodup_append]
    refine ⟨ih, ?_, ?_⟩
    · unfold sigAts
      by_cases h0 : 0 < S[m].n
      · obtain ⟨ab, aoff, e, hne⟩ := ho _ (List.getElem_mem (by omega : m < S.length)) h0
        rw [e, List.nodup_append]
        refine ⟨argAts_nodup, by split <;> simp, fun x hx y hy e => ?_⟩
        obtain ⟨j, hj, rfl⟩ := mem_argAts.1 hx
        split at hy
        · simp at hy
        · simp at hy; subst hy
          exact hne (congrArg Addr.block e)
      · rw [show S[m].n = 0 by omega, argAts_zero, List.nil_append]
        split <;> simp
    · intro x hx y hy e
      subst e
      obtain ⟨i, hi, hlt, h1⟩ := mem_methAts ho' m (by omega) hx
      have h2 := mem_sigAts hy (ho' _ (List.getElem_mem (by omega : m < S.length)))
      rcases h1 with ⟨ab, aoff, j, e1, hj, rfl⟩ | ⟨_, rfl⟩
      · rcases h2 with ⟨ab', aoff', j', e2, hj', e3⟩ | ⟨_, e3⟩
        · exact hd i m hi (by omega) hlt ab aoff ab' aoff' (by omega) (by omega) e1 e2 (congrArg Addr.block e3)
        · obtain ⟨ab2, aoff2, e4, hne⟩ := ho _ (List.getElem_mem hi) (by omega)
          rw [e1] at e4; cases e4
          exact hne (congrArg Addr.block e3)
      · rcases h2 with ⟨ab', aoff', j', e2, hj', e3⟩ | ⟨_, e3⟩
        · obtain ⟨ab2, aoff2, e4, hne⟩ := ho _ (List.getElem_mem (by omega : m < S.length)) (by omega)
          rw [e2] at e4; cases e4
          exact hne (congrArg Addr.block e3).symm
        · simp at e3
end Go.Proofs.YteaokkaidcbdlaaGreatDoor

namespace Go.Proofs.YteaokkaidcbdlaaGreatDoor
open Go Go.RowKit Go.Shelf
theorem class_next {G : List TyD} {i j : Nat} (hi : i < G.length) (hj : j < G.length) (h : clF G i = clF G j) :
    agreeB (G.getD i default) (G.getD j default) = true ∧ (refsOf (G.getD i default)).length = (refsOf (G.getD j default)).length ∧
      ∀ k (h1 : k < (refsOf (G.getD i default)).length) (h2 : k < (refsOf (G.getD j default)).length), clF G ((refsOf (G.getD i default))[k]).toNat = clF G ((refsOf (G.getD j default))[k]).toNat := by
  obtain ⟨h1, h2⟩ := class_agree hi hj h
  refine ⟨(agree_key _ _).2 h1, by have := congrArg List.length h2; simpa using this, fun k h3 h4 => ?_⟩
  have := congrArg (fun l => l[k]?) h2
  simp only [List.getElem?_map, List.getElem?_eq_getElem h3, List.getElem?_eq_getElem h4, Option.map_some, Option.some.injEq] at this
  exact this
end Go.Proofs.YteaokkaidcbdlaaGreatDoor

namespace Go.Proofs.YteaokkaidcbdlaaGreatDoor
open Go Go.RowKit Go.Shelf
structure Listed (l : List (Int × Int)) (L : List ((Int × Int) × Value)) : Prop where
  keys : ∀ p, p ∈ L.map (·.1) ↔ p ∈ l
  vals : ∀ p ∈ L, p.2 = .bool true
theorem Listed.none : Listed [] [] := ⟨fun p => by simp, fun p h => by simp at h⟩
theorem Listed.put {l : List (Int × Int)} {L : List ((Int × Int) × Value)} (h : Listed l L) (p : Int × Int) : Listed (l ++ [p]) (putA L p (.bool true)) := by
  refine ⟨fun q => ?_, fun q hq => ?_⟩
  · rw [putA_keys]
    split
    · rename_i hm
      rw [h.keys, List.mem_append, List.mem_singleton]
      refine ⟨.inl, ?_⟩
      rintro (h1 | rfl)
      · exact h1
      · exact (h.keys q).1 hm
    · rw [List.mem_append, List.mem_append, h.keys, List.mem_singleton]
  · unfold putA at hq
    split at hq
    · obtain ⟨r, hr, rfl⟩ := List.mem_map.1 hq
      split
      · rfl
      · exact h.vals r hr
    · rcases List.mem_append.1 hq with h1 | h1
      · exact h.vals q h1
      · rw [List.mem_singleton.1 h1]
end Go.Proofs.YteaokkaidcbdlaaGreatDoor

