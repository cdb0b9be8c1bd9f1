/- What the finders find is of a kind from 1 to 8 and not empty. -/
import Derived.Test.YteknngncnbfbnaaGreatDoorFi
import Derived.Tactics
import Derived.Tactics2
import Derived.WalkKit
import Derived.LoopTactic
import Derived.Outline
import Derived.Lib.Hide
import Derived.Handy
import Derived.KernelRfl
import Derived.Deep.LoopGhost
import Derived.CallsIn
import Derived.Deep.QuietTactic
import Derived.BigQuiet
import Derived.Deep.Draws
import Derived.WalkSpells
import Derived.Lib.Walk
import Derived.Lib.Strings
import Derived.Maps.OwnOps
import Derived.Maps.OwnSet
import Derived.Deep.RegionWith
import Derived.StillTailTactics
import Derived.WalkMore
namespace Go.Proofs.YteknngncnbfbnaaGreatDoor
open Go Go.RowKit

def FinOk (l : List UInt8) (o : Option Pc) : Prop := ∀ kd n, o = some (.ok kd n) → 1 ≤ kd ∧ kd ≤ 8 ∧ 1 ≤ n ∧ n ≤ l.length
theorem spn_pos {p q : Int → Bool} {l : List UInt8} (h : onB p l = true) (hpq : ∀ c, p c = true → q c = true) : 1 ≤ spn q l := by
  cases l with
  | nil => cases h
  | cons c l =>
    unfold spn
    rw [if_pos (hpq _ h)]
    omega
theorem let_aln (c : Int) (h : letB c = true) : alnB c = true := by
  unfold letB at h; unfold alnB
  have := of_decide_eq_true h
  exact decide_eq_true (by omega)
theorem spn_len (p : Int → Bool) (l : List UInt8) (k : Nat) : spn p (l.drop k) ≤ l.length - k := by
  have := spn_le p (l.drop k); rwa [List.length_drop] at this
theorem fin0_ok (l : List UInt8) : FinOk l (fin0 l) := by
  intro kd n h
  unfold fin0 at h
  split at h
  · rename_i hon
    injection h with h; injection h with h1 h2
    have := spn_pos hon (fun _ h => h)
    have := spn_le blkB l
    omega
  · cases h
theorem fin1_ok (l : List UInt8) : FinOk l (fin1 l) := by
  intro kd n h
  unfold fin1 at h
  split at h
  · rename_i hp
    have hl := preB_len hp
    simp at hl
    cases hc : closeL 1 (l.drop 2) with
    | none => rw [hc] at h; injection h with h; cases h
    | some m =>
      rw [hc] at h
      injection h with h; injection h with h1 h2
      have := closeL_le hc
      rw [List.length_drop] at this
      omega
  · cases h
theorem fin2_ok (l : List UInt8) : FinOk l (fin2 l) := by
  intro kd n h
  unfold fin2 at h
  split at h
  · rename_i hp
    have hl := preB_len hp
    simp at hl
    injection h with h
    split at h
    · cases h
    · injection h with h1 h2
      have := index_room (l := l.drop 2) (t := [42, 62]) (by decide) (i := (Lib.index (l.drop 2) [42, 62]).toNat) (by omega)
      rw [List.length_drop] at this
      simp at this
      omega
  · cases h
theorem fin3_ok (l : List UInt8) : FinOk l (fin3 l) := by
  intro kd n h
  unfold fin3 at h
  split at h
  · rename_i hon
    have h1 := spn_pos hon let_aln
    have h2 := spn_le alnB l
    injection h with h
    split at h
    · injection h with h3 h4; omega
    · split at h
      · cases h
      · injection h with h3 h4; omega
  · cases h
theorem numLen_le (l : List UInt8) : numLen l ≤ l.length := by
  unfold numLen
  simp only
  have h0 := spn_le digB l
  split
  · rename_i hp
    have := preB_len hp
    rw [List.length_drop] at this
    simp at this
    have := spn_len alnB l (spn digB l + 1)
    omega
  · exact h0
theorem numLen_ge (l : List UInt8) : spn digB l ≤ numLen l := by
  unfold numLen
  simp only
  split <;> omega
theorem fin4_ok (l : List UInt8) : FinOk l (fin4 l) := by
  intro kd n h
  unfold fin4 at h
  split at h
  · rename_i hon
    have h1 := spn_pos hon (fun _ h => h)
    have h2 := numLen_le l
    have h3 := numLen_ge l
    injection h with h
    split at h
    · cases h
    · injection h with h3 h4; omega
  · cases h
theorem fin5_ok (l : List UInt8) : FinOk l (fin5 l) := by
  intro kd n h
  unfold fin5 at h
  split at h
  · rename_i hp
    injection h with h
    split at h
    · rename_i ht
      injection h with h3 h4
      unfold txtOk at ht
      simp only [Bool.and_eq_true] at ht
      have := preB_len ht.1
      rw [List.length_drop] at this
      simp at this
      omega
    · cases h
  · cases h
theorem fin6_ok (l : List UInt8) : FinOk l (fin6 l) := by
  intro kd n h
  unfold fin6 at h
  split at h
  · cases h
  · rename_i hne
    injection h with h; injection h with h1 h2
    have := preB_len (sgnF_pre signsL l)
    have h3 : 0 < (sgn l).length := List.length_pos_iff.2 hne
    unfold sgn at h3 h2
    omega
theorem firstL_ok {l : List UInt8} {kd n : Nat} (h : firstL l = .ok kd n) : 1 ≤ kd ∧ kd ≤ 8 ∧ 1 ≤ n ∧ n ≤ l.length := by
  unfold firstL at h
  cases h0 : fin0 l with
  | some p => rw [h0] at h; exact fin0_ok l kd n (by rw [h0]; exact congrArg some h)
  | none =>
    rw [h0] at h
    cases h1 : fin1 l with
    | some p => rw [h1] at h; exact fin1_ok l kd n (by rw [h1]; exact congrArg some h)
    | none =>
      rw [h1] at h
      cases h2 : fin2 l with
      | some p => rw [h2] at h; exact fin2_ok l kd n (by rw [h2]; exact congrArg some h)
      | none =>
        rw [h2] at h
        cases h3 : fin3 l with
        | some p => rw [h3] at h; exact fin3_ok l kd n (by rw [h3]; exact congrArg some h)
        | none =>
          rw [h3] at h
          cases h4 : fin4 l with
          | some p => rw [h4] at h; exact fin4_ok l kd n (by rw [h4]; exact congrArg some h)
          | none =>
            rw [h4] at h
            cases h5 : fin5 l with
            | some p => rw [h5] at h; exact fin5_ok l kd n (by rw [h5]; exact congrArg some h)
            | none =>
              rw [h5] at h
              cases h6 : fin6 l with
              | some p => rw [h6] at h; exact fin6_ok l kd n (by rw [h6]; exact congrArg some h)
              | none => rw [h6] at h; cases h
def restO : Nat → List UInt8 → Option Pc
  | 0, l => (fin0 l).or ((fin1 l).or ((fin2 l).or ((fin3 l).or ((fin4 l).or ((fin5 l).or (fin6 l))))))
  | 1, l => (fin1 l).or ((fin2 l).or ((fin3 l).or ((fin4 l).or ((fin5 l).or (fin6 l)))))
  | 2, l => (fin2 l).or ((fin3 l).or ((fin4 l).or ((fin5 l).or (fin6 l))))
  | 3, l => (fin3 l).or ((fin4 l).or ((fin5 l).or (fin6 l)))
  | 4, l => (fin4 l).or ((fin5 l).or (fin6 l))
  | 5, l => (fin5 l).or (fin6 l)
  | 6, l => fin6 l
  | _, _ => none
theorem rest0 (l : List UInt8) : restO 0 l = (fin0 l).or (restO 1 l) := rfl
theorem rest1 (l : List UInt8) : restO 1 l = (fin1 l).or (restO 2 l) := rfl
theorem rest2 (l : List UInt8) : restO 2 l = (fin2 l).or (restO 3 l) := rfl
theorem rest3 (l : List UInt8) : restO 3 l = (fin3 l).or (restO 4 l) := rfl
theorem rest4 (l : List UInt8) : restO 4 l = (fin4 l).or (restO 5 l) := rfl
theorem rest5 (l : List UInt8) : restO 5 l = (fin5 l).or (restO 6 l) := rfl
theorem rest6 (l : List UInt8) : restO 6 l = (fin6 l).or (restO 7 l) := by
  show fin6 l = (fin6 l).or none
  cases fin6 l <;> rfl
theorem Sk.setNew {b : Nat} {w w' : World} (h : Sk b w w') {a : Addr} (ha : w.heap.size ≤ a.block) (v : Value) : Sk b w (w'.setCell a v) :=
  ⟨h.os, h.tape, h.output, by simpa using h.size, fun k hk hb => (Below.heap_setCell _ _ _ _ (by omega)).trans (h.block k hk hb)⟩
theorem Scn.setOther {w : World} {b : Nat} {s : ByteArray} {k fr bm bg c : Nat} (h : Scn w b s k fr bm bg) (h1 : c ≠ b) (h2 : c ≠ bm) (h3 : c ≠ bg) (h4 : 10 ≤ c) (i : Nat) (v : Value) : Scn (w.setCell ⟨c, i, none⟩ v) b s k fr bm bg :=
  ⟨(Below.heap_setCell _ _ _ _ (fun e => h1 e.symm)).trans h.sc, h.ws.heap (Below.heap_setCell _ _ _ _ (fun e => h2 e.symm)), (Below.heap_setCell _ _ _ _ (fun e => h3 e.symm)).trans h.sg, h.nem, h.neg, h.env.setCell h4 _, h.ten⟩
end Go.Proofs.YteknngncnbfbnaaGreatDoor
