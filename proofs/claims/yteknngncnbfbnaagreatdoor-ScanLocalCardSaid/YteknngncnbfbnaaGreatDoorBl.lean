/- Blanks, pragmas and where a comment ends, for sources of at most 20000 bytes; strings.asciiSpace is taken as laid, and of bytealg.MaxLen only that it holds an int. -/
import Derived.Test.YteknngncnbfbnaaGreatDoorFa
import Derived.Tactics
import Derived.Tactics2
import Derived.WalkKit
import Derived.LoopTactic
import Derived.Outline
import Derived.Lib.Hide
import Derived.Handy
import Derived.KernelRfl
import Derived.Deep.LoopGhost
import Derived.CallsIn
import Derived.Deep.QuietTactic
import Derived.BigQuiet
import Derived.Deep.Draws
import Derived.WalkSpells
import Derived.Lib.Walk
import Derived.Lib.Strings
import Derived.Maps.OwnOps
import Derived.Maps.OwnSet
import Derived.Deep.RegionWith
import Derived.StillTailTactics
namespace Go.Proofs.YteknngncnbfbnaaGreatDoor
open Go Go.RowKit

theorem blank_yes (b : Nat) (s : ByteArray) (k fr bm bg : Nat) (hk : k ≤ s.size) (hs : s.size ≤ 20000) (w : World) (h : Scn w b s k fr bm bg) (hon : onB blkB ((bs s).drop k) = true) :
    Calls Tryz.prog 128 #[.pointer (some ⟨b, 0, none⟩)] w fun e w' => e = .returned (.int .u8 6) ∧ Scn w' b s (k + spn blkB ((bs s).drop k)) fr bm bg ∧ Sk b w w' := by
  have hc := on_blk b s k hk w (cell0 h.sc) (cell1 h.sc)
  rw [hon] at hc
  clear hon
  go_enter Tryz.func128, Tryz.ntmps128
  go_wp2_with (first | (go_at_call 143; refine hc.mono ?_; clear hc; rintro e w' ⟨rfl, n, rfl⟩) | (go_at_call 144; refine (over_blk b s k fr _ _ hk (by omega) _ (h.drewN _).sc).mono ?_; rintro e w2 ⟨rfl, hS, hK⟩))
  go_ret
  exact ⟨rfl, (h.drewN _).go hK hS, (Sk.drewN _ _ _).trans hK⟩
theorem blank_no (b : Nat) (s : ByteArray) (k fr bm bg : Nat) (hk : k ≤ s.size) (w : World) (h : Scn w b s k fr bm bg) (hon : onB blkB ((bs s).drop k) = false) :
    Calls Tryz.prog 128 #[.pointer (some ⟨b, 0, none⟩)] w fun e w' => e = .returned (.int .u8 0) ∧ Scn w' b s k fr bm bg ∧ Sk b w w' := by
  have hc := on_blk b s k hk w (cell0 h.sc) (cell1 h.sc)
  rw [hon] at hc
  clear hon
  go_enter Tryz.func128, Tryz.ntmps128
  go_wp2_with (go_at_call 143; refine hc.mono ?_; clear hc; rintro e w' ⟨rfl, n, rfl⟩)
  go_ret
  exact ⟨rfl, h.drewN _, Sk.drewN _ _ _⟩

theorem index_any (s t : ByteArray) (w : World) (hs : s.size ≤ 20000) (hE : Env w) : Calls Tryz.prog 91 #[.string s, .string t] w fun e w' => e = .returned (.int .i64 (Lib.index (bs s) (bs t))) ∧ w = w' := by
  obtain ⟨m, hm⟩ := hE.mx
  exact (Tryz.strings_Index s t m w (by omega) hm).mono fun _ _ ⟨he, hw⟩ => ⟨he, hw.symm⟩
theorem behind_no (b : Nat) (s t : ByteArray) (k fr bm bg : Nat) (hk : k ≤ s.size) (hs : s.size ≤ 20000) (w : World) (h : Scn w b s k fr bm bg) (hi : Lib.index ((bs s).drop k) (bs t) = -1) :
    Calls Tryz.prog 146 #[.pointer (some ⟨b, 0, none⟩), .string t] w fun e w' => e = .returned (.bool false) ∧ Scn w' b s k fr bm bg ∧ Sk b w w' := by
  have h0 := cell0 h.sc
  have h1 := cell1 h.sc
  have hc : ∀ n, Calls Tryz.prog 91 #[.string (s.extract k s.size), .string t] (w.drewN n) fun e w' => e = .returned (.int .i64 (-1)) ∧ w.drewN n = w' := fun n => by
    have := index_any (s.extract k s.size) t (w.drewN n) (by rw [ByteArray.size_extract]; omega) (h.env.drewN n)
    rwa [bs_drop, hi] at this
  clear hi
  go_enter Tryz.func146, Tryz.ntmps146
  go_wp2
  go_quiet ((go_at_call 91; exact quiet_left (hc _)))
  go_wp2
  go_ret
  exact ⟨rfl, h.drewN _, Sk.drewN _ _ _⟩
theorem behind_yes (b : Nat) (s t : ByteArray) (k fr bm bg i : Nat) (hk : k + i + t.size ≤ s.size) (hs : s.size ≤ 20000) (w : World) (h : Scn w b s k fr bm bg) (hi : Lib.index ((bs s).drop k) (bs t) = i) :
    Calls Tryz.prog 146 #[.pointer (some ⟨b, 0, none⟩), .string t] w fun e w' => e = .returned (.bool true) ∧ Scn w' b s (k + (i + t.size)) fr bm bg ∧ Sk b w w' := by
  have h0 := cell0 h.sc
  have h1 := cell1 h.sc
  have hfz := Blk.frozen h.sc 1
  have hc : ∀ n, Calls Tryz.prog 91 #[.string (s.extract k s.size), .string t] (w.drewN n) fun e w' => e = .returned (.int .i64 i) ∧ w.drewN n = w' := fun n => by
    have := index_any (s.extract k s.size) t (w.drewN n) (by rw [ByteArray.size_extract]; omega) (h.env.drewN n)
    rwa [bs_drop, hi] at this
  clear hi
  go_enter Tryz.func146, Tryz.ntmps146
  go_wp2
  go_quiet ((go_at_call 91; exact quiet_left (hc _)))
  go_wp2
  go_ret
  refine ⟨rfl, h.go ((Sk.drewN b w _).trans (Sk.setCell b _ 1 _)) ?_, (Sk.drewN b w _).trans (Sk.setCell b _ 1 _)⟩
  have := (h.sc.drewN nq).at_ (k + (i + t.size))
  simpa using this
theorem pragma_no (b : Nat) (s : ByteArray) (k fr bm bg : Nat) (hk : k ≤ s.size) (w : World) (h : Scn w b s k fr bm bg) (hp : preB ((bs s).drop k) [60, 42] = false) :
    Calls Tryz.prog 130 #[.pointer (some ⟨b, 0, none⟩)] w fun e w' => e = .returned (.int .u8 0) ∧ Scn w' b s k fr bm bg ∧ Sk b w w' := by
  go_enter Tryz.func130, Tryz.ntmps130
  go_wp2_with (go_at_call 145; refine (take_no b s ⟨#[60, 42]⟩ k fr _ _ hk _ h.sc hp).mono ?_; rintro e w1 ⟨rfl, hS, hK⟩)
  go_ret
  exact ⟨rfl, h.go hK hS, hK⟩
theorem run_panic34 (v : Value) (w : World) : (Instr.panic (.iface 34 v)).run Tryz.prog w = .halt (.panic (.iface 34 v)) w := by
  simp [Instr.panic, go_sem]
/-- The call gives up with the fault x at line l. -/
def isFault (x : Int) (l : Nat) (e : Ending) : Prop := e = .panicked [{ v := .iface 34 (.agg #[.int .i64 x, .int .i64 l]), recovered := false }]
theorem preB_len {l t : List UInt8} (h : preB l t = true) : t.length ≤ l.length := (List.isPrefixOf_iff_prefix.1 h).length_le
theorem pre_room {s : ByteArray} {k : Nat} {t : List UInt8} (h : preB ((bs s).drop k) t = true) (ht : 0 < t.length) : k + t.length ≤ s.size := by
  have := preB_len h
  rw [List.length_drop, bs_len] at this
  omega
theorem index_room {l t : List UInt8} (ht : 0 < t.length) : ∀ {i : Nat}, Lib.index l t = i → i + t.length ≤ l.length := by
  induction l with
  | nil =>
    intro i h
    unfold Lib.index at h
    cases t with
    | nil => simp at ht
    | cons c t => simp at h
  | cons a l ih =>
    intro i h
    unfold Lib.index at h
    split at h
    · rename_i hp
      have := (List.isPrefixOf_iff_prefix.1 hp).length_le
      omega
    · split at h
      · omega
      · have h2 := Lib.index_ge l t
        have h3 : Lib.index l t ≠ -1 := by simpa using ‹¬(Lib.index l t == -1) = true›
        have := @ih (i - 1) (by omega)
        simp only [List.length_cons]
        omega
theorem pragma_open (b : Nat) (s : ByteArray) (k fr bm bg : Nat) (hf : fr ≤ s.size) (hs : s.size ≤ 20000) (w : World) (h : Scn w b s k fr bm bg) (hp : preB ((bs s).drop k) [60, 42] = true) (hi : Lib.index ((bs s).drop (k + 2)) [42, 62] = -1) :
    Calls Tryz.prog 130 #[.pointer (some ⟨b, 0, none⟩)] w fun e w' => isFault 13 (1 + nl ((bs s).take fr)) e ∧ Sk b w w' := by
  have hpan := run_panic34
  have hr : k + 2 ≤ s.size := pre_room hp (by decide)
  go_enter Tryz.func130, Tryz.ntmps130
  go_wp2_with (first | (go_at_call 145; refine (take_yes b s ⟨#[60, 42]⟩ k fr _ _ (by omega) (by omega) _ h.sc hp).mono ?_; rintro e w1 ⟨rfl, hS, hK⟩) | (go_at_call 146; refine (behind_no b s ⟨#[42, 62]⟩ (k + 2) fr bm bg hr hs _ (h.go hK hS) hi).mono ?_; rintro e w2 ⟨rfl, hS2, hK2⟩) | (go_at_call 110; refine (fault_any b s (k + 2) fr bm bg 13 hf hs _ hS2).mono ?_; rintro e w3 ⟨rfl, hS3, hK3⟩))
  go_wp2
  exact ⟨rfl, rfl, (hK.trans hK2).trans hK3⟩
theorem pragma_yes (b : Nat) (s : ByteArray) (k fr bm bg i : Nat) (hs : s.size ≤ 20000) (w : World) (h : Scn w b s k fr bm bg) (hp : preB ((bs s).drop k) [60, 42] = true) (hi : Lib.index ((bs s).drop (k + 2)) [42, 62] = i) :
    Calls Tryz.prog 130 #[.pointer (some ⟨b, 0, none⟩)] w fun e w' => e = .returned (.int .u8 8) ∧ Scn w' b s (k + 2 + (i + 2)) fr bm bg ∧ Sk b w w' := by
  have hr : k + 2 ≤ s.size := pre_room hp (by decide)
  have hr2 : k + 2 + i + 2 ≤ s.size := by
    have := index_room (by decide) hi
    rw [List.length_drop, bs_len] at this
    simp at this
    omega
  go_enter Tryz.func130, Tryz.ntmps130
  go_wp2_with (first | (go_at_call 145; refine (take_yes b s ⟨#[60, 42]⟩ k fr _ _ (by omega) (by omega) _ h.sc hp).mono ?_; rintro e w1 ⟨rfl, hS, hK⟩) | (go_at_call 146; refine (behind_yes b s ⟨#[42, 62]⟩ (k + 2) fr bm bg i hr2 hs _ (h.go hK hS) hi).mono ?_; rintro e w2 ⟨rfl, hS2, hK2⟩))
  go_ret
  exact ⟨rfl, hS2, hK.trans hK2⟩

/-- Where the comment ends in which one is d deep: the number of bytes up to there. -/
def closeL : Nat → List UInt8 → Option Nat
  | _, [] => none
  | _, [_] => none
  | d, a :: b :: l =>
    if a = 40 ∧ b = 42 then (closeL (d + 1) l).map (· + 2)
    else if a = 42 ∧ b = 41 then (if d = 1 then some 2 else (closeL (d - 1) l).map (· + 2))
    else (closeL d (b :: l)).map (· + 1)
theorem preB2 (a b x y : UInt8) (l : List UInt8) : preB (a :: b :: l) [x, y] = decide (a = x ∧ b = y) := by
  unfold preB
  rw [Bool.eq_iff_iff]
  simp only [List.isPrefixOf, Bool.and_true, Bool.and_eq_true, beq_iff_eq, decide_eq_true_eq]
  constructor <;> (rintro ⟨rfl, rfl⟩; exact ⟨rfl, rfl⟩)
theorem preB21 (a x y : UInt8) : preB [a] [x, y] = false := by simp [preB, List.isPrefixOf]
theorem preB20 (x y : UInt8) : preB [] [x, y] = false := by simp [preB, List.isPrefixOf]
theorem closeL_open {d : Nat} {l : List UInt8} (h : preB l [40, 42] = true) : closeL d l = (closeL (d + 1) (l.drop 2)).map (· + 2) := by
  match l with
  | [] => rw [preB20] at h; cases h
  | [a] => rw [preB21] at h; cases h
  | a :: b :: l =>
    rw [preB2] at h
    conv => lhs; unfold closeL
    rw [if_pos (of_decide_eq_true h)]; rfl
theorem closeL_close {d : Nat} {l : List UInt8} (h1 : preB l [40, 42] = false) (h : preB l [42, 41] = true) : closeL d l = if d = 1 then some 2 else (closeL (d - 1) (l.drop 2)).map (· + 2) := by
  match l with
  | [] => rw [preB20] at h; cases h
  | [a] => rw [preB21] at h; cases h
  | a :: b :: l =>
    rw [preB2] at h h1
    conv => lhs; unfold closeL
    rw [if_neg (of_decide_eq_false h1), if_pos (of_decide_eq_true h)]; rfl
theorem closeL_else {d : Nat} {c : UInt8} {l : List UInt8} (h1 : preB (c :: l) [40, 42] = false) (h : preB (c :: l) [42, 41] = false) : closeL d (c :: l) = (closeL d l).map (· + 1) := by
  match l with
  | [] => simp [closeL]
  | b :: l =>
    rw [preB2] at h h1
    conv => lhs; unfold closeL
    rw [if_neg (of_decide_eq_false h1), if_neg (of_decide_eq_false h)]
theorem closeL_le : ∀ {l : List UInt8} {d n : Nat}, closeL d l = some n → n ≤ l.length
  | [], _, _, h => by simp [closeL] at h
  | [_], _, _, h => by simp [closeL] at h
  | a :: b :: l, d, n, h => by
    unfold closeL at h
    split at h
    · cases hc : closeL (d + 1) l with
      | none => simp [hc] at h
      | some m => have := closeL_le hc; simp [hc] at h; simp; omega
    · split at h
      · split at h
        · simp at h; simp; omega
        · cases hc : closeL (d - 1) l with
          | none => simp [hc] at h
          | some m => have := closeL_le hc; simp [hc] at h; simp; omega
      · cases hc : closeL d (b :: l) with
        | none => simp [hc] at h
        | some m => have := closeL_le hc; simp [hc] at h; simp at this ⊢; omega
end Go.Proofs.YteknngncnbfbnaaGreatDoor
