/- The seven finders, each told what it finds; for sources of at most 20000 bytes. -/
import Derived.Test.YteknngncnbfbnaaGreatDoorNm
import Derived.Test.YteknngncnbfbnaaGreatDoorTx
import Derived.Test.YteknngncnbfbnaaGreatDoorSg
import Derived.Tactics
import Derived.Tactics2
import Derived.WalkKit
import Derived.LoopTactic
import Derived.Outline
import Derived.Lib.Hide
import Derived.Handy
import Derived.KernelRfl
import Derived.Deep.LoopGhost
import Derived.CallsIn
import Derived.Deep.QuietTactic
import Derived.BigQuiet
import Derived.Deep.Draws
import Derived.WalkSpells
import Derived.Lib.Walk
import Derived.Lib.Strings
import Derived.Maps.OwnOps
import Derived.Maps.OwnSet
import Derived.Deep.RegionWith
import Derived.StillTailTactics
import Derived.WalkMore
namespace Go.Proofs.YteknngncnbfbnaaGreatDoor
open Go Go.RowKit

/-- What the bytes begin with: a piece of a kind and a size, or an error. -/
inductive Pc where
  | bad (x : Nat)
  | ok (kind size : Nat)
def fin0 (l : List UInt8) : Option Pc := if onB blkB l then some (.ok 6 (spn blkB l)) else none
def fin1 (l : List UInt8) : Option Pc := if preB l [40, 42] then some (match closeL 1 (l.drop 2) with | none => .bad 13 | some n => .ok 7 (2 + n)) else none
def fin2 (l : List UInt8) : Option Pc := if preB l [60, 42] then some (if Lib.index (l.drop 2) [42, 62] < 0 then .bad 13 else .ok 8 (2 + ((Lib.index (l.drop 2) [42, 62]).toNat + 2))) else none
def fin3 (l : List UInt8) : Option Pc := if onB letB l then some (if memB wordsL (l.take (spn alnB l)) then .ok 2 (spn alnB l) else if 12 < spn alnB l then .bad 12 else .ok 1 (spn alnB l)) else none
def fin4 (l : List UInt8) : Option Pc := if onB digB l then some (match valR (l.take (numLen l)) with | none => .bad 11 | some _ => .ok 3 (numLen l)) else none
def fin5 (l : List UInt8) : Option Pc := if preB l [34] then some (if txtOk l then .ok 4 (txtLen l + 2) else .bad 14) else none
def fin6 (l : List UInt8) : Option Pc := if sgn l = [] then none else some (.ok 5 (sgn l).length)
/-- THE PIECE WITH WHICH THE BYTES BEGIN. -/
def firstL (l : List UInt8) : Pc := ((fin0 l).or ((fin1 l).or ((fin2 l).or ((fin3 l).or ((fin4 l).or ((fin5 l).or (fin6 l))))))).getD (.bad 10)

/-- What a finder does, told what it finds. -/
def FinPost (o : Option Pc) (w : World) (b : Nat) (s : ByteArray) (k bm bg : Nat) (e : Ending) (w' : World) : Prop :=
  match o with
  | none => e = .returned (.int .u8 0) ∧ Scn w' b s k k bm bg ∧ Sk b w w'
  | some (.ok kd n) => e = .returned (.int .u8 kd) ∧ Scn w' b s (k + n) k bm bg ∧ Sk b w w'
  | some (.bad x) => isFault x (1 + nl ((bs s).take k)) e ∧ Sk b w w'
section
variable (b : Nat) (s : ByteArray) (k bm bg : Nat) (hk : k ≤ s.size) (hs : s.size ≤ 20000) (w : World) (h : Scn w b s k k bm bg)
include hk hs h
theorem fin0_any : Calls Tryz.prog 128 #[.pointer (some ⟨b, 0, none⟩)] w (FinPost (fin0 ((bs s).drop k)) w b s k bm bg) := by
  cases hon : onB blkB ((bs s).drop k) with
  | true => rw [show fin0 ((bs s).drop k) = some (.ok 6 _) from if_pos hon]; exact blank_yes b s k k bm bg hk hs w h hon
  | false => rw [show fin0 ((bs s).drop k) = none from if_neg (by rw [hon]; decide)]; exact blank_no b s k k bm bg hk w h hon
theorem fin1_any : Calls Tryz.prog 129 #[.pointer (some ⟨b, 0, none⟩)] w (FinPost (fin1 ((bs s).drop k)) w b s k bm bg) := by
  cases hon : preB ((bs s).drop k) [40, 42] with
  | true =>
    have e : fin1 ((bs s).drop k) = some (match closeL 1 ((bs s).drop (k + 2)) with | none => .bad 13 | some n => .ok 7 (2 + n)) := by
      unfold fin1; rw [if_pos hon, List.drop_drop]
    rw [e]
    refine (comment_any b s k k bm bg hk hs w h hon).mono ?_
    rintro e' w' (⟨n, hn, he, hS, hK⟩ | ⟨hn, he, hK⟩)
    · rw [hn]
      exact ⟨he, by rw [show k + (2 + n) = k + 2 + n by omega]; exact hS, hK⟩
    · rw [hn]; exact ⟨he, hK⟩
  | false => rw [show fin1 ((bs s).drop k) = none from if_neg (by rw [hon]; decide)]; exact comment_no b s k k bm bg hk w h hon
theorem fin2_any : Calls Tryz.prog 130 #[.pointer (some ⟨b, 0, none⟩)] w (FinPost (fin2 ((bs s).drop k)) w b s k bm bg) := by
  cases hon : preB ((bs s).drop k) [60, 42] with
  | true =>
    have hge := Lib.index_ge ((bs s).drop (k + 2)) [42, 62]
    by_cases hi : Lib.index ((bs s).drop (k + 2)) [42, 62] < 0
    · have e : fin2 ((bs s).drop k) = some (.bad 13) := by
        unfold fin2; rw [if_pos hon, List.drop_drop, if_pos hi]
      rw [e]
      exact pragma_open b s k k bm bg hk hs w h hon (by omega)
    · obtain ⟨i, hii⟩ : ∃ i : Nat, Lib.index ((bs s).drop (k + 2)) [42, 62] = i := ⟨(Lib.index ((bs s).drop (k + 2)) [42, 62]).toNat, by omega⟩
      have e : fin2 ((bs s).drop k) = some (.ok 8 (2 + (i + 2))) := by
        unfold fin2; rw [if_pos hon, List.drop_drop, if_neg hi, hii]; rfl
      rw [e]
      refine (pragma_yes b s k k bm bg i hs w h hon hii).mono ?_
      rintro e' w' ⟨he, hS, hK⟩
      exact ⟨he, by rw [show k + (2 + (i + 2)) = k + 2 + (i + 2) by omega]; exact hS, hK⟩
  | false => rw [show fin2 ((bs s).drop k) = none from if_neg (by rw [hon]; decide)]; exact pragma_no b s k k bm bg hk w h hon
theorem fin3_any : Calls Tryz.prog 131 #[.pointer (some ⟨b, 0, none⟩)] w (FinPost (fin3 ((bs s).drop k)) w b s k bm bg) := by
  cases hon : onB letB ((bs s).drop k) with
  | true =>
    have e : fin3 ((bs s).drop k) = some (if memB wordsL (((bs s).drop k).take (spn alnB ((bs s).drop k))) then .ok 2 (spn alnB ((bs s).drop k)) else if 12 < spn alnB ((bs s).drop k) then .bad 12 else .ok 1 (spn alnB ((bs s).drop k))) := if_pos hon
    rw [e]
    refine (letters_any b s k bm bg hk hs w h hon).mono ?_
    rintro e' w' (⟨hm, he, hS, hK⟩ | ⟨hm, h12, he, hK⟩ | ⟨hm, h12, he, hS, hK⟩)
    · rw [if_pos hm]; exact ⟨he, hS, hK⟩
    · rw [if_neg (by rw [hm]; decide), if_pos h12]; exact ⟨he, hK⟩
    · rw [if_neg (by rw [hm]; decide), if_neg (by omega)]; exact ⟨he, hS, hK⟩
  | false => rw [show fin3 ((bs s).drop k) = none from if_neg (by rw [hon]; decide)]; exact letters_no b s k k bm bg hk w h hon
theorem fin4_any : Calls Tryz.prog 132 #[.pointer (some ⟨b, 0, none⟩)] w (FinPost (fin4 ((bs s).drop k)) w b s k bm bg) := by
  cases hon : onB digB ((bs s).drop k) with
  | true =>
    have e : fin4 ((bs s).drop k) = some (match valR (((bs s).drop k).take (numLen ((bs s).drop k))) with | none => .bad 11 | some _ => .ok 3 (numLen ((bs s).drop k))) := if_pos hon
    rw [e]
    refine (number_any b s k bm bg hk hs w h hon).mono ?_
    rintro e' w' (⟨⟨v, hv⟩, he, hS, hK⟩ | ⟨hv, he, hK⟩)
    · rw [hv]; exact ⟨he, hS, hK⟩
    · rw [hv]; exact ⟨he, hK⟩
  | false => rw [show fin4 ((bs s).drop k) = none from if_neg (by rw [hon]; decide)]; exact number_no b s k k bm bg hk w h hon
theorem fin5_any : Calls Tryz.prog 133 #[.pointer (some ⟨b, 0, none⟩)] w (FinPost (fin5 ((bs s).drop k)) w b s k bm bg) := by
  cases hon : preB ((bs s).drop k) [34] with
  | true =>
    have e : fin5 ((bs s).drop k) = some (if txtOk ((bs s).drop k) then .ok 4 (txtLen ((bs s).drop k) + 2) else .bad 14) := if_pos hon
    rw [e]
    refine (text_any b s k bm bg hs w h hon).mono ?_
    rintro e' w' (⟨hv, he, hS, hK⟩ | ⟨hv, he, hK⟩)
    · rw [if_pos hv]; exact ⟨he, hS, hK⟩
    · rw [if_neg (by rw [hv]; decide)]; exact ⟨he, hK⟩
  | false => rw [show fin5 ((bs s).drop k) = none from if_neg (by rw [hon]; decide)]; exact text_no b s k k bm bg hk w h hon
theorem fin6_any : Calls Tryz.prog 134 #[.pointer (some ⟨b, 0, none⟩)] w (FinPost (fin6 ((bs s).drop k)) w b s k bm bg) := by
  refine (sign_any b s k k bm bg hk hs w h).mono ?_
  rintro e' w' (⟨hv, he, hS, hK⟩ | ⟨hv, he, hS, hK⟩)
  · rw [show fin6 ((bs s).drop k) = none from if_pos hv]; exact ⟨he, hS, hK⟩
  · rw [show fin6 ((bs s).drop k) = some (.ok 5 _) from if_neg hv]; exact ⟨he, hS, hK⟩
end
end Go.Proofs.YteknngncnbfbnaaGreatDoor
