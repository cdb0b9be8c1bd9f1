/- Signs as pieces: the last one in the list with which the bytes begin; for sources of at most 20000 bytes. -/
import Derived.Test.YteknngncnbfbnaaGreatDoorPr
import Derived.Test.YteknngncnbfbnaaGreatDoorLe
import Derived.Tactics
import Derived.Tactics2
import Derived.WalkKit
import Derived.LoopTactic
import Derived.Outline
import Derived.Lib.Hide
import Derived.Handy
import Derived.KernelRfl
import Derived.Deep.LoopGhost
import Derived.CallsIn
import Derived.Deep.QuietTactic
import Derived.BigQuiet
import Derived.Deep.Draws
import Derived.WalkSpells
import Derived.Lib.Walk
import Derived.Lib.Strings
import Derived.Maps.OwnOps
import Derived.Maps.OwnSet
import Derived.Deep.RegionWith
import Derived.StillTailTactics
import Derived.WalkMore
namespace Go.Proofs.YteknngncnbfbnaaGreatDoor
open Go Go.RowKit

/-- The last sign with which the bytes begin; none: []. -/
def sgnF (xs : List (List UInt8)) (l : List UInt8) : List UInt8 := xs.foldl (fun acc t => if preB l t then t else acc) []
def sgn (l : List UInt8) : List UInt8 := sgnF signsL l
theorem sgnF_snoc (xs : List (List UInt8)) (t l : List UInt8) : sgnF (xs ++ [t]) l = if preB l t then t else sgnF xs l := by simp [sgnF]
theorem sgnF_pre (xs : List (List UInt8)) (l : List UInt8) : preB l (sgnF xs l) = true := by
  unfold sgnF
  suffices h : ∀ acc, preB l acc = true → preB l (xs.foldl (fun acc t => if preB l t then t else acc) acc) = true from h [] (by cases l <;> rfl)
  induction xs with
  | nil => exact fun acc h => h
  | cons x xs ih =>
    intro acc h
    apply ih
    show preB l (if preB l x then x else acc) = true
    split
    · assumption
    · exact h
theorem signsL_len : signsL.length = 23 := by kernel_rfl
def SgnPost (w : World) (b : Nat) (s : ByteArray) (k fr bm bg : Nat) (e : Ending) (w' : World) : Prop :=
  (sgn ((bs s).drop k) = [] ∧ e = .returned (.int .u8 0) ∧ Scn w' b s k fr bm bg ∧ Sk b w w') ∨
  (sgn ((bs s).drop k) ≠ [] ∧ e = .returned (.int .u8 5) ∧ Scn w' b s (k + (sgn ((bs s).drop k)).length) fr bm bg ∧ Sk b w w')
theorem sign_any (b : Nat) (s : ByteArray) (k fr bm bg : Nat) (hk : k ≤ s.size) (hs : s.size ≤ 20000) (w : World) (h : Scn w b s k fr bm bg) :
    Calls Tryz.prog 134 #[.pointer (some ⟨b, 0, none⟩)] w (SgnPost w b s k fr bm bg) := by
  have h4 := cell4 h.sc
  go_enter Tryz.func134, Tryz.ntmps134
  go_wp2
  go_loopw [3, 11] (fun v i wr => ∃ j : Nat, j ≤ 23 ∧ i = .int .i64 j ∧ v = .string (mkS (sgnF (signsL.take j) ((bs s).drop k))) ∧ Hid (∃ m, wr = w.drewN m)) (fun _ i _ => 23 - (intOf i).toNat)
  case atStart => exact ⟨0, by omega, rfl, rfl, Lib.hid ⟨0, rfl⟩⟩
  case round =>
    obtain ⟨j, hj, rfl, rfl, HW⟩ := hrel
    have hS : Scn wr b s k fr bm bg := by obtain ⟨m, rfl⟩ := HW.out; exact h.drewN m
    by_cases hlt : j < 23
    · have hlw : j < signsL.length := by rw [signsL_len]; exact hlt
      have hcell : wr.cell? ⟨bg, j, none⟩ = some (.string (mkS signsL[j])) := by
        rw [hS.sg.cell j, List.getElem?_map, List.getElem?_eq_getElem hlw]; rfl
      have hc := sees_any b s (mkS signsL[j]) k hk wr (cell0 hS.sc) (cell1 hS.sc)
      rw [bs_mkS] at hc
      have HT := Lib.hid (sgnF_snoc (signsL.take j) signsL[j] ((bs s).drop k))
      have HT2 := Lib.hid (List.take_succ_eq_append_getElem hlw)
      cases hp : preB ((bs s).drop k) signsL[j] with
      | true =>
        rw [hp] at hc
        have HP := Lib.hid hp
        have HC := hide hc
        clear hp hc
        go_wp2_with (go_at_call 148; refine (unhide HC).mono ?_; rintro e w2 ⟨rfl, n, rfl⟩)
        go_roundw
        case rel =>
          refine ⟨j + 1, by omega, by go_num, ?_, Lib.hid ?_⟩
          · rw [HT2.out, HT.out, if_pos HP.out]
          · obtain ⟨m, rfl⟩ := HW.out
            exact ⟨_, World.drewN_drewN _ _ _⟩
        case measure => simp [intOf]; omega
      | false =>
        rw [hp] at hc
        have HP := Lib.hid hp
        have HC := hide hc
        clear hp hc
        go_wp2_with (go_at_call 148; refine (unhide HC).mono ?_; rintro e w2 ⟨rfl, n, rfl⟩)
        go_roundw
        case rel =>
          refine ⟨j + 1, by omega, by go_num, ?_, Lib.hid ?_⟩
          · rw [HT2.out, HT.out, if_neg (by rw [HP.out]; decide)]
          · obtain ⟨m, rfl⟩ := HW.out
            exact ⟨_, World.drewN_drewN _ _ _⟩
        case measure => simp [intOf]; omega
    · obtain rfl : j = 23 := by omega
      have e23 : signsL.take 23 = signsL := by rw [← signsL_len]; exact List.take_length
      rw [e23]
      obtain ⟨t, ht⟩ : ∃ t, sgnF signsL ((bs s).drop k) = t := ⟨_, rfl⟩
      have hp := sgnF_pre signsL ((bs s).drop k)
      rw [ht] at hp ⊢
      have HT : Hid (sgn ((bs s).drop k) = t) := ht
      have hsk : Hid (Sk b w wr) := by obtain ⟨m, rfl⟩ := HW.out; exact Sk.drewN _ _ _
      clear ht e23 hlt
      by_cases he : t = []
      · have hz : (mkS t).toList = [] := by rw [toList_bs, bs_mkS]; exact he
        have HE := Lib.hid he
        clear he
        go_wp2_with fail
        go_ret
        exact .inl ⟨by rw [HT.out]; exact HE.out, rfl, hS, hsk.out⟩
      · have hz : (mkS t).toList.isEmpty = false := by rw [toList_bs, bs_mkS]; simpa using he
        have HE := Lib.hid he
        clear he
        have hty := take_yes b s (mkS t) k fr _ _ hk (by omega) _ hS.sc (by rw [bs_mkS]; exact hp)
        have hsz : (mkS t).size = t.length := by rw [← bs_len, bs_mkS]
        rw [hsz] at hty
        clear hsz
        go_wp2_with (go_at_call 145; refine hty.mono ?_; rintro e w2 ⟨rfl, hS2, hK2⟩)
        go_ret
        exact .inr ⟨by rw [HT.out]; exact HE.out, rfl, by rw [HT.out]; exact hS.go hK2 hS2, hsk.out.trans hK2⟩
end Go.Proofs.YteknngncnbfbnaaGreatDoor
