/- Numbers as pieces, or that they are none, for sources of at most 20000 bytes. -/
import Derived.Test.YteknngncnbfbnaaGreatDoorPr
import Derived.Test.YteknngncnbfbnaaGreatDoorLe
import Derived.Tactics
import Derived.Tactics2
import Derived.WalkKit
import Derived.LoopTactic
import Derived.Outline
import Derived.Lib.Hide
import Derived.Handy
import Derived.KernelRfl
import Derived.Deep.LoopGhost
import Derived.CallsIn
import Derived.Deep.QuietTactic
import Derived.BigQuiet
import Derived.Deep.Draws
import Derived.WalkSpells
import Derived.Lib.Walk
import Derived.Lib.Strings
import Derived.Maps.OwnOps
import Derived.Maps.OwnSet
import Derived.Deep.RegionWith
import Derived.StillTailTactics
import Derived.WalkMore
namespace Go.Proofs.YteknngncnbfbnaaGreatDoor
open Go Go.RowKit

theorem preB1 (a x : UInt8) (l : List UInt8) : preB (a :: l) [x] = decide (a = x) := by
  unfold preB
  rw [Bool.eq_iff_iff]
  simp only [List.isPrefixOf, Bool.and_true, beq_iff_eq, decide_eq_true_eq]
  exact eq_comm
/-- The number of bytes of a number's piece. -/
def numLen (l : List UInt8) : Nat :=
  let n := spn digB l
  if preB (l.drop n) [95] then n + 1 + spn alnB (l.drop (n + 1)) else n
theorem numLen_yes {l : List UInt8} (h : preB (l.drop (spn digB l)) [95] = true) : numLen l = spn digB l + 1 + spn alnB (l.drop (spn digB l + 1)) := if_pos h
theorem numLen_no {l : List UInt8} (h : preB (l.drop (spn digB l)) [95] = false) : numLen l = spn digB l := if_neg (by rw [h]; decide)
def NumPost (w : World) (b : Nat) (s : ByteArray) (k bm bg : Nat) (e : Ending) (w' : World) : Prop :=
  ((∃ v, valR (((bs s).drop k).take (numLen ((bs s).drop k))) = some v) ∧ e = .returned (.int .u8 3) ∧ Scn w' b s (k + numLen ((bs s).drop k)) k bm bg ∧ Sk b w w') ∨
  (valR (((bs s).drop k).take (numLen ((bs s).drop k))) = none ∧ isFault 11 (1 + nl ((bs s).take k)) e ∧ Sk b w w')
theorem number_no (b : Nat) (s : ByteArray) (k fr bm bg : Nat) (hk : k ≤ s.size) (w : World) (h : Scn w b s k fr bm bg) (hon : onB digB ((bs s).drop k) = false) :
    Calls Tryz.prog 132 #[.pointer (some ⟨b, 0, none⟩)] w fun e w' => e = .returned (.int .u8 0) ∧ Scn w' b s k fr bm bg ∧ Sk b w w' := by
  have hc := on_dig b s k hk w (cell0 h.sc) (cell1 h.sc)
  rw [hon] at hc
  clear hon
  go_enter Tryz.func132, Tryz.ntmps132
  go_wp2_with (go_at_call 143; refine hc.mono ?_; clear hc; rintro e w' ⟨rfl, n, rfl⟩)
  go_ret
  exact ⟨rfl, h.drewN _, Sk.drewN _ _ _⟩
/-- What stands behind the digits: Value, and what is made of it. -/
theorem number_any (b : Nat) (s : ByteArray) (k bm bg : Nat) (hk : k ≤ s.size) (hs : s.size ≤ 20000) (w : World) (h : Scn w b s k k bm bg) (hon : onB digB ((bs s).drop k) = true) :
    Calls Tryz.prog 132 #[.pointer (some ⟨b, 0, none⟩)] w (NumPost w b s k bm bg) := by
  have hpan := run_panic34
  have hc := on_dig b s k hk w (cell0 h.sc) (cell1 h.sc)
  rw [hon] at hc
  clear hon
  have hov := over_dig b s k k (.map (some bm)) (.slice (some ⟨bg, 0, none⟩) 23 23) hk (by omega)
  have hend := spn_end digB s k hk
  obtain ⟨n, hn⟩ : ∃ n, spn digB ((bs s).drop k) = n := ⟨_, rfl⟩
  rw [hn] at hov hend
  cases hp : preB ((bs s).drop (k + n)) [95] with
  | true =>
    have hln : numLen ((bs s).drop k) = n + 1 + spn alnB ((bs s).drop (k + n + 1)) := by
      have := numLen_yes (l := (bs s).drop k) (by rw [hn, List.drop_drop]; exact hp)
      rw [this, hn, List.drop_drop]
      rfl
    have hk1 : k + n + 1 ≤ s.size := pre_room hp (by decide)
    have hov2 := over_aln b s (k + n + 1) k (.map (some bm)) (.slice (some ⟨bg, 0, none⟩) 23 23) hk1 (by omega)
    have hend2 := spn_end alnB s (k + n + 1) hk1
    obtain ⟨m, hm⟩ : ∃ m, spn alnB ((bs s).drop (k + n + 1)) = m := ⟨_, rfl⟩
    rw [hm] at hov2 hend2 hln
    have hpb := piece_bs s k (n + 1 + m)
    have e0 : k + (n + 1 + m) = k + n + 1 + m := by omega
    rw [e0] at hpb
    have hval := value_any (s.extract k (k + n + 1 + m)) (by rw [ByteArray.size_extract]; omega)
    rw [hpb] at hval
    have HLN := Lib.hid hln
    have HOV := hide hov
    have HOV2 := hide hov2
    have HP := Lib.hid hp
    have HVAL := hide hval
    clear hn hpb hov hov2 hln hp hm hval e0
    cases hv : valR (((bs s).drop k).take (n + 1 + m)) with
    | none =>
      have hval := unhide HVAL
      rw [hv] at hval
      simp only [optN, errN] at hval
      have HVAL2 := hide hval
      have HV := Lib.hid hv
      clear hval HVAL hv
      go_enter Tryz.func132, Tryz.ntmps132
      go_wp2_with (first | (go_at_call 143; refine hc.mono ?_; clear hc; rintro e w' ⟨rfl, n1, rfl⟩) | (go_at_call 144; refine (unhide HOV _ (h.drewN n1).sc).mono ?_; clear HOV; rintro e w2 ⟨rfl, hS, hK⟩) | (go_at_call 145; refine (take_yes b s ⟨#[95]⟩ (k + n) k _ _ hend (by omega) _ hS HP.out).mono ?_; rintro e w3 ⟨rfl, hS3, hK3⟩) | (go_at_call 144; refine (unhide HOV2 _ hS3).mono ?_; clear HOV2; rintro e w4 ⟨rfl, hS4, hK4⟩; have hS5 := (((h.drewN n1).go hK hS).go hK3 hS3).go hK4 hS4) | (go_at_call 109; refine (piece_any b s (k + n + 1 + m) k _ _ (by omega) hend2 _ hS4).mono ?_; rintro e w5 ⟨rfl, n5, rfl⟩) | (go_at_call 25; refine (unhide HVAL2 _ (hS5.drewN n5).env).mono ?_; rintro e w6 ⟨rfl, n6, rfl⟩) | (go_at_call 110; refine (fault_any b s (k + n + 1 + m) k bm bg 11 hk hs _ (hS5.drewN _)).mono ?_; rintro e w7 ⟨rfl, hS7, hK7⟩))
      go_wp2
      exact ⟨rfl, .inr ⟨by rw [HLN.out]; exact HV.out, rfl, (((((Sk.drewN _ _ _).trans hK).trans hK3).trans hK4).trans (Sk.drewN _ _ _)).trans hK7⟩⟩
    | some v =>
      have hval := unhide HVAL
      rw [hv] at hval
      simp only [optN, errN] at hval
      have HVAL2 := hide hval
      have HV := Lib.hid hv
      clear hval HVAL hv
      go_enter Tryz.func132, Tryz.ntmps132
      go_wp2_with (first | (go_at_call 143; refine hc.mono ?_; clear hc; rintro e w' ⟨rfl, n1, rfl⟩) | (go_at_call 144; refine (unhide HOV _ (h.drewN n1).sc).mono ?_; clear HOV; rintro e w2 ⟨rfl, hS, hK⟩) | (go_at_call 145; refine (take_yes b s ⟨#[95]⟩ (k + n) k _ _ hend (by omega) _ hS HP.out).mono ?_; rintro e w3 ⟨rfl, hS3, hK3⟩) | (go_at_call 144; refine (unhide HOV2 _ hS3).mono ?_; clear HOV2; rintro e w4 ⟨rfl, hS4, hK4⟩; have hS5 := (((h.drewN n1).go hK hS).go hK3 hS3).go hK4 hS4) | (go_at_call 109; refine (piece_any b s (k + n + 1 + m) k _ _ (by omega) hend2 _ hS4).mono ?_; rintro e w5 ⟨rfl, n5, rfl⟩) | (go_at_call 25; refine (unhide HVAL2 _ (hS5.drewN n5).env).mono ?_; rintro e w6 ⟨rfl, n6, rfl⟩))
      go_ret
      exact .inl ⟨⟨v, by rw [HLN.out]; exact HV.out⟩, rfl, by rw [HLN.out]; have e : k + (n + 1 + m) = k + n + 1 + m := by omega
                                                              rw [e]; exact hS5.drewN _, ((((Sk.drewN _ _ _).trans hK).trans hK3).trans hK4).trans (Sk.drewN _ _ _)⟩
  | false =>
    have hln : numLen ((bs s).drop k) = n := by
      have := numLen_no (l := (bs s).drop k) (by rw [hn, List.drop_drop]; exact hp)
      rw [this, hn]
    have hpb := piece_bs s k n
    have hval := value_any (s.extract k (k + n)) (by rw [ByteArray.size_extract]; omega)
    rw [hpb] at hval
    have HLN := Lib.hid hln
    have HOV := hide hov
    have HP := Lib.hid hp
    have HVAL := hide hval
    clear hn hpb hov hln hp hval
    cases hv : valR (((bs s).drop k).take n) with
    | none =>
      have hval := unhide HVAL
      rw [hv] at hval
      simp only [optN, errN] at hval
      have HVAL2 := hide hval
      have HV := Lib.hid hv
      clear hval HVAL hv
      go_enter Tryz.func132, Tryz.ntmps132
      go_wp2_with (first | (go_at_call 143; refine hc.mono ?_; clear hc; rintro e w' ⟨rfl, n1, rfl⟩) | (go_at_call 144; refine (unhide HOV _ (h.drewN n1).sc).mono ?_; clear HOV; rintro e w2 ⟨rfl, hS, hK⟩) | (go_at_call 145; refine (take_no b s ⟨#[95]⟩ (k + n) k _ _ hend _ hS HP.out).mono ?_; rintro e w3 ⟨rfl, hS3, hK3⟩; have hS5 := ((h.drewN n1).go hK hS).go hK3 hS3) | (go_at_call 109; refine (piece_any b s (k + n) k _ _ (by omega) hend _ hS3).mono ?_; rintro e w5 ⟨rfl, n5, rfl⟩) | (go_at_call 25; refine (unhide HVAL2 _ (hS5.drewN n5).env).mono ?_; rintro e w6 ⟨rfl, n6, rfl⟩) | (go_at_call 110; refine (fault_any b s (k + n) k bm bg 11 hk hs _ (hS5.drewN _)).mono ?_; rintro e w7 ⟨rfl, hS7, hK7⟩))
      go_wp2
      exact ⟨rfl, .inr ⟨by rw [HLN.out]; exact HV.out, rfl, ((((Sk.drewN _ _ _).trans hK).trans hK3).trans (Sk.drewN _ _ _)).trans hK7⟩⟩
    | some v =>
      have hval := unhide HVAL
      rw [hv] at hval
      simp only [optN, errN] at hval
      have HVAL2 := hide hval
      have HV := Lib.hid hv
      clear hval HVAL hv
      go_enter Tryz.func132, Tryz.ntmps132
      go_wp2_with (first | (go_at_call 143; refine hc.mono ?_; clear hc; rintro e w' ⟨rfl, n1, rfl⟩) | (go_at_call 144; refine (unhide HOV _ (h.drewN n1).sc).mono ?_; clear HOV; rintro e w2 ⟨rfl, hS, hK⟩) | (go_at_call 145; refine (take_no b s ⟨#[95]⟩ (k + n) k _ _ hend _ hS HP.out).mono ?_; rintro e w3 ⟨rfl, hS3, hK3⟩; have hS5 := ((h.drewN n1).go hK hS).go hK3 hS3) | (go_at_call 109; refine (piece_any b s (k + n) k _ _ (by omega) hend _ hS3).mono ?_; rintro e w5 ⟨rfl, n5, rfl⟩) | (go_at_call 25; refine (unhide HVAL2 _ (hS5.drewN n5).env).mono ?_; rintro e w6 ⟨rfl, n6, rfl⟩))
      go_ret
      exact .inl ⟨⟨v, by rw [HLN.out]; exact HV.out⟩, rfl, by rw [HLN.out]; exact hS5.drewN _, (((Sk.drewN _ _ _).trans hK).trans hK3).trans (Sk.drewN _ _ _)⟩
end Go.Proofs.YteknngncnbfbnaaGreatDoor
