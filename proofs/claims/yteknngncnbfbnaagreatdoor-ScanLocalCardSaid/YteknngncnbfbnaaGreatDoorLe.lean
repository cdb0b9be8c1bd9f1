/- Letters: names and words, or that they are too long, for sources of at most 20000 bytes. -/
import Derived.Test.YteknngncnbfbnaaGreatDoorNv
import Derived.Tactics
import Derived.Tactics2
import Derived.WalkKit
import Derived.LoopTactic
import Derived.Outline
import Derived.Lib.Hide
import Derived.Handy
import Derived.KernelRfl
import Derived.Deep.LoopGhost
import Derived.CallsIn
import Derived.Deep.QuietTactic
import Derived.BigQuiet
import Derived.Deep.Draws
import Derived.WalkSpells
import Derived.Lib.Walk
import Derived.Lib.Strings
import Derived.Maps.OwnOps
import Derived.Maps.OwnSet
import Derived.Deep.RegionWith
import Derived.StillTailTactics
import Derived.WalkMore
namespace Go.Proofs.YteknngncnbfbnaaGreatDoor
open Go Go.RowKit

theorem letters_no (b : Nat) (s : ByteArray) (k fr bm bg : Nat) (hk : k ≤ s.size) (w : World) (h : Scn w b s k fr bm bg) (hon : onB letB ((bs s).drop k) = false) :
    Calls Tryz.prog 131 #[.pointer (some ⟨b, 0, none⟩)] w fun e w' => e = .returned (.int .u8 0) ∧ Scn w' b s k fr bm bg ∧ Sk b w w' := by
  have hc := on_let b s k hk w (cell0 h.sc) (cell1 h.sc)
  rw [hon] at hc
  clear hon
  go_enter Tryz.func131, Tryz.ntmps131
  go_wp2_with (go_at_call 143; refine hc.mono ?_; clear hc; rintro e w' ⟨rfl, n, rfl⟩)
  go_ret
  exact ⟨rfl, h.drewN _, Sk.drewN _ _ _⟩
theorem piece_bs (s : ByteArray) (k n : Nat) : bs (s.extract k (k + n)) = ((bs s).drop k).take n := by
  rw [bs_mid]; congr 1; omega
/-- What letters are: the kind, or the error. -/
def LetPost (w : World) (b : Nat) (s : ByteArray) (k bm bg : Nat) (e : Ending) (w' : World) : Prop :=
  (memB wordsL (((bs s).drop k).take (spn alnB ((bs s).drop k))) = true ∧ e = .returned (.int .u8 2) ∧ Scn w' b s (k + spn alnB ((bs s).drop k)) k bm bg ∧ Sk b w w') ∨
  (memB wordsL (((bs s).drop k).take (spn alnB ((bs s).drop k))) = false ∧ 12 < spn alnB ((bs s).drop k) ∧ isFault 12 (1 + nl ((bs s).take k)) e ∧ Sk b w w') ∨
  (memB wordsL (((bs s).drop k).take (spn alnB ((bs s).drop k))) = false ∧ spn alnB ((bs s).drop k) ≤ 12 ∧ e = .returned (.int .u8 1) ∧ Scn w' b s (k + spn alnB ((bs s).drop k)) k bm bg ∧ Sk b w w')
set_option maxHeartbeats 800000 in
theorem letters_any (b : Nat) (s : ByteArray) (k bm bg : Nat) (hk : k ≤ s.size) (hs : s.size ≤ 20000) (w : World) (h : Scn w b s k k bm bg) (hon : onB letB ((bs s).drop k) = true) :
    Calls Tryz.prog 131 #[.pointer (some ⟨b, 0, none⟩)] w (LetPost w b s k bm bg) := by
  have hpan := run_panic34
  have hc := on_let b s k hk w (cell0 h.sc) (cell1 h.sc)
  rw [hon] at hc
  clear hon
  have hov := over_aln b s k k (.map (some bm)) (.slice (some ⟨bg, 0, none⟩) 23 23) hk (by omega)
  have hend := spn_end alnB s k hk
  obtain ⟨n, hn⟩ : ∃ n, spn alnB ((bs s).drop k) = n := ⟨_, rfl⟩
  rw [hn] at hov hend
  have hpb := piece_bs s k n
  have HN := Lib.hid hn
  have HPB := Lib.hid hpb
  have HOV := hide hov
  clear hn hpb hov
  cases hw : memB wordsL (((bs s).drop k).take n) with
  | true =>
    have HW := Lib.hid hw
    clear hw
    go_enter Tryz.func131, Tryz.ntmps131
    go_wp2_with (first | (go_at_call 143; refine hc.mono ?_; clear hc; rintro e w' ⟨rfl, n1, rfl⟩) | (go_at_call 144; refine (unhide HOV _ (h.drewN n1).sc).mono ?_; clear HOV; rintro e w2 ⟨rfl, hS, hK⟩))
    have hS2 := (h.drewN n1).go hK hS
    have h3 := cell3 hS2.sc
    have hl : ∀ m, (Instr.lookup 64 (.map (some bm)) (.string (s.extract k (k + n))) false).run Tryz.prog (w2.drewN m) = .ok (.bool true) (w2.drewN m) := fun m => by
      have := (hS2.ws.drewN m).run (s.extract k (k + n)) (by rw [ByteArray.size_extract]; unfold maxLen; omega)
      rw [HPB.out, HW.out] at this
      exact this
    go_quiet ((go_at_call 109; exact Calls.quiet_of (piece_any b s (k + n) k _ _ (by omega) hend _ hS2.sc)))
    go_wp2
    go_ret
    exact .inl ⟨by rw [HN.out]; exact HW.out, rfl, by rw [HN.out]; exact hS2.drewN _, ((Sk.drewN _ _ _).trans hK).trans (Sk.drewN _ _ _)⟩
  | false =>
    have HW := Lib.hid hw
    clear hw
    by_cases h12 : 12 < n
    · go_enter Tryz.func131, Tryz.ntmps131
      go_wp2_with (first | (go_at_call 143; refine hc.mono ?_; clear hc; rintro e w' ⟨rfl, n1, rfl⟩) | (go_at_call 144; refine (unhide HOV _ (h.drewN n1).sc).mono ?_; clear HOV; rintro e w2 ⟨rfl, hS, hK⟩))
      have hS2 := (h.drewN n1).go hK hS
      have h3 := cell3 hS2.sc
      have hl : ∀ m, (Instr.lookup 64 (.map (some bm)) (.string (s.extract k (k + n))) false).run Tryz.prog (w2.drewN m) = .ok (.bool false) (w2.drewN m) := fun m => by
        have := (hS2.ws.drewN m).run (s.extract k (k + n)) (by rw [ByteArray.size_extract]; unfold maxLen; omega)
        rw [HPB.out, HW.out] at this
        exact this
      go_quiet ((go_at_call 109; exact Calls.quiet_of (piece_any b s (k + n) k _ _ (by omega) hend _ hS2.sc)))
      have hsz : (s.extract k (k + n)).size = n := by rw [ByteArray.size_extract]; omega
      go_wp2_with (first | (go_at_call 109; refine (piece_any b s (k + n) k _ _ (by omega) hend _ (hS2.drewN _).sc).mono ?_; rintro e w3 ⟨rfl, n3, rfl⟩) | (go_at_call 110; refine (fault_any b s (k + n) k bm bg 12 hk hs _ (hS2.drewN _)).mono ?_; rintro e w4 ⟨rfl, hS4, hK4⟩))
      go_wp2
      exact ⟨rfl, .inr (.inl ⟨by rw [HN.out]; exact HW.out, by rw [HN.out]; exact h12, rfl, (((Sk.drewN _ _ _).trans hK).trans (Sk.drewN _ _ _)).trans hK4⟩)⟩
    · go_enter Tryz.func131, Tryz.ntmps131
      go_wp2_with (first | (go_at_call 143; refine hc.mono ?_; clear hc; rintro e w' ⟨rfl, n1, rfl⟩) | (go_at_call 144; refine (unhide HOV _ (h.drewN n1).sc).mono ?_; clear HOV; rintro e w2 ⟨rfl, hS, hK⟩))
      have hS2 := (h.drewN n1).go hK hS
      have h3 := cell3 hS2.sc
      have hl : ∀ m, (Instr.lookup 64 (.map (some bm)) (.string (s.extract k (k + n))) false).run Tryz.prog (w2.drewN m) = .ok (.bool false) (w2.drewN m) := fun m => by
        have := (hS2.ws.drewN m).run (s.extract k (k + n)) (by rw [ByteArray.size_extract]; unfold maxLen; omega)
        rw [HPB.out, HW.out] at this
        exact this
      go_quiet ((go_at_call 109; exact Calls.quiet_of (piece_any b s (k + n) k _ _ (by omega) hend _ hS2.sc)))
      have hsz : (s.extract k (k + n)).size = n := by rw [ByteArray.size_extract]; omega
      go_wp2_with (go_at_call 109; refine (piece_any b s (k + n) k _ _ (by omega) hend _ (hS2.drewN _).sc).mono ?_; rintro e w3 ⟨rfl, n3, rfl⟩)
      go_ret
      exact .inr (.inr ⟨by rw [HN.out]; exact HW.out, by rw [HN.out]; omega, rfl, by rw [HN.out]; exact hS2.drewN _, ((Sk.drewN _ _ _).trans hK).trans (Sk.drewN _ _ _)⟩)
end Go.Proofs.YteknngncnbfbnaaGreatDoor
