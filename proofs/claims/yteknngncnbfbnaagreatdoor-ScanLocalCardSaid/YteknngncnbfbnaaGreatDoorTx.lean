/- Texts as pieces, or that they are none, for sources of at most 20000 bytes. -/
import Derived.Test.YteknngncnbfbnaaGreatDoorPr
import Derived.Test.YteknngncnbfbnaaGreatDoorLe
import Derived.Tactics
import Derived.Tactics2
import Derived.WalkKit
import Derived.LoopTactic
import Derived.Outline
import Derived.Lib.Hide
import Derived.Handy
import Derived.KernelRfl
import Derived.Deep.LoopGhost
import Derived.CallsIn
import Derived.Deep.QuietTactic
import Derived.BigQuiet
import Derived.Deep.Draws
import Derived.WalkSpells
import Derived.Lib.Walk
import Derived.Lib.Strings
import Derived.Maps.OwnOps
import Derived.Maps.OwnSet
import Derived.Deep.RegionWith
import Derived.StillTailTactics
import Derived.WalkMore
namespace Go.Proofs.YteknngncnbfbnaaGreatDoor
open Go Go.RowKit

/-- The bytes of a text's piece between its signs. -/
def txtLen (l : List UInt8) : Nat := spn txtB (l.drop 1)
def txtOk (l : List UInt8) : Bool := preB (l.drop (1 + txtLen l)) [34] && brandB ((l.drop 1).take (txtLen l))
def TxtPost (w : World) (b : Nat) (s : ByteArray) (k bm bg : Nat) (e : Ending) (w' : World) : Prop :=
  (txtOk ((bs s).drop k) = true ∧ e = .returned (.int .u8 4) ∧ Scn w' b s (k + (txtLen ((bs s).drop k) + 2)) k bm bg ∧ Sk b w w') ∨
  (txtOk ((bs s).drop k) = false ∧ isFault 14 (1 + nl ((bs s).take k)) e ∧ Sk b w w')
theorem text_no (b : Nat) (s : ByteArray) (k fr bm bg : Nat) (hk : k ≤ s.size) (w : World) (h : Scn w b s k fr bm bg) (hp : preB ((bs s).drop k) [34] = false) :
    Calls Tryz.prog 133 #[.pointer (some ⟨b, 0, none⟩)] w fun e w' => e = .returned (.int .u8 0) ∧ Scn w' b s k fr bm bg ∧ Sk b w w' := by
  go_enter Tryz.func133, Tryz.ntmps133
  go_wp2_with (go_at_call 145; refine (take_no b s ⟨#[34]⟩ k fr _ _ hk _ h.sc hp).mono ?_; rintro e w1 ⟨rfl, hS, hK⟩)
  go_ret
  exact ⟨rfl, h.go hK hS, hK⟩
theorem text_any (b : Nat) (s : ByteArray) (k bm bg : Nat) (hs : s.size ≤ 20000) (w : World) (h : Scn w b s k k bm bg) (hp : preB ((bs s).drop k) [34] = true) :
    Calls Tryz.prog 133 #[.pointer (some ⟨b, 0, none⟩)] w (TxtPost w b s k bm bg) := by
  have hpan := run_panic34
  have hk1 : k + 1 ≤ s.size := pre_room hp (by decide)
  have hov := over_txt b s (k + 1) k (.map (some bm)) (.slice (some ⟨bg, 0, none⟩) 23 23) hk1 (by omega)
  have hend := spn_end txtB s (k + 1) hk1
  obtain ⟨n, hn⟩ : ∃ n, spn txtB ((bs s).drop (k + 1)) = n := ⟨_, rfl⟩
  rw [hn] at hov hend
  have hln : txtLen ((bs s).drop k) = n := by unfold txtLen; rw [List.drop_drop]; exact hn
  have hok : txtOk ((bs s).drop k) = (preB ((bs s).drop (k + 1 + n)) [34] && brandB (((bs s).drop (k + 1)).take n)) := by
    unfold txtOk
    rw [hln, List.drop_drop, List.drop_drop, Nat.add_assoc]
  have hsz : (s.extract k (k + 1 + n)).size = 1 + n := by rw [ByteArray.size_extract]; omega
  have hbx : (s.extract k (k + 1 + n)).extract 1 (s.extract k (k + 1 + n)).size = s.extract (k + 1) (k + 1 + n) := by
    apply bs_ext
    rw [bs_drop, bs_mid, bs_mid, List.drop_take, List.drop_drop]
    congr 1
  have hbr := isBrand_any (s.extract (k + 1) (k + 1 + n)) (by rw [ByteArray.size_extract]; unfold maxLen; omega)
  rw [piece_bs, ← hbx, hsz] at hbr
  have HLN := Lib.hid hln
  have HOK := Lib.hid hok
  have HP := Lib.hid hp
  have HOV := hide hov
  clear hln hok hp hov hn hbx
  cases hq : preB ((bs s).drop (k + 1 + n)) [34] with
  | true =>
    have HQ := Lib.hid hq
    clear hq
    cases hb : brandB (((bs s).drop (k + 1)).take n) with
    | true =>
      rw [hb] at hbr
      have HB := Lib.hid hb
      have HBR := hide hbr
      clear hb hbr
      go_enter Tryz.func133, Tryz.ntmps133
      go_wp2_with (first | (go_at_call 145; refine (take_yes b s ⟨#[34]⟩ k k _ _ (by omega) (by omega) _ h.sc HP.out).mono ?_; clear HP; rintro e w1 ⟨rfl, hS, hK⟩) | (go_at_call 144; refine (unhide HOV _ hS).mono ?_; clear HOV; rintro e w2 ⟨rfl, hS2, hK2⟩) | (go_at_call 109; refine (piece_any b s (k + 1 + n) k _ _ (by omega) hend _ hS2).mono ?_; rintro e w3 ⟨rfl, n3, rfl⟩) | (go_at_call 145; refine (take_yes b s ⟨#[34]⟩ (k + 1 + n) k _ _ hend (by omega) _ (hS2.drewN n3) HQ.out).mono ?_; rintro e w4 ⟨rfl, hS4, hK4⟩; have hS5 := (h.go hK hS).go ((hK2.trans (Sk.drewN _ _ _)).trans hK4) hS4) | (go_at_call 23; refine (unhide HBR _).mono ?_; rintro e w5 ⟨rfl, rfl⟩))
      go_ret
      refine .inl ⟨by rw [HOK.out, HQ.out, HB.out]; rfl, rfl, ?_, ?_⟩
      · rw [HLN.out]
        have e : k + (n + 2) = k + 1 + n + 1 := by omega
        rw [e]; exact hS5
      · exact hK.trans ((hK2.trans (Sk.drewN _ _ _)).trans hK4)
    | false =>
      rw [hb] at hbr
      have HB := Lib.hid hb
      have HBR := hide hbr
      clear hb hbr
      go_enter Tryz.func133, Tryz.ntmps133
      go_wp2_with (first | (go_at_call 145; refine (take_yes b s ⟨#[34]⟩ k k _ _ (by omega) (by omega) _ h.sc HP.out).mono ?_; clear HP; rintro e w1 ⟨rfl, hS, hK⟩) | (go_at_call 144; refine (unhide HOV _ hS).mono ?_; clear HOV; rintro e w2 ⟨rfl, hS2, hK2⟩) | (go_at_call 109; refine (piece_any b s (k + 1 + n) k _ _ (by omega) hend _ hS2).mono ?_; rintro e w3 ⟨rfl, n3, rfl⟩) | (go_at_call 145; refine (take_yes b s ⟨#[34]⟩ (k + 1 + n) k _ _ hend (by omega) _ (hS2.drewN n3) HQ.out).mono ?_; rintro e w4 ⟨rfl, hS4, hK4⟩; have hS5 := (h.go hK hS).go ((hK2.trans (Sk.drewN _ _ _)).trans hK4) hS4) | (go_at_call 23; refine (unhide HBR _).mono ?_; rintro e w5 ⟨rfl, rfl⟩) | (go_at_call 110; refine (fault_any b s _ k bm bg 14 (by omega) hs _ hS5).mono ?_; rintro e w6 ⟨rfl, hS6, hK6⟩))
      go_wp2
      exact ⟨rfl, .inr ⟨by rw [HOK.out, HQ.out, HB.out]; rfl, rfl, (hK.trans ((hK2.trans (Sk.drewN _ _ _)).trans hK4)).trans hK6⟩⟩
  | false =>
      have HQ := Lib.hid hq
      clear hq hbr
      go_enter Tryz.func133, Tryz.ntmps133
      go_wp2_with (first | (go_at_call 145; refine (take_yes b s ⟨#[34]⟩ k k _ _ (by omega) (by omega) _ h.sc HP.out).mono ?_; clear HP; rintro e w1 ⟨rfl, hS, hK⟩) | (go_at_call 144; refine (unhide HOV _ hS).mono ?_; clear HOV; rintro e w2 ⟨rfl, hS2, hK2⟩) | (go_at_call 109; refine (piece_any b s (k + 1 + n) k _ _ (by omega) hend _ hS2).mono ?_; rintro e w3 ⟨rfl, n3, rfl⟩) | (go_at_call 145; refine (take_no b s ⟨#[34]⟩ (k + 1 + n) k _ _ hend _ (hS2.drewN n3) HQ.out).mono ?_; rintro e w4 ⟨rfl, hS4, hK4⟩; have hS5 := (h.go hK hS).go ((hK2.trans (Sk.drewN _ _ _)).trans hK4) hS4) | (go_at_call 110; refine (fault_any b s _ k bm bg 14 (by omega) hs _ hS5).mono ?_; rintro e w6 ⟨rfl, hS6, hK6⟩))
      go_wp2
      exact ⟨rfl, .inr ⟨by rw [HOK.out, HQ.out]; rfl, rfl, (hK.trans ((hK2.trans (Sk.drewN _ _ _)).trans hK4)).trans hK6⟩⟩
end Go.Proofs.YteknngncnbfbnaaGreatDoor
