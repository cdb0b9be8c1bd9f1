/- The next piece of a source of at most 20000 bytes, or its fault. -/
import Derived.Test.YteknngncnbfbnaaGreatDoorFo
import Derived.Tactics
import Derived.Tactics2
import Derived.WalkKit
import Derived.LoopTactic
import Derived.Outline
import Derived.Lib.Hide
import Derived.Handy
import Derived.KernelRfl
import Derived.Deep.LoopGhost
import Derived.CallsIn
import Derived.Deep.QuietTactic
import Derived.BigQuiet
import Derived.Deep.Draws
import Derived.WalkSpells
import Derived.Lib.Walk
import Derived.Lib.Strings
import Derived.Maps.OwnOps
import Derived.Maps.OwnSet
import Derived.Deep.RegionWith
import Derived.StillTailTactics
import Derived.WalkMore
import Derived.Laws.EntriesVeiled
namespace Go.Proofs.YteknngncnbfbnaaGreatDoor
open Go Go.RowKit

/-- What 'next' does. -/
def NextPost (w : World) (b : Nat) (s : ByteArray) (k bm bg : Nat) (e : Ending) (w' : World) : Prop :=
  match firstL ((bs s).drop k) with
  | .ok kd n => e = .returned (.agg #[.int .u8 kd, .string (s.extract k (k + n))]) ∧ Scn w' b s (k + n) k bm bg ∧ Sk b w w'
  | .bad x => isFault x (1 + nl ((bs s).take k)) e ∧ Sk b w w'
def findersV : Value := .agg #[.func (.func 128) #[] #[], .func (.func 129) #[] #[], .func (.func 130) #[] #[], .func (.func 131) #[] #[], .func (.func 132) #[] #[], .func (.func 133) #[] #[], .func (.func 134) #[] #[]]
theorem finders_any (w : World) : Calls Tryz.prog 108 #[] w fun e w' => e = .returned findersV ∧ Below w.heap.size w w' := by
  go_enter Tryz.func108, Tryz.ntmps108
  go_wp2
  refine bodyPost_ret (v := findersV) (by simp [results, Tryz.results108, go_sem, findersV]) rfl ⟨rfl, ?_⟩
  exact (Below.refl _ _).alloc (Nat.le_refl _) _
theorem run_fin0 (w : World) : (Instr.index 132 findersV (.int .i64 0)).run Tryz.prog w = .ok (.func (.func 128) #[] #[]) w := by kernel_rfl
theorem run_fin1 (w : World) : (Instr.index 132 findersV (.int .i64 1)).run Tryz.prog w = .ok (.func (.func 129) #[] #[]) w := by kernel_rfl
theorem run_fin2 (w : World) : (Instr.index 132 findersV (.int .i64 2)).run Tryz.prog w = .ok (.func (.func 130) #[] #[]) w := by kernel_rfl
theorem run_fin3 (w : World) : (Instr.index 132 findersV (.int .i64 3)).run Tryz.prog w = .ok (.func (.func 131) #[] #[]) w := by kernel_rfl
theorem run_fin4 (w : World) : (Instr.index 132 findersV (.int .i64 4)).run Tryz.prog w = .ok (.func (.func 132) #[] #[]) w := by kernel_rfl
theorem run_fin5 (w : World) : (Instr.index 132 findersV (.int .i64 5)).run Tryz.prog w = .ok (.func (.func 133) #[] #[]) w := by kernel_rfl
theorem run_fin6 (w : World) : (Instr.index 132 findersV (.int .i64 6)).run Tryz.prog w = .ok (.func (.func 134) #[] #[]) w := by kernel_rfl
set_option maxHeartbeats 4000000 in
theorem next_any (b : Nat) (s : ByteArray) (k fr bm bg : Nat) (hk : k ≤ s.size) (hs : s.size ≤ 20000) (w : World) (h : Scn w b s k fr bm bg) :
    Calls Tryz.prog 86 #[.pointer (some ⟨b, 0, none⟩)] w (NextPost w b s k bm bg) := by
  have hpan := run_panic34
  have h1 := cell1 h.sc
  go_enter Tryz.func86, Tryz.ntmps86
  go_upto_region 1 with (fail)
  obtain ⟨w0, hw0⟩ : ∃ w0, w.alloc (.cells #[.int .u8 0, .string ⟨#[]⟩] 38) = w0 := ⟨_, rfl⟩
  have hR : Blk w0 w.heap.size [.int .u8 0, .string ⟨#[]⟩] 38 := by rw [← hw0]; exact Blk.new w [.int .u8 0, .string ⟨#[]⟩] 38
  have hK0 : Sk b w w0 := by rw [← hw0]; exact Sk.alloc _ _ _
  have hS0 : Scn w0 b s k fr bm bg := h.go hK0 (by rw [← hw0]; exact Blk.alloc h.sc _)
  have hne : w.heap.size ≠ b := fun e => by have := Blk.lt h.sc; omega
  have hnm : w.heap.size ≠ bm := fun e => by have := h.ws.lt; omega
  have hng : w.heap.size ≠ bg := fun e => by have := h.sg.lt; omega
  have hten : 10 ≤ w.heap.size := h.env.sz
  rw [hw0]
  clear hw0 h1 h
  have h1 := cell1 hS0.sc
  have hf2 := Blk.frozen hS0.sc 2
  have h2 := cell2 hS0.sc
  go_wp2_with (go_at_call 108; refine (finders_any _).mono ?_; rintro e w1 ⟨rfl, hB⟩)
  have hK1 : Sk b w w1 := ((hK0.trans (Sk.setCell _ _ _ _)).trans (Sk.below hB))
  have hS1 : Scn w1 b s k k bm bg := by
    have hs1 : Sc (w0.setCell ⟨b, 2, none⟩ (.int .i64 k)) b s k k (.map (some bm)) (.slice (some ⟨bg, 0, none⟩) 23 23) := hS0.sc.from_ k
    have hS' := hS0.go (Sk.setCell b w0 2 (.int .i64 k)) hs1
    exact hS'.go (Sk.below hB) (Blk.below hs1 hB (Blk.lt hs1))
  have hR1 : Blk w1 w.heap.size [.int .u8 0, .string ⟨#[]⟩] 38 := by
    have h' := hR.sk (Sk.setCell b w0 2 (.int .i64 k)) hne
    exact h'.below hB h'.lt
  clear hR hS0 hB h1 h2 hf2 hK0
  go_loopg [15] 7 (fun n i wr => ∃ j : Nat, j ≤ 7 ∧ n = 7 - j ∧ i = .int .i64 j ∧ Scn wr b s k k bm bg ∧ Blk wr w.heap.size [.int .u8 0, .string ⟨#[]⟩] 38 ∧ Sk b w wr ∧ Hid (firstL ((bs s).drop k) = (restO j ((bs s).drop k)).getD (.bad 10)))
  case atStart => exact ⟨0, by omega, rfl, rfl, hS1, hR1, hK1, Lib.hid rfl⟩
  case round =>
    clear hS1 hR1 hK1
    obtain ⟨j, hj, rfl, rfl, hS, hR, hK, HF⟩ := hrel
    have hc0 := hR.cell 0
    have hc1 := hR.cell 1
    rcases (show j = 0 ∨ j = 1 ∨ j = 2 ∨ j = 3 ∨ j = 4 ∨ j = 5 ∨ j = 6 ∨ j = 7 by omega) with rfl | rfl | rfl | rfl | rfl | rfl | rfl | rfl
    · have hix := run_fin0
      have hc := fin0_any b s k bm bg hk hs wr hS
      cases hf : fin0 ((bs s).drop k) with
      | none =>
        rw [hf] at hc
        have HC := hide hc
        have HN : Hid (firstL ((bs s).drop k) = (restO 1 ((bs s).drop k)).getD (.bad 10)) := by
          have := HF.out
          rw [rest0, hf] at this
          exact this
        clear hc hf HF
        go_wp2_with (go_at_call 128; refine (unhide HC).mono ?_; clear HC; rintro e w2 ⟨rfl, hS2, hK2⟩)
        go_roundg (7 - 1)
        case measure => omega
        case rel => exact ⟨1, by omega, rfl, rfl, hS2, hR.sk hK2 hne, hK.trans hK2, HN⟩
      | some p =>
        rw [hf] at hc
        have HN : Hid (firstL ((bs s).drop k) = p) := by
          have := HF.out
          rw [rest0, hf] at this
          exact this
        cases p with
        | bad x =>
          have HC := hide hc
          clear hc hf HF
          go_wp2_with (go_at_call 128; refine (unhide HC).mono ?_; clear HC; rintro e w2 ⟨rfl, hK2⟩)
          exact ⟨rfl, by unfold NextPost; rw [HN.out]; exact ⟨rfl, hK.trans hK2⟩⟩
        | ok kd n =>
          have HC := hide hc
          obtain ⟨hkd1, hkd8, hn1, hnl⟩ := firstL_ok HN.out
          rw [List.length_drop, bs_len] at hnl
          have hkd : ((kd : Int) != 0) = true := by simp; omega
          clear hc hf HF
          go_wp2_with (first | (go_at_call 128; refine (unhide HC).mono ?_; clear HC; rintro e w2 ⟨rfl, hS2, hK2⟩; have hR2 := hR.sk hK2 hne) | (go_at_call 109; refine (piece_any b s (k + n) k _ _ (by omega) (by omega) _ hS2.sc).mono ?_; rintro e w3 ⟨rfl, n3, rfl⟩; have hd0 := hR2.cell 0; have hd1 := hR2.cell 1; have hz0 := hR2.frozen 0; have hz1 := hR2.frozen 1))
          refine bodyPost_ret (v := .agg #[.int .u8 kd, .string (s.extract k (k + n))]) (by simp [results, Tryz.results86, go_sem, hd0, hd1]) rfl ?_
          unfold NextPost
          rw [HN.out]
          refine ⟨rfl, ?_, ?_⟩
          · exact ((hS2.drewN _).setOther hne hnm hng hten _ _).setOther hne hnm hng hten _ _
          · exact ((((hK.trans hK2).trans (Sk.drewN _ _ _)).setNew (Nat.le_refl _) _).setNew (Nat.le_refl _) _)
    · have hix := run_fin1
      have hc := fin1_any b s k bm bg hk hs wr hS
      cases hf : fin1 ((bs s).drop k) with
      | none =>
        rw [hf] at hc
        have HC := hide hc
        have HN : Hid (firstL ((bs s).drop k) = (restO 2 ((bs s).drop k)).getD (.bad 10)) := by
          have := HF.out
          rw [rest1, hf] at this
          exact this
        clear hc hf HF
        go_wp2_with (go_at_call 129; refine (unhide HC).mono ?_; clear HC; rintro e w2 ⟨rfl, hS2, hK2⟩)
        go_roundg (7 - 2)
        case measure => omega
        case rel => exact ⟨2, by omega, rfl, rfl, hS2, hR.sk hK2 hne, hK.trans hK2, HN⟩
      | some p =>
        rw [hf] at hc
        have HN : Hid (firstL ((bs s).drop k) = p) := by
          have := HF.out
          rw [rest1, hf] at this
          exact this
        cases p with
        | bad x =>
          have HC := hide hc
          clear hc hf HF
          go_wp2_with (go_at_call 129; refine (unhide HC).mono ?_; clear HC; rintro e w2 ⟨rfl, hK2⟩)
          exact ⟨rfl, by unfold NextPost; rw [HN.out]; exact ⟨rfl, hK.trans hK2⟩⟩
        | ok kd n =>
          have HC := hide hc
          obtain ⟨hkd1, hkd8, hn1, hnl⟩ := firstL_ok HN.out
          rw [List.length_drop, bs_len] at hnl
          have hkd : ((kd : Int) != 0) = true := by simp; omega
          clear hc hf HF
          go_wp2_with (first | (go_at_call 129; refine (unhide HC).mono ?_; clear HC; rintro e w2 ⟨rfl, hS2, hK2⟩; have hR2 := hR.sk hK2 hne) | (go_at_call 109; refine (piece_any b s (k + n) k _ _ (by omega) (by omega) _ hS2.sc).mono ?_; rintro e w3 ⟨rfl, n3, rfl⟩; have hd0 := hR2.cell 0; have hd1 := hR2.cell 1; have hz0 := hR2.frozen 0; have hz1 := hR2.frozen 1))
          refine bodyPost_ret (v := .agg #[.int .u8 kd, .string (s.extract k (k + n))]) (by simp [results, Tryz.results86, go_sem, hd0, hd1]) rfl ?_
          unfold NextPost
          rw [HN.out]
          refine ⟨rfl, ?_, ?_⟩
          · exact ((hS2.drewN _).setOther hne hnm hng hten _ _).setOther hne hnm hng hten _ _
          · exact ((((hK.trans hK2).trans (Sk.drewN _ _ _)).setNew (Nat.le_refl _) _).setNew (Nat.le_refl _) _)
    · have hix := run_fin2
      have hc := fin2_any b s k bm bg hk hs wr hS
      cases hf : fin2 ((bs s).drop k) with
      | none =>
        rw [hf] at hc
        have HC := hide hc
        have HN : Hid (firstL ((bs s).drop k) = (restO 3 ((bs s).drop k)).getD (.bad 10)) := by
          have := HF.out
          rw [rest2, hf] at this
          exact this
        clear hc hf HF
        go_wp2_with (go_at_call 130; refine (unhide HC).mono ?_; clear HC; rintro e w2 ⟨rfl, hS2, hK2⟩)
        go_roundg (7 - 3)
        case measure => omega
        case rel => exact ⟨3, by omega, rfl, rfl, hS2, hR.sk hK2 hne, hK.trans hK2, HN⟩
      | some p =>
        rw [hf] at hc
        have HN : Hid (firstL ((bs s).drop k) = p) := by
          have := HF.out
          rw [rest2, hf] at this
          exact this
        cases p with
        | bad x =>
          have HC := hide hc
          clear hc hf HF
          go_wp2_with (go_at_call 130; refine (unhide HC).mono ?_; clear HC; rintro e w2 ⟨rfl, hK2⟩)
          exact ⟨rfl, by unfold NextPost; rw [HN.out]; exact ⟨rfl, hK.trans hK2⟩⟩
        | ok kd n =>
          have HC := hide hc
          obtain ⟨hkd1, hkd8, hn1, hnl⟩ := firstL_ok HN.out
          rw [List.length_drop, bs_len] at hnl
          have hkd : ((kd : Int) != 0) = true := by simp; omega
          clear hc hf HF
          go_wp2_with (first | (go_at_call 130; refine (unhide HC).mono ?_; clear HC; rintro e w2 ⟨rfl, hS2, hK2⟩; have hR2 := hR.sk hK2 hne) | (go_at_call 109; refine (piece_any b s (k + n) k _ _ (by omega) (by omega) _ hS2.sc).mono ?_; rintro e w3 ⟨rfl, n3, rfl⟩; have hd0 := hR2.cell 0; have hd1 := hR2.cell 1; have hz0 := hR2.frozen 0; have hz1 := hR2.frozen 1))
          refine bodyPost_ret (v := .agg #[.int .u8 kd, .string (s.extract k (k + n))]) (by simp [results, Tryz.results86, go_sem, hd0, hd1]) rfl ?_
          unfold NextPost
          rw [HN.out]
          refine ⟨rfl, ?_, ?_⟩
          · exact ((hS2.drewN _).setOther hne hnm hng hten _ _).setOther hne hnm hng hten _ _
          · exact ((((hK.trans hK2).trans (Sk.drewN _ _ _)).setNew (Nat.le_refl _) _).setNew (Nat.le_refl _) _)
    · have hix := run_fin3
      have hc := fin3_any b s k bm bg hk hs wr hS
      cases hf : fin3 ((bs s).drop k) with
      | none =>
        rw [hf] at hc
        have HC := hide hc
        have HN : Hid (firstL ((bs s).drop k) = (restO 4 ((bs s).drop k)).getD (.bad 10)) := by
          have := HF.out
          rw [rest3, hf] at this
          exact this
        clear hc hf HF
        go_wp2_with (go_at_call 131; refine (unhide HC).mono ?_; clear HC; rintro e w2 ⟨rfl, hS2, hK2⟩)
        go_roundg (7 - 4)
        case measure => omega
        case rel => exact ⟨4, by omega, rfl, rfl, hS2, hR.sk hK2 hne, hK.trans hK2, HN⟩
      | some p =>
        rw [hf] at hc
        have HN : Hid (firstL ((bs s).drop k) = p) := by
          have := HF.out
          rw [rest3, hf] at this
          exact this
        cases p with
        | bad x =>
          have HC := hide hc
          clear hc hf HF
          go_wp2_with (go_at_call 131; refine (unhide HC).mono ?_; clear HC; rintro e w2 ⟨rfl, hK2⟩)
          exact ⟨rfl, by unfold NextPost; rw [HN.out]; exact ⟨rfl, hK.trans hK2⟩⟩
        | ok kd n =>
          have HC := hide hc
          obtain ⟨hkd1, hkd8, hn1, hnl⟩ := firstL_ok HN.out
          rw [List.length_drop, bs_len] at hnl
          have hkd : ((kd : Int) != 0) = true := by simp; omega
          clear hc hf HF
          go_wp2_with (first | (go_at_call 131; refine (unhide HC).mono ?_; clear HC; rintro e w2 ⟨rfl, hS2, hK2⟩; have hR2 := hR.sk hK2 hne) | (go_at_call 109; refine (piece_any b s (k + n) k _ _ (by omega) (by omega) _ hS2.sc).mono ?_; rintro e w3 ⟨rfl, n3, rfl⟩; have hd0 := hR2.cell 0; have hd1 := hR2.cell 1; have hz0 := hR2.frozen 0; have hz1 := hR2.frozen 1))
          refine bodyPost_ret (v := .agg #[.int .u8 kd, .string (s.extract k (k + n))]) (by simp [results, Tryz.results86, go_sem, hd0, hd1]) rfl ?_
          unfold NextPost
          rw [HN.out]
          refine ⟨rfl, ?_, ?_⟩
          · exact ((hS2.drewN _).setOther hne hnm hng hten _ _).setOther hne hnm hng hten _ _
          · exact ((((hK.trans hK2).trans (Sk.drewN _ _ _)).setNew (Nat.le_refl _) _).setNew (Nat.le_refl _) _)
    · have hix := run_fin4
      have hc := fin4_any b s k bm bg hk hs wr hS
      cases hf : fin4 ((bs s).drop k) with
      | none =>
        rw [hf] at hc
        have HC := hide hc
        have HN : Hid (firstL ((bs s).drop k) = (restO 5 ((bs s).drop k)).getD (.bad 10)) := by
          have := HF.out
          rw [rest4, hf] at this
          exact this
        clear hc hf HF
        go_wp2_with (go_at_call 132; refine (unhide HC).mono ?_; clear HC; rintro e w2 ⟨rfl, hS2, hK2⟩)
        go_roundg (7 - 5)
        case measure => omega
        case rel => exact ⟨5, by omega, rfl, rfl, hS2, hR.sk hK2 hne, hK.trans hK2, HN⟩
      | some p =>
        rw [hf] at hc
        have HN : Hid (firstL ((bs s).drop k) = p) := by
          have := HF.out
          rw [rest4, hf] at this
          exact this
        cases p with
        | bad x =>
          have HC := hide hc
          clear hc hf HF
          go_wp2_with (go_at_call 132; refine (unhide HC).mono ?_; clear HC; rintro e w2 ⟨rfl, hK2⟩)
          exact ⟨rfl, by unfold NextPost; rw [HN.out]; exact ⟨rfl, hK.trans hK2⟩⟩
        | ok kd n =>
          have HC := hide hc
          obtain ⟨hkd1, hkd8, hn1, hnl⟩ := firstL_ok HN.out
          rw [List.length_drop, bs_len] at hnl
          have hkd : ((kd : Int) != 0) = true := by simp; omega
          clear hc hf HF
          go_wp2_with (first | (go_at_call 132; refine (unhide HC).mono ?_; clear HC; rintro e w2 ⟨rfl, hS2, hK2⟩; have hR2 := hR.sk hK2 hne) | (go_at_call 109; refine (piece_any b s (k + n) k _ _ (by omega) (by omega) _ hS2.sc).mono ?_; rintro e w3 ⟨rfl, n3, rfl⟩; have hd0 := hR2.cell 0; have hd1 := hR2.cell 1; have hz0 := hR2.frozen 0; have hz1 := hR2.frozen 1))
          refine bodyPost_ret (v := .agg #[.int .u8 kd, .string (s.extract k (k + n))]) (by simp [results, Tryz.results86, go_sem, hd0, hd1]) rfl ?_
          unfold NextPost
          rw [HN.out]
          refine ⟨rfl, ?_, ?_⟩
          · exact ((hS2.drewN _).setOther hne hnm hng hten _ _).setOther hne hnm hng hten _ _
          · exact ((((hK.trans hK2).trans (Sk.drewN _ _ _)).setNew (Nat.le_refl _) _).setNew (Nat.le_refl _) _)
    · have hix := run_fin5
      have hc := fin5_any b s k bm bg hk hs wr hS
      cases hf : fin5 ((bs s).drop k) with
      | none =>
        rw [hf] at hc
        have HC := hide hc
        have HN : Hid (firstL ((bs s).drop k) = (restO 6 ((bs s).drop k)).getD (.bad 10)) := by
          have := HF.out
          rw [rest5, hf] at this
          exact this
        clear hc hf HF
        go_wp2_with (go_at_call 133; refine (unhide HC).mono ?_; clear HC; rintro e w2 ⟨rfl, hS2, hK2⟩)
        go_roundg (7 - 6)
        case measure => omega
        case rel => exact ⟨6, by omega, rfl, rfl, hS2, hR.sk hK2 hne, hK.trans hK2, HN⟩
      | some p =>
        rw [hf] at hc
        have HN : Hid (firstL ((bs s).drop k) = p) := by
          have := HF.out
          rw [rest5, hf] at this
          exact this
        cases p with
        | bad x =>
          have HC := hide hc
          clear hc hf HF
          go_wp2_with (go_at_call 133; refine (unhide HC).mono ?_; clear HC; rintro e w2 ⟨rfl, hK2⟩)
          exact ⟨rfl, by unfold NextPost; rw [HN.out]; exact ⟨rfl, hK.trans hK2⟩⟩
        | ok kd n =>
          have HC := hide hc
          obtain ⟨hkd1, hkd8, hn1, hnl⟩ := firstL_ok HN.out
          rw [List.length_drop, bs_len] at hnl
          have hkd : ((kd : Int) != 0) = true := by simp; omega
          clear hc hf HF
          go_wp2_with (first | (go_at_call 133; refine (unhide HC).mono ?_; clear HC; rintro e w2 ⟨rfl, hS2, hK2⟩; have hR2 := hR.sk hK2 hne) | (go_at_call 109; refine (piece_any b s (k + n) k _ _ (by omega) (by omega) _ hS2.sc).mono ?_; rintro e w3 ⟨rfl, n3, rfl⟩; have hd0 := hR2.cell 0; have hd1 := hR2.cell 1; have hz0 := hR2.frozen 0; have hz1 := hR2.frozen 1))
          refine bodyPost_ret (v := .agg #[.int .u8 kd, .string (s.extract k (k + n))]) (by simp [results, Tryz.results86, go_sem, hd0, hd1]) rfl ?_
          unfold NextPost
          rw [HN.out]
          refine ⟨rfl, ?_, ?_⟩
          · exact ((hS2.drewN _).setOther hne hnm hng hten _ _).setOther hne hnm hng hten _ _
          · exact ((((hK.trans hK2).trans (Sk.drewN _ _ _)).setNew (Nat.le_refl _) _).setNew (Nat.le_refl _) _)
    · have hix := run_fin6
      have hc := fin6_any b s k bm bg hk hs wr hS
      cases hf : fin6 ((bs s).drop k) with
      | none =>
        rw [hf] at hc
        have HC := hide hc
        have HN : Hid (firstL ((bs s).drop k) = (restO 7 ((bs s).drop k)).getD (.bad 10)) := by
          have := HF.out
          rw [rest6, hf] at this
          exact this
        clear hc hf HF
        go_wp2_with (go_at_call 134; refine (unhide HC).mono ?_; clear HC; rintro e w2 ⟨rfl, hS2, hK2⟩)
        go_roundg (7 - 7)
        case measure => omega
        case rel => exact ⟨7, by omega, rfl, rfl, hS2, hR.sk hK2 hne, hK.trans hK2, HN⟩
      | some p =>
        rw [hf] at hc
        have HN : Hid (firstL ((bs s).drop k) = p) := by
          have := HF.out
          rw [rest6, hf] at this
          exact this
        cases p with
        | bad x =>
          have HC := hide hc
          clear hc hf HF
          go_wp2_with (go_at_call 134; refine (unhide HC).mono ?_; clear HC; rintro e w2 ⟨rfl, hK2⟩)
          exact ⟨rfl, by unfold NextPost; rw [HN.out]; exact ⟨rfl, hK.trans hK2⟩⟩
        | ok kd n =>
          have HC := hide hc
          obtain ⟨hkd1, hkd8, hn1, hnl⟩ := firstL_ok HN.out
          rw [List.length_drop, bs_len] at hnl
          have hkd : ((kd : Int) != 0) = true := by simp; omega
          clear hc hf HF
          go_wp2_with (first | (go_at_call 134; refine (unhide HC).mono ?_; clear HC; rintro e w2 ⟨rfl, hS2, hK2⟩; have hR2 := hR.sk hK2 hne) | (go_at_call 109; refine (piece_any b s (k + n) k _ _ (by omega) (by omega) _ hS2.sc).mono ?_; rintro e w3 ⟨rfl, n3, rfl⟩; have hd0 := hR2.cell 0; have hd1 := hR2.cell 1; have hz0 := hR2.frozen 0; have hz1 := hR2.frozen 1))
          refine bodyPost_ret (v := .agg #[.int .u8 kd, .string (s.extract k (k + n))]) (by simp [results, Tryz.results86, go_sem, hd0, hd1]) rfl ?_
          unfold NextPost
          rw [HN.out]
          refine ⟨rfl, ?_, ?_⟩
          · exact ((hS2.drewN _).setOther hne hnm hng hten _ _).setOther hne hnm hng hten _ _
          · exact ((((hK.trans hK2).trans (Sk.drewN _ _ _)).setNew (Nat.le_refl _) _).setNew (Nat.le_refl _) _)
    · have hfr : k ≤ s.size := hk
      go_wp2_with (go_at_call 110; refine (fault_any b s k k bm bg 10 hk hs _ hS).mono ?_; rintro e w3 ⟨rfl, hS3, hK3⟩)
      go_wp2
      exact ⟨rfl, by unfold NextPost; rw [HF.out]; exact ⟨rfl, hK.trans hK3⟩⟩
end Go.Proofs.YteknngncnbfbnaaGreatDoor
