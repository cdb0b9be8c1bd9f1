/- Part 40 of 53: the texts Wo, one behind the other. -/
import Derived.Test.YteaokkaidcbdlaaGreatDoorJ38
import Derived.Tactics
import Derived.Tactics2
import Derived.WalkKit
import Derived.LoopTactic
import Derived.Outline
import Derived.Lib.Hide
import Derived.Handy
import Derived.KernelRfl
import Derived.Deep.LoopGhost
import Derived.CallsIn
import Derived.Deep.QuietTactic
import Derived.BigQuiet
import Derived.Deep.Draws
import Derived.WalkSpells
import Derived.Lib.Walk
import Derived.Lib.Strings
import Derived.Maps.OwnOps
import Derived.Maps.OwnSet
import Derived.Deep.RegionWith
import Derived.StillTailTactics
import Derived.WalkMore
import Derived.RangeFuncNested
import Derived.RangeFuncBound
import Derived.RangeFuncCalls
import Derived.RangeFuncLeaves
import Derived.RangeFuncBox
import Derived.Shelf.Abstract
import Derived.OwnWalkIn
import Derived.TacticsInMore
import Derived.LoopNIn
import Derived.LoopIn
import Derived.RecoverIn
import Derived.Maps.AppendAt
import Derived.RegionTactic
import Derived.ChangeAlike
import Derived.OwnWalk
import Derived.Deep.AppendLies
import Derived.Deep.DeepCutAuto
import Derived.Deep.RegionLaw
import Derived.Deep.RegionHeld3
import Derived.Laws.EntriesVeiled
namespace Go.Proofs.YteaokkaidcbdlaaGreatDoor
open Go Go.RowKit Go.Shelf
attribute [local go_sem] Oper.semAt_some
open Go.Sort
set_option maxHeartbeats 2000000 in
set_option maxRecDepth 100000 in
theorem wrPart {W0 w : World} {b tb tk : Nat} {l : List UInt8} {t : TyD} (hT : TyAt W0 tb tk t) (h : WC W0 b l w) (hp : ∀ p ∈ t.parts, p.name.size ≤ 1000 ∧ I64 p.type) (hn : t.parts.length ≤ 10) (hlen : l.length ≤ 800000000) :
    Calls Tryz.prog 291 #[.pointer (some ⟨b, 0, none⟩), .pointer (some ⟨tb, tk, none⟩)] w fun e w' => e = .returned (.tuple #[]) ∧ WS W0.heap.size b w (l ++ fieldsW t.parts) w' := by
  have HB := hide (wrFields hT h hp hn hlen)
  clear h hT hp
  go_enter Tryz.func291, Tryz.ntmps291
  go_wp2_with (first | (go_at_call 287; refine (unhide HB).mono ?_; rintro e w1 ⟨rfl, hs⟩))
  go_end0
  exact ⟨rfl, hs⟩
set_option maxHeartbeats 2000000 in
set_option maxRecDepth 100000 in
theorem wrOvers {W0 w : World} {b tb tk : Nat} {l : List UInt8} {t : TyD} (hT : TyAt W0 tb tk t) (h : WC W0 b l w) (hp : ∀ p ∈ t.overs, p.name.size ≤ 1000 ∧ p.proc.size ≤ 1000) (hn : t.overs.length ≤ 10) (hlen : l.length ≤ 800000000) :
    Calls Tryz.prog 290 #[.pointer (some ⟨b, 0, none⟩), .pointer (some ⟨tb, tk, none⟩)] w fun e w' => e = .returned (.tuple #[]) ∧ WS W0.heap.size b w (l ++ oversW t.overs) w' := by
  have hpl : ∀ p ∈ t.overs, (overW p).length ≤ 2100 := fun p hpm => by
    obtain ⟨h1, h2⟩ := hp p hpm
    unfold overW
    simp only [List.length_append, List.length_cons, ba_size]; omega
  obtain ⟨vp, vm, vo, hTL, -, -, -, -, -, -, -, -, -, c9⟩ := hT
  have k9 := Holds.below h.bel _ _ c9
  obtain ⟨op, cp, rfl⟩ := hTL.overs.form
  go_enter Tryz.func290, Tryz.ntmps290
  go_wp2
  clear k9 c9
  go_loopw [11] (fun i wr => ∃ k : Nat, k ≤ t.overs.length ∧ i = .int .i64 k ∧ WS W0.heap.size b w (l ++ oversW (t.overs.take k)) wr) (fun i _ => t.overs.length - (intOf i).toNat)
  case atStart => exact ⟨0, Nat.zero_le _, rfl, by simpa [oversW] using WS.refl h.at'⟩
  case round =>
    obtain ⟨k, hk, rfl, hs⟩ := hrel
    by_cases hlt : k < t.overs.length
    · have hlt' : (k : Int) < t.overs.length := by omega
      have hbw := h.bel.trans hs.bel
      have hge := hs.at'.ge
      obtain ⟨-, -, -, hat⟩ := hTL.overs.at
      obtain ⟨g, off, rfl, hc0, hc1⟩ := hat k t.overs[k] (List.getElem?_eq_getElem hlt)
      obtain ⟨hps, hpt⟩ := hp _ (List.getElem_mem hlt)
      have e0 := Holds.below hbw _ _ hc0
      have e1 := Holds.below hbw _ _ hc1
      have hfl : (oversW (t.overs.take k)).length ≤ 21000 := Nat.le_trans (take_flatW_len t.overs hpl k) (by omega)
      have hsn : oversW (t.overs.take (k + 1)) = oversW (t.overs.take k) ++ overW t.overs[k] := by
        unfold oversW
        rw [List.take_succ_eq_append_getElem hlt, List.flatMap_append]; simp
      have HSN := Lib.hid hsn
      generalize t.overs[k] = p at hps hpt e0 e1 HSN
      generalize hL : l ++ oversW (t.overs.take k) = L at hs
      have hLl : L.length ≤ 800021000 := by rw [← hL, List.length_append]; omega
      have hz : (⟨#[32]⟩ ++ p.name ++ ⟨#[61]⟩ ++ p.proc : ByteArray).size = p.name.size + p.proc.size + 2 := by simp [ByteArray.size_append]; rw [show (⟨#[32]⟩ : ByteArray).size = 1 from rfl, show (⟨#[61]⟩ : ByteArray).size = 1 from rfl]; omega
      have hd : (⟨#[32]⟩ ++ p.name ++ ⟨#[61]⟩ ++ p.proc : ByteArray).data.toList = overW p := by rw [ByteArray.data_append, ByteArray.data_append, ByteArray.data_append]; simp [overW]
      have hbX : Below wr.heap.size wr (wr.alloc (.cells #[.string p.name, .string p.proc] 116)).drew := (Below.refl _ _).alloc (Nat.le_refl _) _ |>.drew
      have HS := hide (fun w1 (hb : Below wr.heap.size wr w1) => (wr141 (⟨#[32]⟩ ++ p.name ++ ⟨#[61]⟩ ++ p.proc) (hs.below hb).at' (by rw [hz]; omega)).mono (R' := fun e w' => ∃ v, e = .returned v ∧ WS W0.heap.size b w (L ++ overW p) w') (by
        rintro e w' ⟨rfl, h2⟩
        rw [hd] at h2
        exact ⟨_, rfl, (hs.below hb).trans h2⟩))
      have bx := Blk.new wr [.string p.name, .string p.proc] 116
      have c0 := bx.cell 0
      have c1 := bx.cell 1
      simp only [List.getElem?_cons_zero, List.getElem?_cons_succ] at c0 c1
      clear hat hc0 hc1 hsn hz hd hp hpl hTL
      go_wp2
      go_region_with (first | (go_at_call 141; refine (unhide HS _ hbX).mono ?_; rintro e w2 ⟨v2, rfl, h2⟩))
      all_goals (try go_wp2)
      all_goals go_roundw
      all_goals first
        | exact ⟨k + 1, by omega, by go_num, by rw [HSN.out, ← List.append_assoc, hL]; exact h2⟩
        | (simp [intOf]; omega)
    · obtain rfl : k = t.overs.length := by omega
      rw [List.take_length] at hs
      clear hTL hp hpl
      go_wp2
      go_end0
      exact ⟨rfl, hs⟩
end Go.Proofs.YteaokkaidcbdlaaGreatDoor

