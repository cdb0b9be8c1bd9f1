/- Part 39 of 51: the texts Xk, Wq, one behind the other. -/
import Derived.Test.YteaokkaidcbdlaaGreatDoorQ38
import Derived.Test.YteaokkaidcbdlaaGreatDoorRows
import Derived.Handed
import Derived.HandedShaped
import Derived.ProofKit
import Derived.OpenShut
import Derived.LaidMore
import Derived.Lay
import Derived.SevenTiedAt
import Derived.Stop.Joined
import Derived.Lib.LaidU8
import Derived.Lib.LaidTab
import Derived.KernelRfl
import Derived.Carry
import Derived.Tactics
import Derived.Tactics2
import Derived.WalkKit
import Derived.LoopTactic
import Derived.Outline
import Derived.Lib.Hide
import Derived.Handy
import Derived.Deep.LoopGhost
import Derived.CallsIn
import Derived.Deep.QuietTactic
import Derived.BigQuiet
import Derived.Deep.Draws
import Derived.WalkSpells
import Derived.Lib.Walk
import Derived.Lib.Strings
import Derived.Maps.OwnOps
import Derived.Maps.OwnSet
import Derived.Deep.RegionWith
import Derived.StillTailTactics
import Derived.WalkMore
import Derived.RangeFuncNested
import Derived.RangeFuncBound
import Derived.RangeFuncCalls
import Derived.RangeFuncLeaves
import Derived.RangeFuncBox
import Derived.Shelf.Abstract
import Derived.OwnWalkIn
import Derived.TacticsInMore
import Derived.LoopNIn
import Derived.LoopIn
import Derived.RecoverIn
import Derived.Maps.AppendAt
import Derived.RegionTactic
import Derived.ChangeAlike
import Derived.OwnWalk
import Derived.Deep.AppendLies
import Derived.Deep.DeepCutAuto
import Derived.Deep.RegionLaw
import Derived.Deep.RegionHeld3
import Derived.Laws.EntriesVeiled
/- The closed facts of the row of TypesChecks. -/
namespace Go.Proofs.YteaokkaidcbdlaaGreatDoor
open Go Go.RowKit Go.Shelf
theorem jf_inPlace : (Rows.typesChecksRow.inPlace == Tryz.prog.inPlace 3) = true := by kernel_rfl
theorem jf_unfollowed : (Rows.typesChecksRow.unfollowed == Tryz.prog.unfollowed 3) = true := by kernel_rfl
theorem jf_recurses : (Rows.typesChecksRow.recurses == Tryz.prog.recurses 3) = true := by kernel_rfl
theorem jf_named : (Rows.typesChecksRow.named == Tryz.prog.varsNamed 3) = true := by kernel_rfl
theorem jf_wf : Rows.typesChecksRow.wf (OpenSpec.ofChange Rows.typesChecksSpec) = true := by kernel_rfl
theorem jf_maps : mapsRowed Tryz.prog = true := by kernel_rfl
theorem jf_plain : (Rows.typesChecksRow.plainKeys == Tryz.prog.plainKeys) = true := by kernel_rfl
theorem jf_heard : Tryz.prog.stopsHeard = true := by kernel_rfl
theorem jf_enter : Tryz.prog.mayEnter = true := by kernel_rfl
theorem jf_lifts : (Rows.typesChecksRow.lifted == Tryz.prog.liftsFinal) = true := by kernel_rfl
theorem jf_make : (Tryz.prog.make == some Rows.typesChecksRow.make) = true := by kernel_rfl
theorem checks_joined : joinedFacts Tryz.prog 3 Tryz.f3 Rows.typesChecksSpec Rows.typesChecksRow = true := by
  unfold joinedFacts
  rw [jf_wf, laid_out, jf_maps, jf_inPlace, jf_unfollowed, jf_recurses, jf_named, jf_plain, jf_heard, jf_enter, jf_lifts, jf_make]
  kernel_rfl
end Go.Proofs.YteaokkaidcbdlaaGreatDoor
/- What the writer's methods write: bounds 285, brand 286, opaque 289, super 292. -/
namespace Go.Proofs.YteaokkaidcbdlaaGreatDoor
open Go Go.RowKit Go.Shelf
attribute [local go_sem] Oper.semAt_some
open Go.Sort
/-! ### What the writer's methods write: bounds 285, brand 286, opaque 289, super 292 -/
/-- The writer at work: its bytes, behind a world in which the graph lies. -/
structure WC (W0 : World) (b : Nat) (l : List UInt8) (w : World) : Prop where
  at' : WAt W0.heap.size b l w
  bel : Below W0.heap.size W0 w
  p : P10 W0.heap.size w
theorem WC.step {W0 : World} {b : Nat} {l l' : List UInt8} {w w' : World} (h : WC W0 b l w) (hs : WS W0.heap.size b w l' w') : WC W0 b l' w' := ⟨hs.at', h.bel.trans hs.bel, h.p.below hs.bel⟩
def I64 (x : Int) : Prop := -9223372036854775808 ≤ x ∧ x ≤ 9223372036854775807
theorem itoa_len {x : Int} (h : I64 x) : (Lib.itoa x).length ≤ 21 := Lib.itoa_length_le x h.1 h.2
def boundsW (t : TyD) : List UInt8 := 32 :: Lib.itoa t.low ++ 32 :: Lib.itoa t.high
def brandW (t : TyD) : List UInt8 := if t.branded then [32, 34] ++ (t.brand.data.toList ++ [34]) else [32, 45]
def opaqueW (t : TyD) : List UInt8 := 32 :: t.opq.data.toList
def superW (t : TyD) : List UInt8 := 32 :: Lib.itoa t.super
set_option maxHeartbeats 2000000 in
set_option maxRecDepth 100000 in
theorem wrBounds {W0 w : World} {b tb tk : Nat} {l : List UInt8} {t : TyD} (hT : TyAt W0 tb tk t) (h : WC W0 b l w) (hlo : I64 t.low) (hhi : I64 t.high) (hlen : l.length ≤ 900000000) :
    Calls Tryz.prog 285 #[.pointer (some ⟨b, 0, none⟩), .pointer (some ⟨tb, tk, none⟩)] w fun e w' => e = .returned (.tuple #[]) ∧ WS W0.heap.size b w (l ++ boundsW t) w' := by
  have hl := itoa_len hlo
  have HB := hide (wrApart t.low hlo.1 hlo.2 h.at' h.p (by omega))
  have HN := hide (fun w1 (hs : WS W0.heap.size b w (l ++ 32 :: Lib.itoa t.low) w1) => (wrApart t.high hhi.1 hhi.2 hs.at' (h.step hs).p (by simp; omega)).mono (R' := fun e w' => e = .returned (.tuple #[]) ∧ WS W0.heap.size b w (l ++ boundsW t) w') (by
    rintro e w' ⟨rfl, h2⟩
    rw [List.append_assoc] at h2
    exact ⟨rfl, hs.trans h2⟩))
  have HC := hide (fun w1 (hb : Below W0.heap.size W0 w1) => hT.go (.below hb))
  obtain ⟨vp, vm, vo, -, k0, k1, k2, -⟩ := hT.go (.below h.bel)
  have hbel := h.bel
  clear h hT
  go_enter Tryz.func285, Tryz.ntmps285
  go_wp2_with (first | (go_at_call 293; (with_reducible refine (unhide HB).mono ?_); clear HB; rintro e w1 ⟨rfl, hs⟩; obtain ⟨_, _, _, -, -, -, j2, -⟩ := unhide HC w1 (hbel.trans hs.bel)) | (go_at_call 293; with_reducible refine (unhide HN _ hs).mono ?_; rintro e w2 ⟨rfl, h2⟩))
  go_end0
  exact ⟨rfl, h2⟩
set_option maxHeartbeats 2000000 in
set_option maxRecDepth 100000 in
theorem wrSuper {W0 w : World} {b tb tk : Nat} {l : List UInt8} {t : TyD} (hT : TyAt W0 tb tk t) (h : WC W0 b l w) (hs : I64 t.super) (hlen : l.length ≤ 900000000) :
    Calls Tryz.prog 292 #[.pointer (some ⟨b, 0, none⟩), .pointer (some ⟨tb, tk, none⟩)] w fun e w' => e = .returned (.tuple #[]) ∧ WS W0.heap.size b w (l ++ superW t) w' := by
  have HB := hide (wrApart t.super hs.1 hs.2 h.at' h.p (by omega))
  obtain ⟨vp, vm, vo, -, k0, k1, k2, k3, k4, k5, k6, -⟩ := hT.go (.below h.bel)
  clear h hT
  go_enter Tryz.func292, Tryz.ntmps292
  go_wp2_with (first | (go_at_call 293; with_reducible refine (unhide HB).mono ?_; clear HB; rintro e w1 ⟨rfl, hs⟩))
  go_end0
  exact ⟨rfl, hs⟩
set_option maxHeartbeats 2000000 in
set_option maxRecDepth 100000 in
theorem wrOpaque {W0 w : World} {b tb tk : Nat} {l : List UInt8} {t : TyD} (hT : TyAt W0 tb tk t) (h : WC W0 b l w) (hsz : t.opq.size ≤ 1000000) (hlen : l.length ≤ 900000000) :
    Calls Tryz.prog 289 #[.pointer (some ⟨b, 0, none⟩), .pointer (some ⟨tb, tk, none⟩)] w fun e w' => e = .returned (.tuple #[]) ∧ WS W0.heap.size b w (l ++ opaqueW t) w' := by
  have hz : (⟨#[32]⟩ ++ t.opq : ByteArray).size = t.opq.size + 1 := by simp [ByteArray.size_append]; rw [show (⟨#[32]⟩ : ByteArray).size = 1 from rfl]; omega
  have hd : (⟨#[32]⟩ ++ t.opq : ByteArray).data.toList = opaqueW t := by rw [ByteArray.data_append]; simp [opaqueW]
  have hdr : Below w.heap.size w w.drew := ⟨rfl, rfl, rfl, Nat.le_refl _, fun _ _ => rfl⟩
  have HS := hide ((wr141 (l := l) (⟨#[32]⟩ ++ t.opq) (h.at'.below hdr) (by rw [hz]; omega)).mono (R' := fun e w' => ∃ v, e = .returned v ∧ WS W0.heap.size b w (l ++ opaqueW t) w') (by
    rintro e w' ⟨rfl, h2⟩
    rw [hd] at h2
    exact ⟨_, rfl, ((WS.refl h.at').below hdr).trans h2⟩))
  obtain ⟨vp, vm, vo, -, k0, k1, k2, k3, k4, k5, -⟩ := hT.go (.below h.bel)
  clear h hT hz hd
  go_enter Tryz.func289, Tryz.ntmps289
  go_wp2
  go_region_with (first | (go_at_call 141; refine (unhide HS).mono ?_; rintro e w2 ⟨v2, rfl, h2⟩))
  all_goals (try go_wp2)
  all_goals (go_end0; exact ⟨rfl, h2⟩)
set_option maxHeartbeats 2000000 in
set_option maxRecDepth 100000 in
theorem wrBrand {W0 w : World} {b tb tk : Nat} {l : List UInt8} {t : TyD} (hT : TyAt W0 tb tk t) (h : WC W0 b l w) (hsz : t.brand.size ≤ 1000000) (hlen : l.length ≤ 900000000) :
    Calls Tryz.prog 286 #[.pointer (some ⟨b, 0, none⟩), .pointer (some ⟨tb, tk, none⟩)] w fun e w' => e = .returned (.tuple #[]) ∧ WS W0.heap.size b w (l ++ brandW t) w' := by
  have hz : (⟨#[32, 34]⟩ ++ t.brand ++ ⟨#[34]⟩ : ByteArray).size = t.brand.size + 3 := by simp [ByteArray.size_append]; rw [show (⟨#[32, 34]⟩ : ByteArray).size = 2 from rfl, show (⟨#[34]⟩ : ByteArray).size = 1 from rfl]; omega
  have hd : (⟨#[32, 34]⟩ ++ t.brand ++ ⟨#[34]⟩ : ByteArray).data.toList = [32, 34] ++ (t.brand.data.toList ++ [34]) := by rw [ByteArray.data_append, ByteArray.data_append]; simp
  have hdr : Below w.heap.size w w.drew := ⟨rfl, rfl, rfl, Nat.le_refl _, fun _ _ => rfl⟩
  have HS := hide ((wr141 (l := l) (⟨#[32, 34]⟩ ++ t.brand ++ ⟨#[34]⟩) (h.at'.below hdr) (by rw [hz]; omega)).mono (R' := fun e w' => ∃ v, e = .returned v ∧ WS W0.heap.size b w (l ++ ([32, 34] ++ (t.brand.data.toList ++ [34]))) w') (by
    rintro e w' ⟨rfl, h2⟩
    rw [hd] at h2
    exact ⟨_, rfl, ((WS.refl h.at').below hdr).trans h2⟩))
  have HM := hide (wr141 (l := l) ⟨#[32, 45]⟩ h.at' (by rw [show (⟨#[32, 45]⟩ : ByteArray).size = 2 from rfl]; omega))
  obtain ⟨vp, vm, vo, -, k0, k1, k2, k3, k4, -⟩ := hT.go (.below h.bel)
  clear h hT hz hd
  unfold brandW
  cases hb : t.branded
  · rw [hb] at k3
    go_enter Tryz.func286, Tryz.ntmps286
    go_wp2_with (first | (go_at_call 141; refine (unhide HM).mono ?_; rintro e w2 ⟨rfl, h2⟩))
    go_end0
    exact ⟨rfl, h2⟩
  · rw [hb] at k3
    go_enter Tryz.func286, Tryz.ntmps286
    go_wp2
    go_region_with (first | (go_at_call 141; refine (unhide HS).mono ?_; rintro e w2 ⟨v2, rfl, h2⟩))
    all_goals (try go_wp2)
    all_goals (go_end0; exact ⟨rfl, h2⟩)
end Go.Proofs.YteaokkaidcbdlaaGreatDoor
