/- The chapter's examples, all at once: the check that every statement makes holds. -/
import Derived.Test.YteknngncnbfbnaaGreatDoorDv
import Derived.RangeFuncNested
import Derived.RangeFuncBound
import Derived.RangeFuncCalls
import Derived.RangeFuncLeaves
import Derived.RangeFuncBox
import Derived.Shelf.Abstract
import Derived.WalkKit
import Derived.OwnWalkIn
import Derived.TacticsInMore
import Derived.LoopNIn
import Derived.LoopIn
import Derived.RecoverIn
import Derived.Maps.AppendAt
import Derived.Outline
import Derived.Handy
import Derived.Deep.LoopGhost
import Derived.RegionTactic
import Derived.ChangeAlike
import Derived.Deep.QuietTactic
import Derived.BigQuiet
import Derived.StillTailTactics
import Derived.Deep.RegionWith
import Derived.LoopTactic
import Derived.OwnWalk
import Derived.Deep.AppendLies
import Derived.Deep.DeepCutAuto
import Derived.KernelRfl
import Derived.KernelRfl
namespace Go.Proofs.YteknngncnbfbnaaGreatDoor
open Go Go.RowKit Go.Shelf
set_option maxRecDepth 100000 in
set_option maxHeartbeats 4000000 in
theorem divided_any (w : World) (hE : Env w) (hD : Db w) : Calls Tryz.prog 13 #[] w fun e w' => e = .returned (.bool true) ∧ Below w.heap.size w w' := by
  go_enter Tryz.func13, Tryz.ntmps13
  go_wp2_with fail
  refine (d1 w hE).mono ?_
  rintro e w1 ⟨g1, c1, rfl, hb1, hg1, p0, p1, p2, p3, p18, p19⟩
  go_wp2_with fail
  have K1 := ((((((((Cells.nil w1).add hg1 p0).add hg1 p1).add hg1 p2).add hg1 p3).add hg1 p18).add hg1 p19)).fault 0 0
  have B1 := hb1.alloc hb1.size (.cells #[.int .i64 0, .int .i64 0] 34)
  clear p0 p1 p2 p3 p18 p19 hg1 hb1
  generalize w1.alloc (.cells #[.int .i64 0, .int .i64 0] 34) = V1 at K1 B1 ⊢
  generalize w1.heap.size = n1 at K1 ⊢
  refine (d2 V1 (hE.below B1 hE.sz)).mono ?_
  rintro e w2 ⟨g2, c2, rfl, hb2, hg2, q18, q19, q20⟩
  go_wp2_with fail
  have K2 := ((((K1.below hb2).add hg2 q18).add hg2 q19).add hg2 q20).fault 0 0
  have B2 := (B1.trans (hb2.mono B1.size)).alloc (Nat.le_trans B1.size hb2.size) (.cells #[.int .i64 0, .int .i64 0] 34)
  clear q18 q19 q20 hg2 hb2 K1 B1
  generalize w2.alloc (.cells #[.int .i64 0, .int .i64 0] 34) = V2 at K2 B2 ⊢
  generalize w2.heap.size = n2 at K2 ⊢
  refine (d3 V2 (hE.below B2 hE.sz)).mono ?_
  rintro e w3 ⟨rfl, hb3⟩
  go_wp2_with fail
  have K3 := (K2.below hb3).fault 0 0
  have B3 := (B2.trans (hb3.mono B2.size)).alloc (Nat.le_trans B2.size hb3.size) (.cells #[.int .i64 0, .int .i64 0] 34)
  clear hb3 K2 B2
  generalize w3.alloc (.cells #[.int .i64 0, .int .i64 0] 34) = V3 at K3 B3 ⊢
  generalize w3.heap.size = n3 at K3 ⊢
  refine (d4 V3 (hE.below B3 hE.sz)).mono ?_
  rintro e w4 ⟨v4, rfl, hb4⟩
  go_wp2_with fail
  have K4 := (K3.below hb4).fault 11 2
  have B4 := (B3.trans (hb4.mono B3.size)).alloc (Nat.le_trans B3.size hb4.size) (.cells #[.int .i64 11, .int .i64 2] 34)
  clear hb4 K3 B3
  generalize w4.alloc (.cells #[.int .i64 11, .int .i64 2] 34) = V4 at K4 B4 ⊢
  generalize w4.heap.size = n4 at K4 ⊢
  refine (d5 V4).mono ?_
  rintro e w5 ⟨rfl, rfl⟩
  go_wp2_with fail
  refine (d6 V4 (hE.below B4 hE.sz)).mono ?_
  rintro e w6 ⟨rfl, hb6⟩
  go_wp2_with fail
  have K6 := K4.below hb6
  have B6 := B4.trans (hb6.mono B4.size)
  clear hb6 K4 B4
  refine (d7 w6 (hE.below B6 hE.sz)).mono ?_
  rintro e w7 ⟨rfl, hb7⟩
  go_wp2_with fail
  have K7 := K6.below hb7
  have B7 := B6.trans (hb7.mono B6.size)
  clear hb7 K6 B6
  refine (d8 w7 (hE.below B7 hE.sz)).mono ?_
  rintro e w8 ⟨rfl, hb8⟩
  go_wp2_with fail
  have K8 := (K7.below hb8).fault 0 0
  have B8 := (B7.trans (hb8.mono B7.size)).alloc (Nat.le_trans B7.size hb8.size) (.cells #[.int .i64 0, .int .i64 0] 34)
  clear hb8 K7 B7
  generalize w8.alloc (.cells #[.int .i64 0, .int .i64 0] 34) = V8 at K8 B8 ⊢
  generalize w8.heap.size = n8 at K8 ⊢
  refine (d9 V8 (hE.below B8 hE.sz)).mono ?_
  rintro e w9 ⟨rfl, hb9⟩
  go_wp2_with fail
  have K9 := (K8.below hb9).fault 13 1
  have B9 := (B8.trans (hb9.mono B8.size)).alloc (Nat.le_trans B8.size hb9.size) (.cells #[.int .i64 13, .int .i64 1] 34)
  clear hb9 K8 B8
  generalize w9.alloc (.cells #[.int .i64 13, .int .i64 1] 34) = V9 at K9 B9 ⊢
  generalize w9.heap.size = n9 at K9 ⊢
  refine (d10 V9 (hE.below B9 hE.sz)).mono ?_
  rintro e w10 ⟨rfl, hb10⟩
  go_wp2_with fail
  have K10 := K9.below hb10
  have B10 := B9.trans (hb10.mono B9.size)
  clear hb10 K9 B9
  refine (d11 w10 (hE.below B10 hE.sz) (hD.below B10 (Nat.le_trans (by decide) hE.sz))).mono ?_
  rintro e w11 ⟨rfl, hb11⟩
  have K11 := (K10.below hb11).fault 0 0
  have B11 := (B10.trans (hb11.mono B10.size)).alloc (Nat.le_trans B10.size hb11.size) (.cells #[.int .i64 0, .int .i64 0] 34)
  clear hb11 K10 B10
  have f0 : (w11.alloc (.cells #[.int .i64 0, .int .i64 0] 34)).cell? ⟨n1, 0, none⟩ = some (.int .i64 0) := K11.get (by simp)
  have f1 : (w11.alloc (.cells #[.int .i64 0, .int .i64 0] 34)).cell? ⟨n1, 1, none⟩ = some (.int .i64 0) := K11.get (by simp)
  have f2 : (w11.alloc (.cells #[.int .i64 0, .int .i64 0] 34)).cell? ⟨n2, 0, none⟩ = some (.int .i64 0) := K11.get (by simp)
  have f3 : (w11.alloc (.cells #[.int .i64 0, .int .i64 0] 34)).cell? ⟨n2, 1, none⟩ = some (.int .i64 0) := K11.get (by simp)
  have f4 : (w11.alloc (.cells #[.int .i64 0, .int .i64 0] 34)).cell? ⟨n3, 0, none⟩ = some (.int .i64 0) := K11.get (by simp)
  have f5 : (w11.alloc (.cells #[.int .i64 0, .int .i64 0] 34)).cell? ⟨n3, 1, none⟩ = some (.int .i64 0) := K11.get (by simp)
  have f6 : (w11.alloc (.cells #[.int .i64 0, .int .i64 0] 34)).cell? ⟨n4, 0, none⟩ = some (.int .i64 11) := K11.get (by simp)
  have f7 : (w11.alloc (.cells #[.int .i64 0, .int .i64 0] 34)).cell? ⟨n4, 1, none⟩ = some (.int .i64 2) := K11.get (by simp)
  have f8 : (w11.alloc (.cells #[.int .i64 0, .int .i64 0] 34)).cell? ⟨n8, 0, none⟩ = some (.int .i64 0) := K11.get (by simp)
  have f9 : (w11.alloc (.cells #[.int .i64 0, .int .i64 0] 34)).cell? ⟨n8, 1, none⟩ = some (.int .i64 0) := K11.get (by simp)
  have f10 : (w11.alloc (.cells #[.int .i64 0, .int .i64 0] 34)).cell? ⟨n9, 0, none⟩ = some (.int .i64 13) := K11.get (by simp)
  have f11 : (w11.alloc (.cells #[.int .i64 0, .int .i64 0] 34)).cell? ⟨n9, 1, none⟩ = some (.int .i64 1) := K11.get (by simp)
  have f12 : (w11.alloc (.cells #[.int .i64 0, .int .i64 0] 34)).cell? ⟨w11.heap.size, 0, none⟩ = some (.int .i64 0) := K11.get (by simp)
  have f13 : (w11.alloc (.cells #[.int .i64 0, .int .i64 0] 34)).cell? ⟨w11.heap.size, 1, none⟩ = some (.int .i64 0) := K11.get (by simp)
  have f14 : (w11.alloc (.cells #[.int .i64 0, .int .i64 0] 34)).cell? ⟨g1, 0, none⟩ = some (.int .u8 1) := K11.get (by simp)
  have f15 : (w11.alloc (.cells #[.int .i64 0, .int .i64 0] 34)).cell? ⟨g1, 1, none⟩ = some (.string ⟨#[120]⟩) := K11.get (by simp)
  have f16 : (w11.alloc (.cells #[.int .i64 0, .int .i64 0] 34)).cell? ⟨g1, 2, none⟩ = some (.int .u8 6) := K11.get (by simp)
  have f17 : (w11.alloc (.cells #[.int .i64 0, .int .i64 0] 34)).cell? ⟨g1, 3, none⟩ = some (.string ⟨#[32]⟩) := K11.get (by simp)
  have f18 : (w11.alloc (.cells #[.int .i64 0, .int .i64 0] 34)).cell? ⟨g1, 18, none⟩ = some (.int .u8 7) := K11.get (by simp)
  have f19 : (w11.alloc (.cells #[.int .i64 0, .int .i64 0] 34)).cell? ⟨g1, 19, none⟩ = some (.string ⟨#[40, 42, 32, 111, 110, 101, 32, 40, 42, 32, 116, 119, 111, 32, 42, 41, 32, 42, 41]⟩) := K11.get (by simp)
  have f20 : (w11.alloc (.cells #[.int .i64 0, .int .i64 0] 34)).cell? ⟨g2, 18, none⟩ = some (.int .u8 2) := K11.get (by simp)
  have f21 : (w11.alloc (.cells #[.int .i64 0, .int .i64 0] 34)).cell? ⟨g2, 19, none⟩ = some (.string ⟨#[69, 78, 68]⟩) := K11.get (by simp)
  have f22 : (w11.alloc (.cells #[.int .i64 0, .int .i64 0] 34)).cell? ⟨g2, 20, none⟩ = some (.int .i64 2) := K11.get (by simp)
  clear K11
  go_wp2
  go_ret
  exact ⟨rfl, B11⟩
end Go.Proofs.YteknngncnbfbnaaGreatDoor
