/- Part 51 of 53: the texts Ve, Vf, Vs, Vx, Vg, Ub, one behind the other. -/
import Derived.Test.YteaokkaidcbdlaaGreatDoorM40
import Derived.Test.YteaokkaidcbdlaaGreatDoorM38
import Derived.Test.YteaokkaidcbdlaaGreatDoorM41
import Derived.Test.YteaokkaidcbdlaaGreatDoorM48
import Derived.Test.YteaokkaidcbdlaaGreatDoorM35
import Derived.Test.YteaokkaidcbdlaaGreatDoorM28
import Derived.Test.YteaokkaidcbdlaaGreatDoorM49
import Derived.Test.YteaokkaidcbdlaaGreatDoorM50
namespace Go.Proofs.YteaokkaidcbdlaaGreatDoor
open Go Go.RowKit Go.Shelf
end Go.Proofs.YteaokkaidcbdlaaGreatDoor

namespace Go.Proofs.YteaokkaidcbdlaaGreatDoor
open Go Go.RowKit Go.Shelf
end Go.Proofs.YteaokkaidcbdlaaGreatDoor

namespace Go.Proofs.YteaokkaidcbdlaaGreatDoor
open Go Go.RowKit Go.Shelf
end Go.Proofs.YteaokkaidcbdlaaGreatDoor

namespace Go.Proofs.YteaokkaidcbdlaaGreatDoor
open Go Go.RowKit Go.Shelf
section
variable {G T : List TyD} {φ : Nat → Nat} {f : Nat → Int → Int}
theorem at_mem {L : List TyD} {q : Nat} (h : q < L.length) : L.getD q default ∈ L := by
 rw [List.getD_eq_getElem?_getD, List.getElem?_eq_getElem h]; exact List.getElem_mem h
end
end Go.Proofs.YteaokkaidcbdlaaGreatDoor

namespace Go.Proofs.YteaokkaidcbdlaaGreatDoor
open Go Go.RowKit Go.Shelf
set_option maxRecDepth 100000 in
set_option maxHeartbeats 4000000 in
theorem classes_all (gv : Value) (G : List TyD) (W : World) (hG0 : GrAt W gv G) (hz : GrZ G) :
    Calls Tryz.prog 32 #[gv] W fun e w' => ∃ v, e = .returned (.tuple #[v, .int .i64 (checkedR G [])]) ∧ Below W.heap.size W w' ∧ (if checkedR G [] = 0 then w'.ownsRow W.heap.size 3 1 v G.length (natsV (classesL G)) else v = .slice none 0 0) := by
  obtain ⟨o, cap, rfl⟩ := hG0.form
  have HC := hide (checked_any _ G W hG0 hz (.slice none 0 0) [] .none')
  by_cases h0 : checkedR G [] = 0
  ·obtain ⟨h1, h2, h3⟩ := checked_fit hz h0
   have HK := hide (fun (w1 : World) (h : Below W.heap.size W w1) => classes_any _ G w1 (hG0.below h) h1 h2 h3)
   rw [h0] at HC ⊢
   clear h0 h1 h2 h3 hz hG0
   go_enter Tryz.func32, Tryz.ntmps32
   go_wp2_with (first | (go_at_call 57; refine (unhide HC).mono ?_; clear HC; rintro e w1 ⟨rfl, hb1⟩) | (go_at_call 64; refine (unhide HK w1 hb1).mono ?_; clear HK; rintro e w3 ⟨v3, rfl, hr3, hb3⟩))
   go_ret2
   exact ⟨_, rfl, hb1.trans (hb3.mono hb1.size), Row.mono hr3 hb1.size⟩
  ·clear hz hG0
   generalize checkedR G [] = ck at h0 HC
   go_enter Tryz.func32, Tryz.ntmps32
   go_wp2_with (first | (go_at_call 57; refine (unhide HC).mono ?_; clear HC; rintro e w1 ⟨rfl, hb1⟩))
   go_ret2
   first
    | exact ⟨rfl, hb1⟩
    | exact ⟨_, rfl, hb1, rfl⟩
end Go.Proofs.YteaokkaidcbdlaaGreatDoor

namespace Go.Proofs.YteaokkaidcbdlaaGreatDoor
open Go Go.RowKit Go.Shelf
set_option maxRecDepth 100000 in
set_option maxHeartbeats 8000000 in
theorem eqTys_any (vg vh : Value) (G H : List TyD) (W : World) (hG : GrAt W vg G) (hH : GrAt W vh H) :
    Calls Tryz.prog 71 #[vg, vh, .func (.func 72) #[] #[]] W fun e w' => e = .returned (.bool (eqF alikeB G H)) ∧ Below W.heap.size W w' := by
  obtain ⟨o, cap, rfl⟩ := hG.form
  obtain ⟨o2, cap2, rfl⟩ := hH.form
  obtain ⟨-, hm, hm2, -⟩ := hG.at
  have h63 : G.length ≤ 9223372036854775807 := by unfold maxLen at hm; omega
  have HCG := hide (fun i (hi : i < G.length) => hG.cells hi)
  have HCH := hide (fun i (hi : i < H.length) => hH.cells hi)
  clear hm hm2 hG hH
  obtain ⟨n, hn⟩ : ∃ n, G.length = n := ⟨_, rfl⟩
  obtain ⟨n2, hn2⟩ : ∃ n2, H.length = n2 := ⟨_, rfl⟩
  have HN := Lib.hid hn
  have HN2 := Lib.hid hn2
  rw [hn] at h63 ⊢
  rw [hn2]
  clear hn hn2
  by_cases hne : n = n2
  ·subst hne
   have HE := Lib.hid (eqF_at (f := alikeB) (l := G) (m := H) (by rw [HN.out, HN2.out]))
   go_enter Tryz.func71, Tryz.ntmps71
   go_wp2
   go_loopg [17] n (fun g i wr => ∃ k : Nat, k ≤ n ∧ g = n - k ∧ i = .int .i64 k ∧ Below W.heap.size W wr ∧ Hid (((G.zip H).take k).all (fun x => alikeB x.1 x.2) = true))
   case atStart => exact ⟨0, Nat.zero_le _, rfl, rfl, Below.refl _ _, Lib.hid rfl⟩
   case round =>
    obtain ⟨k, hk, hgk, rfl, hbw, HT⟩ := hrel
    by_cases hlt : k < n
    ·have hlt' : (k : Int) < n := by omega
     have h1 : k < G.length := by rw [HN.out]; exact hlt
     have h2 : k < H.length := by rw [HN2.out]; exact hlt
     obtain ⟨b, off, u1, u2, u3, rfl, gl1, hc1⟩ := unhide HCG k h1
     obtain ⟨b2, off2, v1, v2, v3, rfl, gl2, hc2⟩ := unhide HCH k h2
     have HX := fun (h : alikeB G[k] H[k] = false) => Lib.hid (show eqF alikeB G H = false by rw [HE.out]; exact zip_all_no h1 h2 h)
     have HY := fun (h : alikeB G[k] H[k] = true) => Lib.hid (show ((G.zip H).take (k + 1)).all (fun x => alikeB x.1 x.2) = true by rw [zip_take_next (f := alikeB) h1 h2, HT.out, h]; rfl)
     have hc1' := fun w (h : Below W.heap.size W w) => hc1 w (.below h)
     have hc2' := fun w (h : Below W.heap.size W w) => hc2 w (.below h)
     have GL1 := hide (fun w (h : Below W.heap.size W w) => gl1.go (.below h))
     have GL2 := hide (fun w (h : Below W.heap.size W w) => gl2.go (.below h))
     obtain ⟨xop, xcp, rfl⟩ := gl1.parts.form
     obtain ⟨xom, xcm, rfl⟩ := gl1.meths.form
     obtain ⟨xoo, xco, rfl⟩ := gl1.overs.form
     obtain ⟨yop, ycp, rfl⟩ := gl2.parts.form
     obtain ⟨yom, ycm, rfl⟩ := gl2.meths.form
     obtain ⟨yoo, yco, rfl⟩ := gl2.overs.form
     clear hc1 hc2 gl1 gl2
     generalize G[k] = x at HX HY hc1' GL1
     generalize H[k] = y at HX HY hc2' GL2
     clear HT h1 h2
     have HC1 := hide hc1'
     have HC2 := hide hc2'
     clear hc1' hc2'
     have K1 := unhide HC1 _ hbw
     have a0 := K1 0 _ rfl
     have a1 := K1 1 _ rfl
     have a2 := K1 2 _ rfl
     have a3 := K1 3 _ rfl
     have a4 := K1 4 _ rfl
     have a5 := K1 5 _ rfl
     have a6 := K1 6 _ rfl
     have a7 := K1 7 _ rfl
     have a8 := K1 8 _ rfl
     have a9 := K1 9 _ rfl
     rw [Nat.add_zero] at a0
     clear K1
     go_upto_region 6 with fail
     have lX := (Below.refl wr.heap.size wr).alloc (Nat.le_refl _) (.cells #[.int .u8 x.kind, .int .i64 x.low, .int .i64 x.high, .bool x.branded, .string x.brand, .string x.opq, .int .i64 x.super, .slice xop x.parts.length xcp, .slice xom x.meths.length xcm, .slice xoo x.overs.length xco] 62)
     have bX := Blk.new wr [.int .u8 x.kind, .int .i64 x.low, .int .i64 x.high, .bool x.branded, .string x.brand, .string x.opq, .int .i64 x.super, .slice xop x.parts.length xcp, .slice xom x.meths.length xcm, .slice xoo x.overs.length xco] 62
     change Blk (wr.alloc (.cells #[.int .u8 x.kind, .int .i64 x.low, .int .i64 x.high, .bool x.branded, .string x.brand, .string x.opq, .int .i64 x.super, .slice xop x.parts.length xcp, .slice xom x.meths.length xcm, .slice xoo x.overs.length xco] 62)) _ _ _ at bX
     generalize wr.alloc (.cells #[.int .u8 x.kind, .int .i64 x.low, .int .i64 x.high, .bool x.branded, .string x.brand, .string x.opq, .int .i64 x.super, .slice xop x.parts.length xcp, .slice xom x.meths.length xcm, .slice xoo x.overs.length xco] 62) = A2 at bX lX ⊢
     have hb2 := hbw.trans (lX.mono hbw.size)
     clear a0 a1 a2 a3 a4 a5 a6 a7 a8 a9
     have K2 := unhide HC2 _ hb2
     have c0 := K2 0 _ rfl
     have c1 := K2 1 _ rfl
     have c2 := K2 2 _ rfl
     have c3 := K2 3 _ rfl
     have c4 := K2 4 _ rfl
     have c5 := K2 5 _ rfl
     have c6 := K2 6 _ rfl
     have c7 := K2 7 _ rfl
     have c8 := K2 8 _ rfl
     have c9 := K2 9 _ rfl
     rw [Nat.add_zero] at c0
     clear K2
     go_upto_region 7 with fail
     have lY := (Below.refl A2.heap.size A2).alloc (Nat.le_refl _) (.cells #[.int .u8 y.kind, .int .i64 y.low, .int .i64 y.high, .bool y.branded, .string y.brand, .string y.opq, .int .i64 y.super, .slice yop y.parts.length ycp, .slice yom y.meths.length ycm, .slice yoo y.overs.length yco] 62)
     have bY := Blk.new A2 [.int .u8 y.kind, .int .i64 y.low, .int .i64 y.high, .bool y.branded, .string y.brand, .string y.opq, .int .i64 y.super, .slice yop y.parts.length ycp, .slice yom y.meths.length ycm, .slice yoo y.overs.length yco] 62
     change Blk (A2.alloc (.cells #[.int .u8 y.kind, .int .i64 y.low, .int .i64 y.high, .bool y.branded, .string y.brand, .string y.opq, .int .i64 y.super, .slice yop y.parts.length ycp, .slice yom y.meths.length ycm, .slice yoo y.overs.length yco] 62)) _ _ _ at bY
     have bX2 := bX.alloc (.cells #[.int .u8 y.kind, .int .i64 y.low, .int .i64 y.high, .bool y.branded, .string y.brand, .string y.opq, .int .i64 y.super, .slice yop y.parts.length ycp, .slice yom y.meths.length ycm, .slice yoo y.overs.length yco] 62)
     generalize A2.alloc (.cells #[.int .u8 y.kind, .int .i64 y.low, .int .i64 y.high, .bool y.branded, .string y.brand, .string y.opq, .int .i64 y.super, .slice yop y.parts.length ycp, .slice yom y.meths.length ycm, .slice yoo y.overs.length yco] 62) = A3 at bX2 bY lY ⊢
     have hb3 := hb2.trans (lY.mono hb2.size)
     clear c0 c1 c2 c3 c4 c5 c6 c7 c8 c9
     generalize wr.heap.size = bx at bX2 bX ⊢
     generalize A2.heap.size = by' at bY ⊢
     have HAG := hide (isSame_any x y _ _ _ _ _ _ A3 (unhide GL1 A3 hb3) (unhide GL2 A3 hb3))
     have LB3 := hide hb3
     have p0 := bX2.cell 0
     have p1 := bX2.cell 1
     have p2 := bX2.cell 2
     have p3 := bX2.cell 3
     have p4 := bX2.cell 4
     have p5 := bX2.cell 5
     have p6 := bX2.cell 6
     have p7 := bX2.cell 7
     have p8 := bX2.cell 8
     have p9 := bX2.cell 9
     have q0 := bY.cell 0
     have q1 := bY.cell 1
     have q2 := bY.cell 2
     have q3 := bY.cell 3
     have q4 := bY.cell 4
     have q5 := bY.cell 5
     have q6 := bY.cell 6
     have q7 := bY.cell 7
     have q8 := bY.cell 8
     have q9 := bY.cell 9
     simp only [List.getElem?_cons_zero, List.getElem?_cons_succ] at p0 p1 p2 p3 p4 p5 p6 p7 p8 p9 q0 q1 q2 q3 q4 q5 q6 q7 q8 q9
     clear bX bX2 bY lX lY hb2 hb3 hbw
     go_wp2_with fail
     refine (unhide HAG).mono ?_
     rintro e A4 ⟨rfl, hb4⟩
     clear HAG p0 p1 p2 p3 p4 p5 p6 p7 p8 p9 q0 q1 q2 q3 q4 q5 q6 q7 q8 q9
     have L4 := (unhide LB3).trans (hb4.mono (unhide LB3).size)
     obtain ⟨ag, hag⟩ : ∃ ag, alikeB x y = ag := ⟨_, rfl⟩
     rw [hag]
     cases ag
     ·have HZ := HX hag
      clear HX HY hag
      go_wp2
      go_ret
      exact ⟨ret_bool HZ.out.symm, L4⟩
     ·have HZ := HY hag
      clear HX HY hag
      go_wp2
      go_roundg (n - (k + 1))
      case measure => omega
      case rel => exact ⟨k + 1, by omega, rfl, by go_num, L4, HZ⟩
    ·have hkn : k = n := by omega
     have HZ := Lib.hid (show eqF alikeB G H = true by
      have h := HT.out
      rw [List.take_of_length_le (by rw [List.length_zip, HN.out, HN2.out]; omega)] at h
      rw [HE.out, h])
     have hge : ¬ (k : Int) < n := by omega
     clear HT hkn
     go_wp2
     go_ret
     exact ⟨ret_bool HZ.out.symm, hbw⟩
  ·have HZ := Lib.hid (show eqF alikeB G H = false by unfold eqF; rw [decide_eq_false (by rw [HN.out, HN2.out]; exact hne)]; rfl)
   have hne' : ((n : Int) == n2) = false := by simp; omega
   have hne2 := bne_of hne'
   clear hne
   go_enter Tryz.func71, Tryz.ntmps71
   go_wp2
   go_ret
   exact ⟨ret_bool HZ.out.symm, Below.refl _ _⟩
set_option maxRecDepth 100000 in
theorem same_any (vg vh : Value) (G H : List TyD) (W : World) (hG : GrAt W vg G) (hH : GrAt W vh H) :
    Calls Tryz.prog 36 #[vg, vh] W fun e w' => e = .returned (.bool (eqF alikeB G H)) ∧ Below W.heap.size W w' := by
  have HC := hide (eqTys_any vg vh G H W hG hH)
  obtain ⟨o, cap, rfl⟩ := hG.form
  obtain ⟨o2, cap2, rfl⟩ := hH.form
  clear hG hH
  go_enter Tryz.func36, Tryz.ntmps36
  go_wp2_with (first | (go_at_call 71; refine (unhide HC).mono ?_; rintro e w1 ⟨rfl, hb1⟩))
  go_ret
  exact ⟨rfl, hb1⟩
theorem eqF_refl {α : Type} {f : α → α → Bool} (h : ∀ x, f x x = true) (l : List α) : eqF f l l = true := by
 unfold eqF
 rw [decide_eq_true rfl, Bool.true_and, List.all_eq_true]
 intro p hp
 obtain ⟨q, hq, rfl⟩ := List.mem_iff_getElem.1 hp
 rw [List.getElem_zip]
 exact h _
theorem alikeB_refl (a : TyD) : alikeB a a = true := by
 have s : ∀ b : ByteArray, sameS b b = true := fun b => by unfold sameS; simp
 have o1 : ∀ i : Int, oneB i i = true := fun i => by unfold oneB; simp
 unfold alikeB plainB
 simp only [s, o1, beq_self_eq_true, Bool.and_self, Bool.true_and]
 rw [eqF_refl (fun p => by unfold partOneB; simp [s, o1]), eqF_refl (fun m => by unfold methOneB; simp [s, o1, eqF_refl o1, eqF_refl s]), eqF_refl (fun p => by unfold overFitB; simp [s])]
 rfl
theorem tyR_refl (a : TyD) : tyR a a = true := by
 have s : ∀ b : ByteArray, sameS b b = true := fun b => by unfold sameS; simp
 unfold tyR agR plainB
 simp only [s, beq_self_eq_true, Bool.and_self, Bool.true_and, decide_true]
 rw [eqF_refl (fun p => by unfold partR; simp [s]), eqF_refl (fun m => by unfold methR; simp [s, eqF_refl s]), eqF_refl (fun p => by unfold overFitB; simp [s]), eqF_refl (fun p => by unfold partE; simp [s]), eqF_refl (fun m => by unfold methE; simp [eqF_refl (f := fun i j : Int => decide (i = j)) (fun i => by simp)])]
 rfl
end Go.Proofs.YteaokkaidcbdlaaGreatDoor

