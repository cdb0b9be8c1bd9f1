/- Part 37 of 53: the texts Yc, one behind the other. -/
import Derived.Test.YteaokkaidcbdlaaGreatDoorM36
import Derived.Test.YteaokkaidcbdlaaGreatDoorM9
import Derived.Test.YteaokkaidcbdlaaGreatDoorM13
import Derived.Test.YteaokkaidcbdlaaGreatDoorM12
import Derived.Test.YteaokkaidcbdlaaGreatDoorM10
namespace Go.Proofs.YteaokkaidcbdlaaGreatDoor
open Go Go.RowKit Go.Shelf
def methR (m n : MethD) : Bool := sameS m.name n.name && (sameS m.proc n.proc && (decide (m.args.length = n.args.length) && ((decide (m.result < 0) == decide (n.result < 0)) && eqF sameS m.raises n.raises)))
def partR (p q : PartD) : Bool := sameS p.name q.name
def agR (a b : TyD) : Bool := plainB a b && (eqF partR a.parts b.parts && (eqF methR a.meths b.meths && eqF overFitB a.overs b.overs))
theorem bne_of {α : Type} [BEq α] {x y : α} {e : Bool} (h : (x == y) = e) : (x != y) = !e := by unfold bne; rw [h]
set_option maxRecDepth 100000 in
set_option maxHeartbeats 16000000 in
theorem refAgree_any (a b : TyD) (va1 va2 va3 vb1 vb2 vb3 : Value) (W : World) (ha : TyL W va1 va2 va3 a) (hb : TyL W vb1 vb2 vb3 b) :
    Calls Tryz.prog 51 #[tyVal a va1 va2 va3, tyVal b vb1 vb2 vb3] W fun e w' => e = .returned (.bool (agR a b)) ∧ Below W.heap.size W w' := by
  obtain ⟨aop, acp, rfl⟩ := ha.parts.form
  obtain ⟨aom, acm, rfl⟩ := ha.meths.form
  obtain ⟨aoo, aco, rfl⟩ := ha.overs.form
  obtain ⟨aNP, ahNP⟩ : ∃ n, a.parts.length = n := ⟨_, rfl⟩
  obtain ⟨aNM, ahNM⟩ : ∃ n, a.meths.length = n := ⟨_, rfl⟩
  obtain ⟨aNO, ahNO⟩ : ∃ n, a.overs.length = n := ⟨_, rfl⟩
  have aPs := ha.parts
  have aMs := ha.meths
  have aOs := ha.overs
  rw [ahNP] at aPs
  rw [ahNM] at aMs
  rw [ahNO] at aOs
  obtain ⟨-, ap1, ap2, -⟩ := aPs.at
  obtain ⟨-, am1, am2, -⟩ := aMs.at
  obtain ⟨-, ao1, ao2, -⟩ := aOs.at
  have aP63 : aNP ≤ 9223372036854775807 := by unfold maxLen at ap1; omega
  have aM63 : aNM ≤ 9223372036854775807 := by unfold maxLen at am1; omega
  have aO63 : aNO ≤ 9223372036854775807 := by unfold maxLen at ao1; omega
  obtain ⟨bop, bcp, rfl⟩ := hb.parts.form
  obtain ⟨bom, bcm, rfl⟩ := hb.meths.form
  obtain ⟨boo, bco, rfl⟩ := hb.overs.form
  obtain ⟨bNP, bhNP⟩ : ∃ n, b.parts.length = n := ⟨_, rfl⟩
  obtain ⟨bNM, bhNM⟩ : ∃ n, b.meths.length = n := ⟨_, rfl⟩
  obtain ⟨bNO, bhNO⟩ : ∃ n, b.overs.length = n := ⟨_, rfl⟩
  have bPs := hb.parts
  have bMs := hb.meths
  have bOs := hb.overs
  rw [bhNP] at bPs
  rw [bhNM] at bMs
  rw [bhNO] at bOs
  obtain ⟨-, bp1, bp2, -⟩ := bPs.at
  obtain ⟨-, bm1, bm2, -⟩ := bMs.at
  obtain ⟨-, bo1, bo2, -⟩ := bOs.at
  have bP63 : bNP ≤ 9223372036854775807 := by unfold maxLen at bp1; omega
  have bM63 : bNM ≤ 9223372036854775807 := by unfold maxLen at bm1; omega
  have bO63 : bNO ≤ 9223372036854775807 := by unfold maxLen at bo1; omega
  unfold tyVal
  rw [ahNP, ahNM, ahNO, bhNP, bhNM, bhNO]
  have aHNP := Lib.hid ahNP
  have aHNM := Lib.hid ahNM
  have aHNO := Lib.hid ahNO
  clear ahNP ahNM ahNO ap1 ap2 am1 am2 ao1 ao2 ha
  have bHNP := Lib.hid bhNP
  have bHNM := Lib.hid bhNM
  have bHNO := Lib.hid bhNO
  clear bhNP bhNM bhNO bp1 bp2 bm1 bm2 bo1 bo2 hb
  obtain ⟨e1, he1⟩ : ∃ e, ((a.kind : Int) == b.kind) = e := ⟨_, rfl⟩
  obtain ⟨e2, he2⟩ : ∃ e, (a.low == b.low) = e := ⟨_, rfl⟩
  obtain ⟨e3, he3⟩ : ∃ e, (a.high == b.high) = e := ⟨_, rfl⟩
  obtain ⟨e4, he4⟩ : ∃ e, (a.branded == b.branded) = e := ⟨_, rfl⟩
  obtain ⟨e5, he5⟩ : ∃ e, (a.brand.toList == b.brand.toList) = e := ⟨_, rfl⟩
  obtain ⟨e6, he6⟩ : ∃ e, (a.opq.toList == b.opq.toList) = e := ⟨_, rfl⟩
  obtain ⟨e7, he7⟩ : ∃ e, ((aNP : Int) == bNP) = e := ⟨_, rfl⟩
  obtain ⟨e8, he8⟩ : ∃ e, ((aNM : Int) == bNM) = e := ⟨_, rfl⟩
  obtain ⟨e9, he9⟩ : ∃ e, ((aNO : Int) == bNO) = e := ⟨_, rfl⟩
  have HPl := Lib.hid (show plainB a b = (e1 && (e2 && (e3 && (e4 && (e5 && e6))))) by unfold plainB sameS; rw [he1, he2, he3, he4, he5, he6])
  have HE7 := Lib.hid (show (aNP = bNP) ↔ e7 = true by rw [← he7]; simp; omega)
  have HE8 := Lib.hid (show (aNM = bNM) ↔ e8 = true by rw [← he8]; simp; omega)
  have HE9 := Lib.hid (show (aNO = bNO) ↔ e9 = true by rw [← he9]; simp; omega)
  have ne1 := bne_of he1
  have ne2 := bne_of he2
  have ne3 := bne_of he3
  have ne4 := bne_of he4
  have ne5 := bne_of he5
  have ne6 := bne_of he6
  have ne7 := bne_of he7
  have ne8 := bne_of he8
  have ne9 := bne_of he9
  have bA := Blk.new W [.int .u8 a.kind, .int .i64 a.low, .int .i64 a.high, .bool a.branded, .string a.brand, .string a.opq, .int .i64 a.super, .slice aop aNP acp, .slice aom aNM acm, .slice aoo aNO aco] 62
  have lA := (Below.refl W.heap.size W).alloc (Nat.le_refl _) (.cells #[.int .u8 a.kind, .int .i64 a.low, .int .i64 a.high, .bool a.branded, .string a.brand, .string a.opq, .int .i64 a.super, .slice aop aNP acp, .slice aom aNM acm, .slice aoo aNO aco] 62)
  change Blk (W.alloc (.cells #[.int .u8 a.kind, .int .i64 a.low, .int .i64 a.high, .bool a.branded, .string a.brand, .string a.opq, .int .i64 a.super, .slice aop aNP acp, .slice aom aNM acm, .slice aoo aNO aco] 62)) _ _ _ at bA
  have hsA : (W.alloc (.cells #[.int .u8 a.kind, .int .i64 a.low, .int .i64 a.high, .bool a.branded, .string a.brand, .string a.opq, .int .i64 a.super, .slice aop aNP acp, .slice aom aNM acm, .slice aoo aNO aco] 62)).heap.size = W.heap.size + 1 := by simp
  have bB := Blk.new (W.alloc (.cells #[.int .u8 a.kind, .int .i64 a.low, .int .i64 a.high, .bool a.branded, .string a.brand, .string a.opq, .int .i64 a.super, .slice aop aNP acp, .slice aom aNM acm, .slice aoo aNO aco] 62)) [.int .u8 b.kind, .int .i64 b.low, .int .i64 b.high, .bool b.branded, .string b.brand, .string b.opq, .int .i64 b.super, .slice bop bNP bcp, .slice bom bNM bcm, .slice boo bNO bco] 62
  have lB := lA.alloc (by omega) (.cells #[.int .u8 b.kind, .int .i64 b.low, .int .i64 b.high, .bool b.branded, .string b.brand, .string b.opq, .int .i64 b.super, .slice bop bNP bcp, .slice bom bNM bcm, .slice boo bNO bco] 62)
  have bA2 := bA.alloc (.cells #[.int .u8 b.kind, .int .i64 b.low, .int .i64 b.high, .bool b.branded, .string b.brand, .string b.opq, .int .i64 b.super, .slice bop bNP bcp, .slice bom bNM bcm, .slice boo bNO bco] 62)
  change Blk ((W.alloc (.cells #[.int .u8 a.kind, .int .i64 a.low, .int .i64 a.high, .bool a.branded, .string a.brand, .string a.opq, .int .i64 a.super, .slice aop aNP acp, .slice aom aNM acm, .slice aoo aNO aco] 62)).alloc (.cells #[.int .u8 b.kind, .int .i64 b.low, .int .i64 b.high, .bool b.branded, .string b.brand, .string b.opq, .int .i64 b.super, .slice bop bNP bcp, .slice bom bNM bcm, .slice boo bNO bco] 62)) _ _ _ at bB
  rw [hsA] at bB
  go_enter Tryz.func51, Tryz.ntmps51
  go_upto_region 1 with fail
  generalize (W.alloc (.cells #[.int .u8 a.kind, .int .i64 a.low, .int .i64 a.high, .bool a.branded, .string a.brand, .string a.opq, .int .i64 a.super, .slice aop aNP acp, .slice aom aNM acm, .slice aoo aNO aco] 62)).alloc (.cells #[.int .u8 b.kind, .int .i64 b.low, .int .i64 b.high, .bool b.branded, .string b.brand, .string b.opq, .int .i64 b.super, .slice bop bNP bcp, .slice bom bNM bcm, .slice boo bNO bco] 62) = A1 at bA2 bB lB ⊢
  have LA := hide lB
  clear bA lA lB hsA
  have ac0 : A1.cell? ⟨W.heap.size, 0, none⟩ = some (.int .u8 a.kind) := bA2.cell 0
  have ac1 : A1.cell? ⟨W.heap.size, 1, none⟩ = some (.int .i64 a.low) := bA2.cell 1
  have ac2 : A1.cell? ⟨W.heap.size, 2, none⟩ = some (.int .i64 a.high) := bA2.cell 2
  have ac3 : A1.cell? ⟨W.heap.size, 3, none⟩ = some (.bool a.branded) := bA2.cell 3
  have ac4 : A1.cell? ⟨W.heap.size, 4, none⟩ = some (.string a.brand) := bA2.cell 4
  have ac5 : A1.cell? ⟨W.heap.size, 5, none⟩ = some (.string a.opq) := bA2.cell 5
  have ac6 : A1.cell? ⟨W.heap.size, 6, none⟩ = some (.int .i64 a.super) := bA2.cell 6
  have ac7 : A1.cell? ⟨W.heap.size, 7, none⟩ = some (.slice aop aNP acp) := bA2.cell 7
  have ac8 : A1.cell? ⟨W.heap.size, 8, none⟩ = some (.slice aom aNM acm) := bA2.cell 8
  have ac9 : A1.cell? ⟨W.heap.size, 9, none⟩ = some (.slice aoo aNO aco) := bA2.cell 9
  have bc0 : A1.cell? ⟨W.heap.size + 1, 0, none⟩ = some (.int .u8 b.kind) := bB.cell 0
  have bc1 : A1.cell? ⟨W.heap.size + 1, 1, none⟩ = some (.int .i64 b.low) := bB.cell 1
  have bc2 : A1.cell? ⟨W.heap.size + 1, 2, none⟩ = some (.int .i64 b.high) := bB.cell 2
  have bc3 : A1.cell? ⟨W.heap.size + 1, 3, none⟩ = some (.bool b.branded) := bB.cell 3
  have bc4 : A1.cell? ⟨W.heap.size + 1, 4, none⟩ = some (.string b.brand) := bB.cell 4
  have bc5 : A1.cell? ⟨W.heap.size + 1, 5, none⟩ = some (.string b.opq) := bB.cell 5
  have bc6 : A1.cell? ⟨W.heap.size + 1, 6, none⟩ = some (.int .i64 b.super) := bB.cell 6
  have bc7 : A1.cell? ⟨W.heap.size + 1, 7, none⟩ = some (.slice bop bNP bcp) := bB.cell 7
  have bc8 : A1.cell? ⟨W.heap.size + 1, 8, none⟩ = some (.slice bom bNM bcm) := bB.cell 8
  have bc9 : A1.cell? ⟨W.heap.size + 1, 9, none⟩ = some (.slice boo bNO bco) := bB.cell 9
  have aHP := hide (aPs.mono fun _ _ _ _ => PartAt.go (Holds.below (unhide LA)))
  have bHP := hide (bPs.mono fun _ _ _ _ => PartAt.go (Holds.below (unhide LA)))
  have aHM := hide (aMs.mono fun _ _ _ _ => MethAt.go (Holds.below (unhide LA)))
  have bHM := hide (bMs.mono fun _ _ _ _ => MethAt.go (Holds.below (unhide LA)))
  have aHO := hide (aOs.mono fun _ _ _ _ => OverAt.go (Holds.below (unhide LA)))
  have bHO := hide (bOs.mono fun _ _ _ _ => OverAt.go (Holds.below (unhide LA)))
  clear bA2 bB aPs bPs aMs bMs aOs bOs
  go_cut [76] from 10 to 76 (fun c wx => c = .bool (!(e1 && (e2 && (e3 && (e4 && (e5 && (e6 && (e7 && (e8 && e9))))))))) ∧ A1 = wx)
  case first =>
   clear HPl HE7 HE8 HE9
   cases e1
   ·simp only [Bool.not_false] at ne1
    go_wp2
    go_meet
    exact ⟨by simp, rfl⟩
   simp only [Bool.not_true] at ne1
   cases e2
   ·simp only [Bool.not_false] at ne2
    go_wp2
    go_meet
    exact ⟨by simp, rfl⟩
   simp only [Bool.not_true] at ne2
   cases e3
   ·simp only [Bool.not_false] at ne3
    go_wp2
    go_meet
    exact ⟨by simp, rfl⟩
   simp only [Bool.not_true] at ne3
   cases e4
   ·simp only [Bool.not_false] at ne4
    go_wp2
    go_meet
    exact ⟨by simp, rfl⟩
   simp only [Bool.not_true] at ne4
   cases e5
   ·simp only [Bool.not_false] at ne5
    go_wp2
    go_meet
    exact ⟨by simp, rfl⟩
   simp only [Bool.not_true] at ne5
   cases e6
   ·simp only [Bool.not_false] at ne6
    go_wp2
    go_meet
    exact ⟨by simp, rfl⟩
   simp only [Bool.not_true] at ne6
   cases e7
   ·simp only [Bool.not_false] at ne7
    go_wp2
    go_meet
    exact ⟨by simp, rfl⟩
   simp only [Bool.not_true] at ne7
   cases e8
   ·simp only [Bool.not_false] at ne8
    go_wp2
    go_meet
    exact ⟨by simp, rfl⟩
   simp only [Bool.not_true] at ne8
   cases e9
   ·simp only [Bool.not_false] at ne9
    go_wp2
    go_meet
    exact ⟨by simp, rfl⟩
   simp only [Bool.not_true] at ne9
   go_wp2
   go_meet
   exact ⟨by simp, rfl⟩
  case rest =>
  obtain ⟨rfl, rfl⟩ := hcut
  clear he1 ne1 he2 ne2 he3 ne3 he4 ne4 he5 ne5 he6 ne6 he7 ne7 he8 ne8 he9 ne9
  have HNO := Lib.hid (show (e1 && (e2 && (e3 && (e4 && (e5 && (e6 && (e7 && (e8 && e9)))))))) = false → agR a b = false by
   intro h
   cases hag : agR a b with
   | false => rfl
   | true =>
     unfold agR at hag
     simp only [Bool.and_eq_true] at hag
     obtain ⟨g1, g2, g3, g4⟩ := hag
     rw [HPl.out] at g1
     have l7 := HE7.out.1 (by unfold eqF at g2; rw [Bool.and_eq_true, decide_eq_true_eq, aHNP.out, bHNP.out] at g2; exact g2.1)
     have l8 := HE8.out.1 (by unfold eqF at g3; rw [Bool.and_eq_true, decide_eq_true_eq, aHNM.out, bHNM.out] at g3; exact g3.1)
     have l9 := HE9.out.1 (by unfold eqF at g4; rw [Bool.and_eq_true, decide_eq_true_eq, aHNO.out, bHNO.out] at g4; exact g4.1)
     simp only [Bool.and_eq_true] at g1
     obtain ⟨r1, r2, r3, r4, r5, r6⟩ := g1
     rw [r1, r2, r3, r4, r5, r6, l7, l8, l9] at h
     cases h)
  have HYE := Lib.hid (show (e1 && (e2 && (e3 && (e4 && (e5 && (e6 && (e7 && (e8 && e9)))))))) = true → aNP = bNP ∧ aNM = bNM ∧ aNO = bNO ∧ agR a b = ((a.parts.zip b.parts).all (fun x => partR x.1 x.2) && ((a.meths.zip b.meths).all (fun x => methR x.1 x.2) && (a.overs.zip b.overs).all (fun x => overFitB x.1 x.2))) by
   intro h
   simp only [Bool.and_eq_true] at h
   obtain ⟨r1, r2, r3, r4, r5, r6, r7, r8, r9⟩ := h
   have l7 := HE7.out.2 r7
   have l8 := HE8.out.2 r8
   have l9 := HE9.out.2 r9
   refine ⟨l7, l8, l9, ?_⟩
   unfold agR
   rw [HPl.out, r1, r2, r3, r4, r5, r6, eqF_at (by rw [aHNP.out, bHNP.out, l7]), eqF_at (by rw [aHNM.out, bHNM.out, l8]), eqF_at (by rw [aHNO.out, bHNO.out, l9])]
   simp)
  generalize (e1 && (e2 && (e3 && (e4 && (e5 && (e6 && (e7 && (e8 && e9)))))))) = E at HNO HYE ⊢
  clear HPl HE7 HE8 HE9 ac0 ac1 ac2 ac3 ac4 ac5 ac6 bc0 bc1 bc2 bc3 bc4 bc5 bc6
  cases E
  ·have HX := Lib.hid (HNO.out rfl)
   clear HNO HYE
   go_wp2
   go_ret
   exact ⟨ret_bool HX.out.symm, unhide LA⟩
  obtain ⟨q1, q2, q3, HAG0⟩ := HYE.out rfl
  have HAG := Lib.hid HAG0
  clear HNO HYE HAG0
  subst q1 q2 q3
  go_wp2
  go_loopg [5] aNP (fun g i wr => ∃ k : Nat, k ≤ aNP ∧ g = aNP - k ∧ i = .int .i64 k ∧ Below A1.heap.size A1 wr ∧ Hid (((a.parts.zip b.parts).take k).all (fun x => partR x.1 x.2) = true))
  case atStart => exact ⟨0, Nat.zero_le _, rfl, rfl, Below.refl _ _, Lib.hid rfl⟩
  case round =>
   obtain ⟨k, hk, hgk, rfl, hbw, HT⟩ := hrel
   have LW := hide (fun w' (h : Below A1.heap.size A1 w') => (unhide LA).trans (h.mono (unhide LA).size))
   have d7 := Holds.below hbw _ _ ac7
   have f7 := Holds.below hbw _ _ bc7
   by_cases hlt : k < aNP
   ·have h1 : k < a.parts.length := by rw [aHNP.out]; exact hlt
    have h2 : k < b.parts.length := by rw [bHNP.out]; exact hlt
    obtain ⟨-, -, -, hat⟩ := (unhide aHP).at
    obtain ⟨-, -, -, hbt⟩ := (unhide bHP).at
    obtain ⟨g1, o1, rfl, x0, -⟩ := hat k a.parts[k] (List.getElem?_eq_getElem h1)
    obtain ⟨g2, o2, rfl, y0, -⟩ := hbt k b.parts[k] (List.getElem?_eq_getElem h2)
    replace x0 := Holds.below hbw _ _ x0
    replace y0 := Holds.below hbw _ _ y0
    have HX := fun (h : partR a.parts[k] b.parts[k] = false) => Lib.hid (show agR a b = false by rw [HAG.out, zip_all_no (f := partR) h1 h2 h]; rfl)
    have HY := fun (h : partR a.parts[k] b.parts[k] = true) => Lib.hid (show ((a.parts.zip b.parts).take (k + 1)).all (fun x => partR x.1 x.2) = true by rw [zip_take_next (f := partR) h1 h2, HT.out, h]; rfl)
    have hs : (a.parts[k].name.toList == b.parts[k].name.toList) = partR a.parts[k] b.parts[k] := rfl
    generalize partR a.parts[k] b.parts[k] = z at HX HY hs
    generalize a.parts[k].name = xn at x0 hs
    generalize b.parts[k].name = yn at y0 hs
    have hsn := bne_of hs
    have hBD := hide (fun nq => below_drewN' hbw nq)
    have hLD := hide (fun nq => below_drewN' (unhide LW _ hbw) nq)
    have hlt' : (k : Int) < aNP := by omega
    clear hat hbt h1 h2 HT hbw
    cases z <;> simp only [Bool.not_true, Bool.not_false] at hsn
    ·have HZ := HX rfl
     clear HX HY
     go_wp2
     go_quiet (fail)
     go_wp2
     go_ret
     exact ⟨ret_bool HZ.out.symm, unhide hLD _⟩
    ·have HZ := HY rfl
     clear HX HY
     go_wp2
     go_quiet (fail)
     go_wp2
     go_roundg (aNP - (k + 1))
     case measure => omega
     case rel => exact ⟨k + 1, by omega, rfl, by go_num, unhide hBD nq, HZ⟩
   ·have hk2 : k = aNP := by omega
    have HAG2 := Lib.hid (show agR a b = ((a.meths.zip b.meths).all (fun x => methR x.1 x.2) && (a.overs.zip b.overs).all (fun x => overFitB x.1 x.2)) by
     have h := HT.out
     rw [List.take_of_length_le (by rw [List.length_zip, aHNP.out, bHNP.out]; omega)] at h
     rw [HAG.out, h, Bool.true_and])
    have HB2 := hide hbw
    have hlt' : ¬ (k : Int) < aNP := by omega
    clear HT HAG hk2 hlt hk hgk hbw aHP bHP
    go_wp2
    go_loopg [6] aNM (fun g i w2 => ∃ q : Nat, q ≤ aNM ∧ g = aNM - q ∧ i = .int .i64 q ∧ Below A1.heap.size A1 w2 ∧ Hid (((a.meths.zip b.meths).take q).all (fun x => methR x.1 x.2) = true))
    case atStart => exact ⟨0, Nat.zero_le _, rfl, rfl, unhide HB2, Lib.hid rfl⟩
    case round =>
     obtain ⟨q, hq, hgq, rfl, hbw, HT⟩ := hrel
     have d8 := Holds.below hbw _ _ ac8
     have f8 := Holds.below hbw _ _ bc8
     by_cases hqlt : q < aNM
     ·have h1 : q < a.meths.length := by rw [aHNM.out]; exact hqlt
      have h2 : q < b.meths.length := by rw [bHNM.out]; exact hqlt
      obtain ⟨-, -, -, hat⟩ := (unhide aHM).at
      obtain ⟨-, -, -, hbt⟩ := (unhide bHM).at
      obtain ⟨g1, o1, rfl, xva, xvr, xv, x0, x1, x2, x3, x4⟩ := hat q a.meths[q] (List.getElem?_eq_getElem h1)
      obtain ⟨g2, o2, rfl, yva, yvr, yv, y0, y1, y2, y3, y4⟩ := hbt q b.meths[q] (List.getElem?_eq_getElem h2)
      have HX := fun (h : methR a.meths[q] b.meths[q] = false) => Lib.hid (show agR a b = false by rw [HAG2.out, zip_all_no (f := methR) h1 h2 h]; rfl)
      have HY := fun (h : methR a.meths[q] b.meths[q] = true) => Lib.hid (show ((a.meths.zip b.meths).take (q + 1)).all (fun x => methR x.1 x.2) = true by rw [zip_take_next (f := methR) h1 h2, HT.out, h]; rfl)
      generalize a.meths[q] = x at xv x0 x1 x2 x3 x4 HX HY
      generalize b.meths[q] = y at yv y0 y1 y2 y3 y4 HX HY
      replace x0 := Holds.below hbw _ _ x0
      replace x1 := Holds.below hbw _ _ x1
      replace x2 := Holds.below hbw _ _ x2
      replace x3 := Holds.below hbw _ _ x3
      replace x4 := Holds.below hbw _ _ x4
      replace y0 := Holds.below hbw _ _ y0
      replace y1 := Holds.below hbw _ _ y1
      replace y2 := Holds.below hbw _ _ y2
      replace y3 := Holds.below hbw _ _ y3
      replace y4 := Holds.below hbw _ _ y4
      have XV := hide (fun w' (h : Below A1.heap.size A1 w') => xv.go (.below h))
      have YV := hide (fun w' (h : Below A1.heap.size A1 w') => yv.go (.below h))
      obtain ⟨xoa, xca, rfl⟩ := xv.args.form
      obtain ⟨yoa, yca, rfl⟩ := yv.args.form
      obtain ⟨xor, xcr, rfl⟩ := xv.raises.form
      obtain ⟨yor, ycr, rfl⟩ := yv.raises.form
      have bX := Blk.new wr [.string x.name, .slice xoa x.args.length xca, .int .i64 x.result, .slice xor x.raises.length xcr, .string x.proc] 74
      have lX := (Below.refl wr.heap.size wr).alloc (Nat.le_refl _) (.cells #[.string x.name, .slice xoa x.args.length xca, .int .i64 x.result, .slice xor x.raises.length xcr, .string x.proc] 74)
      change Blk (wr.alloc (.cells #[.string x.name, .slice xoa x.args.length xca, .int .i64 x.result, .slice xor x.raises.length xcr, .string x.proc] 74)) _ _ _ at bX
      have hq' : (q : Int) < aNM := by omega
      have HBW := hide hbw
      clear hat hbt h1 h2 HT xv yv
      go_upto_region 12 with fail
      generalize wr.alloc (.cells #[.string x.name, .slice xoa x.args.length xca, .int .i64 x.result, .slice xor x.raises.length xcr, .string x.proc] 74) = A2 at bX lX ⊢
      have hb2 := hbw.trans (lX.mono hbw.size)
      replace f8 := Holds.below lX _ _ f8
      replace y0 := Holds.below lX _ _ y0
      replace y1 := Holds.below lX _ _ y1
      replace y2 := Holds.below lX _ _ y2
      replace y3 := Holds.below lX _ _ y3
      replace y4 := Holds.below lX _ _ y4
      have bY := Blk.new A2 [.string y.name, .slice yoa y.args.length yca, .int .i64 y.result, .slice yor y.raises.length ycr, .string y.proc] 74
      have lY := (Below.refl A2.heap.size A2).alloc (Nat.le_refl _) (.cells #[.string y.name, .slice yoa y.args.length yca, .int .i64 y.result, .slice yor y.raises.length ycr, .string y.proc] 74)
      change Blk (A2.alloc (.cells #[.string y.name, .slice yoa y.args.length yca, .int .i64 y.result, .slice yor y.raises.length ycr, .string y.proc] 74)) _ _ _ at bY
      have bX2 := bX.alloc (.cells #[.string y.name, .slice yoa y.args.length yca, .int .i64 y.result, .slice yor y.raises.length ycr, .string y.proc] 74)
      clear x0 x1 x2 x3 x4 d8 bX lX hbw
      go_upto_region 13 with fail
      generalize A2.alloc (.cells #[.string y.name, .slice yoa y.args.length yca, .int .i64 y.result, .slice yor y.raises.length ycr, .string y.proc] 74) = A3 at bX2 bY lY ⊢
      have hb3 := hb2.trans (lY.mono hb2.size)
      have HRS := hide (refStrings_any _ _ _ _ A3 (unhide XV A3 hb3).raises (unhide YV A3 hb3).raises)
      have u0 : A3.cell? ⟨wr.heap.size, 0, none⟩ = some (.string x.name) := bX2.cell 0
      have u1 : A3.cell? ⟨wr.heap.size, 1, none⟩ = some (.slice xoa x.args.length xca) := bX2.cell 1
      have u2 : A3.cell? ⟨wr.heap.size, 2, none⟩ = some (.int .i64 x.result) := bX2.cell 2
      have u3 : A3.cell? ⟨wr.heap.size, 3, none⟩ = some (.slice xor x.raises.length xcr) := bX2.cell 3
      have u4 : A3.cell? ⟨wr.heap.size, 4, none⟩ = some (.string x.proc) := bX2.cell 4
      have v0 : A3.cell? ⟨A2.heap.size, 0, none⟩ = some (.string y.name) := bY.cell 0
      have v1 : A3.cell? ⟨A2.heap.size, 1, none⟩ = some (.slice yoa y.args.length yca) := bY.cell 1
      have v2 : A3.cell? ⟨A2.heap.size, 2, none⟩ = some (.int .i64 y.result) := bY.cell 2
      have v3 : A3.cell? ⟨A2.heap.size, 3, none⟩ = some (.slice yor y.raises.length ycr) := bY.cell 3
      have v4 : A3.cell? ⟨A2.heap.size, 4, none⟩ = some (.string y.proc) := bY.cell 4
      have LB3 := hide hb3
      have LW3 := hide (fun w' (h : Below A3.heap.size A3 w') => hb3.trans (h.mono hb3.size))
      have LAA := hide (fun w' (h : Below A1.heap.size A1 w') => (unhide LA).trans (h.mono (unhide LA).size))
      clear bX2 bY lY hb2 hb3 f8 y0 y1 y2 y3 y4 XV YV HBW
      generalize wr.heap.size = bx at u0 u1 u2 u3 u4 ⊢
      generalize A2.heap.size = by' at v0 v1 v2 v3 v4 ⊢
      have HM : methR x y = ((x.name.toList == y.name.toList) && ((x.proc.toList == y.proc.toList) && (((x.args.length : Int) == y.args.length) && ((decide (x.result < 0) == decide (y.result < 0)) && eqF sameS x.raises y.raises)))) := by
       unfold methR sameS
       rw [show decide (x.args.length = y.args.length) = ((x.args.length : Int) == y.args.length) by rw [Bool.eq_iff_iff]; simp; omega]
      generalize eqF sameS x.raises y.raises = m5 at HM HRS
      obtain ⟨m1, hm1⟩ : ∃ m, (x.name.toList == y.name.toList) = m := ⟨_, rfl⟩
      obtain ⟨m2, hm2⟩ : ∃ m, (x.proc.toList == y.proc.toList) = m := ⟨_, rfl⟩
      obtain ⟨m3, hm3⟩ : ∃ m, ((x.args.length : Int) == y.args.length) = m := ⟨_, rfl⟩
      obtain ⟨m4, hm4⟩ : ∃ m, (decide (x.result < 0) == decide (y.result < 0)) = m := ⟨_, rfl⟩
      rw [hm1, hm2, hm3, hm4] at HM
      have nm1 := bne_of hm1
      have nm2 := bne_of hm2
      have nm3 := bne_of hm3
      have nm4 := bne_of hm4
      cases m1
      ·simp only [Bool.not_false] at nm1
       have HZ := HX (by rw [HM]; simp)
       clear HX HY HM
       go_wp2
       go_ret
       exact ⟨ret_bool HZ.out.symm, unhide LAA _ (unhide LB3)⟩
      simp only [Bool.not_true] at nm1
      cases m2
      ·simp only [Bool.not_false] at nm2
       have HZ := HX (by rw [HM]; simp)
       clear HX HY HM
       go_wp2
       go_ret
       exact ⟨ret_bool HZ.out.symm, unhide LAA _ (unhide LB3)⟩
      simp only [Bool.not_true] at nm2
      cases m3
      ·simp only [Bool.not_false] at nm3
       have HZ := HX (by rw [HM]; simp)
       clear HX HY HM
       go_wp2
       go_ret
       exact ⟨ret_bool HZ.out.symm, unhide LAA _ (unhide LB3)⟩
      simp only [Bool.not_true] at nm3
      cases m4
      ·simp only [Bool.not_false] at nm4
       have HZ := HX (by rw [HM]; simp)
       clear HX HY HM
       go_wp2
       go_ret
       exact ⟨ret_bool HZ.out.symm, unhide LAA _ (unhide LB3)⟩
      simp only [Bool.not_true] at nm4
      cases m5
      ·have HZ := HX (by rw [HM]; simp)
       clear HX HY HM
       go_wp2_with (go_at_call 89; refine (unhide HRS).mono ?_; rintro e w5 ⟨rfl, hb5⟩)
       go_ret
       exact ⟨ret_bool HZ.out.symm, unhide LAA _ (unhide LW3 _ hb5)⟩
      ·have HZ := HY (by rw [HM]; simp)
       clear HX HY HM
       go_wp2_with (go_at_call 89; refine (unhide HRS).mono ?_; rintro e w5 ⟨rfl, hb5⟩)
       go_roundg (aNM - (q + 1))
       case measure => omega
       case rel => exact ⟨q + 1, by omega, rfl, by go_num, unhide LW3 _ hb5, HZ⟩
     ·have hq2 : q = aNM := by omega
      have HAG3 := Lib.hid (show agR a b = (a.overs.zip b.overs).all (fun x => overFitB x.1 x.2) by
       have h := HT.out
       rw [List.take_of_length_le (by rw [List.length_zip, aHNM.out, bHNM.out]; omega)] at h
       rw [HAG2.out, h, Bool.true_and])
      have HB3 := hide hbw
      have hlt' : ¬ (q : Int) < aNM := by omega
      clear HT HAG2 hq2 hqlt hq hgq hbw aHM bHM
      go_wp2
      go_loopg [9] aNO (fun g i w3 => ∃ r : Nat, r ≤ aNO ∧ g = aNO - r ∧ i = .int .i64 r ∧ Below A1.heap.size A1 w3 ∧ Hid (((a.overs.zip b.overs).take r).all (fun x => overFitB x.1 x.2) = true))
      case atStart => exact ⟨0, Nat.zero_le _, rfl, rfl, unhide HB3, Lib.hid rfl⟩
      case round =>
       obtain ⟨r, hr, hgr, rfl, hbw, HT⟩ := hrel
       have d9 := Holds.below hbw _ _ ac9
       have f9 := Holds.below hbw _ _ bc9
       have LAA := hide (fun w' (h : Below A1.heap.size A1 w') => (unhide LA).trans (h.mono (unhide LA).size))
       by_cases hrlt : r < aNO
       ·have h1 : r < a.overs.length := by rw [aHNO.out]; exact hrlt
        have h2 : r < b.overs.length := by rw [bHNO.out]; exact hrlt
        obtain ⟨-, -, -, hat⟩ := (unhide aHO).at
        obtain ⟨-, -, -, hbt⟩ := (unhide bHO).at
        obtain ⟨g1, o1, rfl, x0, x1⟩ := hat r a.overs[r] (List.getElem?_eq_getElem h1)
        obtain ⟨g2, o2, rfl, y0, y1⟩ := hbt r b.overs[r] (List.getElem?_eq_getElem h2)
        replace x0 := Holds.below hbw _ _ x0
        replace x1 := Holds.below hbw _ _ x1
        replace y0 := Holds.below hbw _ _ y0
        replace y1 := Holds.below hbw _ _ y1
        have HX := fun (h : overFitB a.overs[r] b.overs[r] = false) => Lib.hid (show agR a b = false by rw [HAG3.out, zip_all_no (f := overFitB) h1 h2 h])
        have HY := fun (h : overFitB a.overs[r] b.overs[r] = true) => Lib.hid (show ((a.overs.zip b.overs).take (r + 1)).all (fun x => overFitB x.1 x.2) = true by rw [zip_take_next (f := overFitB) h1 h2, HT.out, h]; rfl)
        generalize a.overs[r] = x at x0 x1 HX HY
        generalize b.overs[r] = y at y0 y1 HX HY
        have HM : overFitB x y = ((x.name.toList == y.name.toList) && (x.proc.toList == y.proc.toList)) := rfl
        obtain ⟨m1, hm1⟩ : ∃ m, (x.name.toList == y.name.toList) = m := ⟨_, rfl⟩
        obtain ⟨m2, hm2⟩ : ∃ m, (x.proc.toList == y.proc.toList) = m := ⟨_, rfl⟩
        rw [hm1, hm2] at HM
        have hBD := hide (fun nq => below_drewN' hbw nq)
        have hLD := hide (fun nq => below_drewN' (unhide LAA _ hbw) nq)
        have hr' : (r : Int) < aNO := by omega
        clear hat hbt h1 h2 HT hbw
        cases m1 <;> cases m2
        case true.true =>
         have HZ := HY (by rw [HM]; rfl)
         clear HX HY HM
         go_wp2
         go_quiet (fail)
         go_wp2
         go_roundg (aNO - (r + 1))
         case measure => omega
         case rel => exact ⟨r + 1, by omega, rfl, by go_num, unhide hBD nq, HZ⟩
        all_goals
         have HZ := HX (by rw [HM]; rfl)
         clear HX HY HM
         go_wp2
         go_quiet (fail)
         go_wp2
         go_ret
         exact ⟨ret_bool HZ.out.symm, unhide hLD _⟩
       ·have hr2 : r = aNO := by omega
        have HZ := Lib.hid (show agR a b = true by
         have h := HT.out
         rw [List.take_of_length_le (by rw [List.length_zip, aHNO.out, bHNO.out]; omega)] at h
         rw [HAG3.out, h])
        have hlt' : ¬ (r : Int) < aNO := by omega
        clear HT HAG3 hr2 hrlt
        go_wp2
        go_ret
        exact ⟨ret_bool HZ.out.symm, unhide LAA _ hbw⟩
end Go.Proofs.YteaokkaidcbdlaaGreatDoor

