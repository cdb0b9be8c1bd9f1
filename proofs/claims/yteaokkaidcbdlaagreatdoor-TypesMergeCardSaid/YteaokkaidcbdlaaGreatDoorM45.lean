/- Part 45 of 53: the texts Xe, one behind the other. -/
import Derived.Test.YteaokkaidcbdlaaGreatDoorM36
import Derived.Test.YteaokkaidcbdlaaGreatDoorM44
import Derived.Test.YteaokkaidcbdlaaGreatDoorM43
namespace Go.Proofs.YteaokkaidcbdlaaGreatDoor
open Go Go.RowKit Go.Shelf
theorem bool_plain : ∀ aL aH aB aE aO aS aP aM aV : Bool, ((((aL && aH) && (!aB && (aE && aO))) && aS) && (aP && (aM && aV))) = ((((((aL && aH) && (!aB && aE)) && aS) && aP) && (aM && aV)) && aO) := by decide
theorem bool_range : ∀ d aB aE aO aS aP aM aV : Bool, (d && ((((decide ((0 : Int) = 0) && decide ((0 : Int) = 0)) && (!aB && (aE && aO))) && aS) && (aP && (aM && aV)))) = (((((d && (!aB && aE)) && aS) && aP) && (aM && aV)) && aO) := by decide
theorem bool_ref : ∀ aR aB aE p aL aH aO aS aM aV : Bool, (((aR && (aB || aE)) && p) && ((((aL && aH) && (!false && ((bs ⟨#[]⟩).isEmpty && aO))) && aS) && (aM && aV))) = ((((((aL && aH) && (aR && (aB || aE))) && aS) && p) && (aM && aV)) && aO) := by decide
theorem bool_rec : ∀ aR aB aE d p aL aH aO aS aM aV : Bool, (((aR && (aB || aE)) && ((d || false) && p)) && ((((aL && aH) && (!false && (true && aO))) && aS) && (aM && aV))) = (((((((aL && aH) && (aR && (aB || aE))) && aS) && d) && p) && (aM && aV)) && aO) := by decide
theorem bool_obj : ∀ aR aB aE x d p m o aL aH aO : Bool, ((((((aR && (aB || aE)) && x) && ((d || true) && p)) && m) && o) && ((((aL && aH) && (!false && (true && aO))) && true) && true)) = ((((((aL && aH) && (aR && (aB || aE))) && x) && p) && (m && o)) && aO) := by decide
theorem bool_opq : ∀ o x aL aH aB aE aP aM aV : Bool, ((o && x) && ((((aL && aH) && (!aB && (aE && (bs ⟨#[]⟩).isEmpty))) && decide ((0 : Int) = 0)) && (aP && (aM && aV)))) = ((((((aL && aH) && (!aB && aE)) && x) && aP) && (aM && aV)) && o) := by decide
set_option maxRecDepth 100000 in
set_option maxHeartbeats 16000000 in
theorem refSaid_any (gv : Value) (G : List TyD) (t : TyD) (vp vm vo : Value) (W : World) (hG : GrAt W gv G) (hl : TyL W vp vm vo t) (hz : TyZ t) (hk : t.kind < 256) :
    Calls Tryz.prog 56 #[gv, tyVal t vp vm vo] W fun e w' => e = .returned (.bool (tyB G t)) ∧ Below W.heap.size W w' := by
  obtain ⟨og, cg, rfl⟩ := hG.form
  obtain ⟨op, cp, rfl⟩ := hl.parts.form
  obtain ⟨om, cm, rfl⟩ := hl.meths.form
  obtain ⟨oo, co, rfl⟩ := hl.overs.form
  obtain ⟨NP, hNP⟩ : ∃ NP, t.parts.length = NP := ⟨_, rfl⟩
  obtain ⟨NM, hNM⟩ : ∃ NM, t.meths.length = NM := ⟨_, rfl⟩
  obtain ⟨NO, hNO⟩ : ∃ NO, t.overs.length = NO := ⟨_, rfl⟩
  obtain ⟨N, hN⟩ : ∃ N, G.length = N := ⟨_, rfl⟩
  have HPs := hide hl.parts
  have HMt := hide (fun w (h : Below W.heap.size W w) => refMethods_any og N cg t _ _ _ w (hl.go (.below h)) hz)
  have HSu := hide (fun w (h : Below W.heap.size W w) => by
   have := refSuper_any (.slice og G.length cg) G t op om oo NP cp NM cm NO co w (hG.below h) hk
   rw [hN] at this; exact this)
  have HPt := hide (fun w (h : Below W.heap.size W w) => refParts_any og N cg _ t.parts w (hl.parts.mono fun _ _ _ _ => PartAt.go (.below h)) hz.parts)
  have HBr := hide (fun w => refBrand_any t.brand hz.brand w)
  have HSy := hide (fun w => (refSymbol_any t.opq hz.opq w).mono fun e w' ⟨h1, h2⟩ => (show e = _ ∧ w = w' from ⟨h1, h2.symm⟩))
  unfold tyVal at HMt HSu ⊢
  rw [hNP, hNM, hNO] at HMt
  rw [hNP, hNM, hNO, hN]
  rw [hNP] at HPt HPs
  have hLo : (t.low == 0) = decide (t.low = 0) := by rw [Bool.eq_iff_iff]; simp
  have hHi : (t.high == 0) = decide (t.high = 0) := by rw [Bool.eq_iff_iff]; simp
  have hSp : (t.super == 0) = decide (t.super = 0) := by rw [Bool.eq_iff_iff]; simp
  have hBE : (t.brand.toList == []) = (bs t.brand).isEmpty := by rw [toList_bs]; cases bs t.brand <;> rfl
  have hOE : (t.opq.toList == []) = (bs t.opq).isEmpty := by rw [toList_bs]; cases bs t.opq <;> rfl
  have hP0 : ((NP : Int) == 0) = decide (NP = 0) := by rw [Bool.eq_iff_iff]; simp
  have hM0 : ((NM : Int) == 0) = decide (NM = 0) := by rw [Bool.eq_iff_iff]; simp
  have hO0 : ((NO : Int) == 0) = decide (NO = 0) := by rw [Bool.eq_iff_iff]; simp
  have HPe := Lib.hid hNP
  have HMe := Lib.hid hNM
  have HOe := Lib.hid hNO
  have HNe := Lib.hid hN
  clear hNP hNM hNO hN hG hl hz
  obtain ⟨aL, HL⟩ : ∃ a, Hid (decide (t.low = 0) = a) := ⟨_, Lib.hid rfl⟩
  obtain ⟨aH, HH⟩ : ∃ a, Hid (decide (t.high = 0) = a) := ⟨_, Lib.hid rfl⟩
  obtain ⟨aS, HS⟩ : ∃ a, Hid (decide (t.super = 0) = a) := ⟨_, Lib.hid rfl⟩
  obtain ⟨aE, HE⟩ : ∃ a, Hid ((bs t.brand).isEmpty = a) := ⟨_, Lib.hid rfl⟩
  obtain ⟨aO, HO⟩ : ∃ a, Hid ((bs t.opq).isEmpty = a) := ⟨_, Lib.hid rfl⟩
  obtain ⟨aP, HP⟩ : ∃ a, Hid (decide (NP = 0) = a) := ⟨_, Lib.hid rfl⟩
  obtain ⟨aM, HM⟩ : ∃ a, Hid (decide (NM = 0) = a) := ⟨_, Lib.hid rfl⟩
  obtain ⟨aV, HV⟩ : ∃ a, Hid (decide (NO = 0) = a) := ⟨_, Lib.hid rfl⟩
  obtain ⟨aB, HB⟩ : ∃ a, Hid (t.branded = a) := ⟨_, Lib.hid rfl⟩
  obtain ⟨aR, HR⟩ : ∃ a, Hid (brandB (bs t.brand) = a) := ⟨_, Lib.hid rfl⟩
  rw [HL.out] at hLo
  rw [HH.out] at hHi
  rw [HS.out] at hSp
  rw [HE.out] at hBE
  rw [HO.out] at hOE
  rw [HP.out] at hP0
  rw [HM.out] at hM0
  rw [HV.out] at hO0
  rw [HR.out] at HBr
  rw [HB.out] at HMt HSu ⊢
  have bA := Blk.new W [.int .u8 t.kind, .int .i64 t.low, .int .i64 t.high, .bool aB, .string t.brand, .string t.opq, .int .i64 t.super, .slice op NP cp, .slice om NM cm, .slice oo NO co] 62
  have lA := (Below.refl W.heap.size W).alloc (Nat.le_refl _) (.cells #[.int .u8 t.kind, .int .i64 t.low, .int .i64 t.high, .bool aB, .string t.brand, .string t.opq, .int .i64 t.super, .slice op NP cp, .slice om NM cm, .slice oo NO co] 62)
  change Blk (W.alloc (.cells #[.int .u8 t.kind, .int .i64 t.low, .int .i64 t.high, .bool aB, .string t.brand, .string t.opq, .int .i64 t.super, .slice op NP cp, .slice om NM cm, .slice oo NO co] 62)) _ _ _ at bA
  go_enter Tryz.func56, Tryz.ntmps56
  go_upto_region 1 with fail
  generalize W.alloc (.cells #[.int .u8 t.kind, .int .i64 t.low, .int .i64 t.high, .bool aB, .string t.brand, .string t.opq, .int .i64 t.super, .slice op NP cp, .slice om NM cm, .slice oo NO co] 62) = A1 at bA lA ⊢
  have LA := hide lA
  clear lA
  have c0 : A1.cell? ⟨W.heap.size, 0, none⟩ = some (.int .u8 t.kind) := bA.cell 0
  have c1 : A1.cell? ⟨W.heap.size, 1, none⟩ = some (.int .i64 t.low) := bA.cell 1
  have c2 : A1.cell? ⟨W.heap.size, 2, none⟩ = some (.int .i64 t.high) := bA.cell 2
  have c3 : A1.cell? ⟨W.heap.size, 3, none⟩ = some (.bool aB) := bA.cell 3
  have c4 : A1.cell? ⟨W.heap.size, 4, none⟩ = some (.string t.brand) := bA.cell 4
  have c5 : A1.cell? ⟨W.heap.size, 5, none⟩ = some (.string t.opq) := bA.cell 5
  have c6 : A1.cell? ⟨W.heap.size, 6, none⟩ = some (.int .i64 t.super) := bA.cell 6
  have c7 : A1.cell? ⟨W.heap.size, 7, none⟩ = some (.slice op NP cp) := bA.cell 7
  have c8 : A1.cell? ⟨W.heap.size, 8, none⟩ = some (.slice om NM cm) := bA.cell 8
  have c9 : A1.cell? ⟨W.heap.size, 9, none⟩ = some (.slice oo NO co) := bA.cell 9
  clear bA
  go_cut [5] from 13 to 20 (fun c wx => c = .bool (aL && aH) ∧ A1 = wx)
  case first =>
   cases aL
   all_goals
    go_wp2
    go_meet
    exact ⟨rfl, rfl⟩
  case rest =>
  obtain ⟨rfl, rfl⟩ := hcut
  go_upto_region 2 with fail
  go_cut [6] from 21 to 28 (fun c wx => c = .bool (!aB && aE) ∧ A1 = wx)
  case first =>
   cases aB
   all_goals
    go_wp2
    go_meet
    exact ⟨rfl, rfl⟩
  case rest =>
  obtain ⟨rfl, rfl⟩ := hcut
  go_upto_region 5 with fail
  go_cut [9] from 36 to 45 (fun c wx => c = .bool (aM && aV) ∧ A1 = wx)
  case first =>
   cases aM
   all_goals
    go_wp2
    go_meet
    exact ⟨rfl, rfl⟩
  case rest =>
  obtain ⟨rfl, rfl⟩ := hcut
  go_upto_region 7 with fail
  go_cut [11] from 49 to 60 (fun c wx => c = .bool (aR && (aB || aE)) ∧ A1 = wx)
  case first =>
   cases aR <;> cases aB
   all_goals
    go_wp2_with (go_at_call 95; with_reducible refine (unhide HBr _).mono ?_; rintro e w5 ⟨rfl, rfl⟩)
    go_meet
    exact ⟨rfl, rfl⟩
  case rest =>
  obtain ⟨rfl, rfl⟩ := hcut
  go_upto_region 8 with fail
  have HPM : decide (NP + NM + NO = 0) = (aP && (aM && aV)) := by
   rw [← HP.out, ← HM.out, ← HV.out, Bool.eq_iff_iff]; simp; omega
  have HMV : decide (NM + NO = 0) = (aM && aV) := by
   rw [← HM.out, ← HV.out, Bool.eq_iff_iff]; simp
  clear hLo hHi hSp hBE hOE hP0 hM0 hO0 HBr
  obtain ⟨K, hK⟩ : ∃ K, t.kind = K := ⟨_, rfl⟩
  rcases (show K = 1 ∨ K = 2 ∨ K = 4 ∨ K = 5 ∨ K = 6 ∨ K = 7 ∨ K = 8 ∨ K = 3 ∨ K = 9 ∨ K = 11 ∨ K = 10 ∨ K = 12 ∨ K = 13 ∨ (K ≠ 1 ∧ K ≠ 2 ∧ K ≠ 4 ∧ K ≠ 5 ∧ K ≠ 6 ∧ K ≠ 7 ∧ K ≠ 8 ∧ K ≠ 3 ∧ K ≠ 9 ∧ K ≠ 11 ∧ K ≠ 10 ∧ K ≠ 12 ∧ K ≠ 13) by omega) with rfl | rfl | rfl | rfl | rfl | rfl | rfl | rfl | rfl | rfl | rfl | rfl | rfl | ⟨n1, n2, n4, n5, n6, n7, n8, n3, n9, n11, n10, n12, n13⟩
  ·have hK1 : t.kind = 1 := hK
   rw [hK] at c0
   clear hK
   have HX := Lib.hid (show tyB G t = ((((((aL && aH) && (!aB && aE)) && aS) && aP) && (aM && aV)) && aO) by
    unfold tyB; rw [hK1]
    show bareB t (t.parts.length + t.meths.length + t.overs.length) = _
    unfold bareB
    rw [HPe.out, HMe.out, HOe.out, HL.out, HH.out, HB.out, HE.out, HO.out, HS.out, HPM]
    exact bool_plain _ _ _ _ _ _ _ _ _)
   clear HL HH HB HE HO HS HP HM HV HR HPM HMV HPe HMe HOe HNe HMt HSu HPt HPs HSy
   generalize (aL && aH) = b5 at HX ⊢
   generalize (!aB && aE) = b6 at HX ⊢
   generalize (aM && aV) = b9 at HX ⊢
   generalize (aR && (aB || aE)) = b11
   cases b5
   ·go_wp2
    go_ret
    exact ⟨ret_bool (by rw [HX.out]; simp), unhide LA⟩
   cases b6
   ·go_wp2
    go_ret
    exact ⟨ret_bool (by rw [HX.out]; simp), unhide LA⟩
   cases aS
   ·go_wp2
    go_ret
    exact ⟨ret_bool (by rw [HX.out]; simp), unhide LA⟩
   cases aP
   ·go_wp2
    go_ret
    exact ⟨ret_bool (by rw [HX.out]; simp), unhide LA⟩
   cases b9
   ·go_wp2
    go_ret
    exact ⟨ret_bool (by rw [HX.out]; simp), unhide LA⟩
   go_wp2
   go_ret
   exact ⟨ret_bool (by rw [HX.out]; simp), unhide LA⟩
  ·have hK2 : t.kind = 2 := hK
   rw [hK] at c0
   clear hK
   have HX := Lib.hid (show tyB G t = ((((((aL && aH) && (!aB && aE)) && aS) && aP) && (aM && aV)) && aO) by
    unfold tyB; rw [hK2]
    show bareB t (t.parts.length + t.meths.length + t.overs.length) = _
    unfold bareB
    rw [HPe.out, HMe.out, HOe.out, HL.out, HH.out, HB.out, HE.out, HO.out, HS.out, HPM]
    exact bool_plain _ _ _ _ _ _ _ _ _)
   clear HL HH HB HE HO HS HP HM HV HR HPM HMV HPe HMe HOe HNe HMt HSu HPt HPs HSy
   generalize (aL && aH) = b5 at HX ⊢
   generalize (!aB && aE) = b6 at HX ⊢
   generalize (aM && aV) = b9 at HX ⊢
   generalize (aR && (aB || aE)) = b11
   cases b5
   ·go_wp2
    go_ret
    exact ⟨ret_bool (by rw [HX.out]; simp), unhide LA⟩
   cases b6
   ·go_wp2
    go_ret
    exact ⟨ret_bool (by rw [HX.out]; simp), unhide LA⟩
   cases aS
   ·go_wp2
    go_ret
    exact ⟨ret_bool (by rw [HX.out]; simp), unhide LA⟩
   cases aP
   ·go_wp2
    go_ret
    exact ⟨ret_bool (by rw [HX.out]; simp), unhide LA⟩
   cases b9
   ·go_wp2
    go_ret
    exact ⟨ret_bool (by rw [HX.out]; simp), unhide LA⟩
   go_wp2
   go_ret
   exact ⟨ret_bool (by rw [HX.out]; simp), unhide LA⟩
  ·have hK4 : t.kind = 4 := hK
   rw [hK] at c0
   clear hK
   have HX := Lib.hid (show tyB G t = ((((((aL && aH) && (!aB && aE)) && aS) && aP) && (aM && aV)) && aO) by
    unfold tyB; rw [hK4]
    show bareB t (t.parts.length + t.meths.length + t.overs.length) = _
    unfold bareB
    rw [HPe.out, HMe.out, HOe.out, HL.out, HH.out, HB.out, HE.out, HO.out, HS.out, HPM]
    exact bool_plain _ _ _ _ _ _ _ _ _)
   clear HL HH HB HE HO HS HP HM HV HR HPM HMV HPe HMe HOe HNe HMt HSu HPt HPs HSy
   generalize (aL && aH) = b5 at HX ⊢
   generalize (!aB && aE) = b6 at HX ⊢
   generalize (aM && aV) = b9 at HX ⊢
   generalize (aR && (aB || aE)) = b11
   cases b5
   ·go_wp2
    go_ret
    exact ⟨ret_bool (by rw [HX.out]; simp), unhide LA⟩
   cases b6
   ·go_wp2
    go_ret
    exact ⟨ret_bool (by rw [HX.out]; simp), unhide LA⟩
   cases aS
   ·go_wp2
    go_ret
    exact ⟨ret_bool (by rw [HX.out]; simp), unhide LA⟩
   cases aP
   ·go_wp2
    go_ret
    exact ⟨ret_bool (by rw [HX.out]; simp), unhide LA⟩
   cases b9
   ·go_wp2
    go_ret
    exact ⟨ret_bool (by rw [HX.out]; simp), unhide LA⟩
   go_wp2
   go_ret
   exact ⟨ret_bool (by rw [HX.out]; simp), unhide LA⟩
  ·have hK5 : t.kind = 5 := hK
   rw [hK] at c0
   clear hK
   have HX := Lib.hid (show tyB G t = ((((((aL && aH) && (!aB && aE)) && aS) && aP) && (aM && aV)) && aO) by
    unfold tyB; rw [hK5]
    show bareB t (t.parts.length + t.meths.length + t.overs.length) = _
    unfold bareB
    rw [HPe.out, HMe.out, HOe.out, HL.out, HH.out, HB.out, HE.out, HO.out, HS.out, HPM]
    exact bool_plain _ _ _ _ _ _ _ _ _)
   clear HL HH HB HE HO HS HP HM HV HR HPM HMV HPe HMe HOe HNe HMt HSu HPt HPs HSy
   generalize (aL && aH) = b5 at HX ⊢
   generalize (!aB && aE) = b6 at HX ⊢
   generalize (aM && aV) = b9 at HX ⊢
   generalize (aR && (aB || aE)) = b11
   cases b5
   ·go_wp2
    go_ret
    exact ⟨ret_bool (by rw [HX.out]; simp), unhide LA⟩
   cases b6
   ·go_wp2
    go_ret
    exact ⟨ret_bool (by rw [HX.out]; simp), unhide LA⟩
   cases aS
   ·go_wp2
    go_ret
    exact ⟨ret_bool (by rw [HX.out]; simp), unhide LA⟩
   cases aP
   ·go_wp2
    go_ret
    exact ⟨ret_bool (by rw [HX.out]; simp), unhide LA⟩
   cases b9
   ·go_wp2
    go_ret
    exact ⟨ret_bool (by rw [HX.out]; simp), unhide LA⟩
   go_wp2
   go_ret
   exact ⟨ret_bool (by rw [HX.out]; simp), unhide LA⟩
  ·have hK6 : t.kind = 6 := hK
   rw [hK] at c0
   clear hK
   have HX := Lib.hid (show tyB G t = ((((((aL && aH) && (!aB && aE)) && aS) && aP) && (aM && aV)) && aO) by
    unfold tyB; rw [hK6]
    show bareB t (t.parts.length + t.meths.length + t.overs.length) = _
    unfold bareB
    rw [HPe.out, HMe.out, HOe.out, HL.out, HH.out, HB.out, HE.out, HO.out, HS.out, HPM]
    exact bool_plain _ _ _ _ _ _ _ _ _)
   clear HL HH HB HE HO HS HP HM HV HR HPM HMV HPe HMe HOe HNe HMt HSu HPt HPs HSy
   generalize (aL && aH) = b5 at HX ⊢
   generalize (!aB && aE) = b6 at HX ⊢
   generalize (aM && aV) = b9 at HX ⊢
   generalize (aR && (aB || aE)) = b11
   cases b5
   ·go_wp2
    go_ret
    exact ⟨ret_bool (by rw [HX.out]; simp), unhide LA⟩
   cases b6
   ·go_wp2
    go_ret
    exact ⟨ret_bool (by rw [HX.out]; simp), unhide LA⟩
   cases aS
   ·go_wp2
    go_ret
    exact ⟨ret_bool (by rw [HX.out]; simp), unhide LA⟩
   cases aP
   ·go_wp2
    go_ret
    exact ⟨ret_bool (by rw [HX.out]; simp), unhide LA⟩
   cases b9
   ·go_wp2
    go_ret
    exact ⟨ret_bool (by rw [HX.out]; simp), unhide LA⟩
   go_wp2
   go_ret
   exact ⟨ret_bool (by rw [HX.out]; simp), unhide LA⟩
  ·have hK7 : t.kind = 7 := hK
   rw [hK] at c0
   clear hK
   have HX := Lib.hid (show tyB G t = ((((((aL && aH) && (!aB && aE)) && aS) && aP) && (aM && aV)) && aO) by
    unfold tyB; rw [hK7]
    show bareB t (t.parts.length + t.meths.length + t.overs.length) = _
    unfold bareB
    rw [HPe.out, HMe.out, HOe.out, HL.out, HH.out, HB.out, HE.out, HO.out, HS.out, HPM]
    exact bool_plain _ _ _ _ _ _ _ _ _)
   clear HL HH HB HE HO HS HP HM HV HR HPM HMV HPe HMe HOe HNe HMt HSu HPt HPs HSy
   generalize (aL && aH) = b5 at HX ⊢
   generalize (!aB && aE) = b6 at HX ⊢
   generalize (aM && aV) = b9 at HX ⊢
   generalize (aR && (aB || aE)) = b11
   cases b5
   ·go_wp2
    go_ret
    exact ⟨ret_bool (by rw [HX.out]; simp), unhide LA⟩
   cases b6
   ·go_wp2
    go_ret
    exact ⟨ret_bool (by rw [HX.out]; simp), unhide LA⟩
   cases aS
   ·go_wp2
    go_ret
    exact ⟨ret_bool (by rw [HX.out]; simp), unhide LA⟩
   cases aP
   ·go_wp2
    go_ret
    exact ⟨ret_bool (by rw [HX.out]; simp), unhide LA⟩
   cases b9
   ·go_wp2
    go_ret
    exact ⟨ret_bool (by rw [HX.out]; simp), unhide LA⟩
   go_wp2
   go_ret
   exact ⟨ret_bool (by rw [HX.out]; simp), unhide LA⟩
  ·have hK8 : t.kind = 8 := hK
   rw [hK] at c0
   clear hK
   have HX := Lib.hid (show tyB G t = ((((((aL && aH) && (!aB && aE)) && aS) && aP) && (aM && aV)) && aO) by
    unfold tyB; rw [hK8]
    show bareB t (t.parts.length + t.meths.length + t.overs.length) = _
    unfold bareB
    rw [HPe.out, HMe.out, HOe.out, HL.out, HH.out, HB.out, HE.out, HO.out, HS.out, HPM]
    exact bool_plain _ _ _ _ _ _ _ _ _)
   clear HL HH HB HE HO HS HP HM HV HR HPM HMV HPe HMe HOe HNe HMt HSu HPt HPs HSy
   generalize (aL && aH) = b5 at HX ⊢
   generalize (!aB && aE) = b6 at HX ⊢
   generalize (aM && aV) = b9 at HX ⊢
   generalize (aR && (aB || aE)) = b11
   cases b5
   ·go_wp2
    go_ret
    exact ⟨ret_bool (by rw [HX.out]; simp), unhide LA⟩
   cases b6
   ·go_wp2
    go_ret
    exact ⟨ret_bool (by rw [HX.out]; simp), unhide LA⟩
   cases aS
   ·go_wp2
    go_ret
    exact ⟨ret_bool (by rw [HX.out]; simp), unhide LA⟩
   cases aP
   ·go_wp2
    go_ret
    exact ⟨ret_bool (by rw [HX.out]; simp), unhide LA⟩
   cases b9
   ·go_wp2
    go_ret
    exact ⟨ret_bool (by rw [HX.out]; simp), unhide LA⟩
   go_wp2
   go_ret
   exact ⟨ret_bool (by rw [HX.out]; simp), unhide LA⟩
  ·have hK3 : t.kind = 3 := hK
   rw [hK] at c0
   clear hK
   have HX := Lib.hid (show tyB G t = ((((((decide (-1000000000 ≤ t.low ∧ t.low ≤ t.high ∧ t.high ≤ 1000000000) && (!aB && aE)) && aS) && aP) && (aM && aV)) && aO)) by
    unfold tyB; rw [hK3]
    show (boundsB t && bareB { t with low := 0, high := 0 } (t.parts.length + t.meths.length + t.overs.length)) = _
    unfold bareB boundsB
    rw [HPe.out, HMe.out, HOe.out, HB.out, HE.out, HO.out, HS.out, HPM]
    exact bool_range _ _ _ _ _ _ _ _)
   clear HL HH HB HE HO HS HP HM HV HR HPM HMV HPe HMe HOe HNe HMt HSu HPt HPs HSy
   generalize (aL && aH) = b5
   generalize (!aB && aE) = b6 at HX ⊢
   generalize (aM && aV) = b9 at HX ⊢
   generalize (aR && (aB || aE)) = b11
   obtain ⟨lo, hlo⟩ : ∃ x, t.low = x := ⟨_, rfl⟩
   obtain ⟨hi, hhi⟩ : ∃ x, t.high = x := ⟨_, rfl⟩
   rw [hlo, hhi] at HX
   rw [hlo] at c1
   rw [hhi] at c2
   clear hlo hhi
   rcases (show lo < -1000000000 ∨ (-1000000000 ≤ lo ∧ hi < lo) ∨ (-1000000000 ≤ lo ∧ lo ≤ hi ∧ 1000000000 < hi) ∨ (-1000000000 ≤ lo ∧ lo ≤ hi ∧ hi ≤ 1000000000) by omega) with h1 | ⟨h1, h2⟩ | ⟨h1, h2, h3⟩ | ⟨h1, h2, h3⟩
   ·rw [decide_eq_false (p := -1000000000 ≤ lo ∧ lo ≤ hi ∧ hi ≤ 1000000000) (by omega)] at HX
    go_wp2
    go_ret
    exact ⟨ret_bool (by rw [HX.out]; simp), unhide LA⟩
   ·rw [decide_eq_false (p := -1000000000 ≤ lo ∧ lo ≤ hi ∧ hi ≤ 1000000000) (by omega)] at HX
    go_wp2
    go_ret
    exact ⟨ret_bool (by rw [HX.out]; simp), unhide LA⟩
   ·rw [decide_eq_false (p := -1000000000 ≤ lo ∧ lo ≤ hi ∧ hi ≤ 1000000000) (by omega)] at HX
    go_wp2
    go_ret
    exact ⟨ret_bool (by rw [HX.out]; simp), unhide LA⟩
   rw [decide_eq_true (p := -1000000000 ≤ lo ∧ lo ≤ hi ∧ hi ≤ 1000000000) ⟨h1, h2, h3⟩] at HX
   cases b6
   ·go_wp2
    go_ret
    exact ⟨ret_bool (by rw [HX.out]; simp), unhide LA⟩
   cases aS
   ·go_wp2
    go_ret
    exact ⟨ret_bool (by rw [HX.out]; simp), unhide LA⟩
   cases aP
   ·go_wp2
    go_ret
    exact ⟨ret_bool (by rw [HX.out]; simp), unhide LA⟩
   cases b9
   ·go_wp2
    go_ret
    exact ⟨ret_bool (by rw [HX.out]; simp), unhide LA⟩
   go_wp2
   go_ret
   exact ⟨ret_bool (by rw [HX.out]; simp), unhide LA⟩
  ·have hK9 : t.kind = 9 := hK
   rw [hK] at c0
   clear hK
   have HX := Lib.hid (show tyB G t = ((((((aL && aH) && (aR && (aB || aE))) && aS) && partB N t) && (aM && aV)) && aO) by
    unfold tyB; rw [hK9]
    show ((brandedB t && partB G.length t) && bareB { t with branded := false, brand := ⟨#[]⟩ } (0 + t.meths.length + t.overs.length)) = _
    unfold bareB brandedB
    rw [HMe.out, HOe.out, HNe.out, HL.out, HH.out, HB.out, HE.out, HO.out, HS.out, HR.out, Nat.zero_add, HMV]
    exact bool_ref _ _ _ _ _ _ _ _ _ _)
   have HQ := Lib.hid (show partB N t = (match t.parts with | [p] => (bs p.name).isEmpty && idxB N p.type | _ => false) from rfl)
   clear HL HH HB HE HO HS HP HM HV HR HPM HMV HMe HOe HNe HMt HSu HPt HSy
   generalize (aL && aH) = b5 at HX ⊢
   generalize (!aB && aE) = b6
   generalize (aM && aV) = b9 at HX ⊢
   generalize (aR && (aB || aE)) = b11 at HX ⊢
   generalize partB N t = xP at HX HQ
   clear hK9
   go_upto_region 21 with fail
   go_cut [12] from 122 to 151 (fun c wx => c = .bool xP ∧ A1 = wx)
   case first =>
    have hps := unhide HPs
    have hpl := HPe.out
    clear HPs HPe HX
    obtain ⟨-, -, -, hat⟩ := hps.at
    generalize t.parts = ps at hat hpl HQ
    match ps, hpl, HQ with
    | [], hpl, HQ =>
      have hN0 : ((NP : Int) == 1) = false := by simp; simp at hpl; omega
      have HQ2 := Lib.hid HQ.out
      clear hpl hat hps
      go_wp2
      go_meet
      exact ⟨by rw [HQ2.out], rfl⟩
    | p :: q :: r, hpl, HQ =>
      have hN0 : ((NP : Int) == 1) = false := by simp; simp at hpl; omega
      have HQ2 := Lib.hid HQ.out
      clear hpl hat hps
      go_wp2
      go_meet
      exact ⟨by rw [HQ2.out], rfl⟩
    | [p], hpl, HQ =>
      have hN1 : NP = 1 := by simp at hpl; omega
      subst hN1
      obtain ⟨b, off, rfl, e0, e1⟩ := hat 0 p rfl
      have d0 := Holds.below (unhide LA) _ _ e0
      have d1 := Holds.below (unhide LA) _ _ e1
      have hE : (p.name.toList == []) = (bs p.name).isEmpty := by rw [toList_bs]; cases bs p.name <;> rfl
      have HQ2 : xP = ((bs p.name).isEmpty && idxB N p.type) := HQ.out
      rw [Nat.zero_mul, Nat.add_zero] at d0 d1
      generalize (bs p.name).isEmpty = x at hE HQ2
      unfold idxB at HQ2
      generalize p.type = y at d1 HQ2
      have HQ3 := Lib.hid HQ2
      clear HQ2 hpl hat hps e0 e1
      rcases (show y < 0 ∨ (0 ≤ y ∧ (N : Int) ≤ y) ∨ (0 ≤ y ∧ y < N) by omega) with h1 | ⟨h1, h2⟩ | ⟨h1, h2⟩
      all_goals
       cases x
       all_goals
        go_wp2
        go_meet
        exact ⟨by rw [HQ3.out]; simp; try omega, rfl⟩
   case rest =>
   obtain ⟨rfl, rfl⟩ := hcut
   clear HPs HPe HQ
   cases b5
   ·go_wp2
    go_ret
    exact ⟨ret_bool (by rw [HX.out]; simp), unhide LA⟩
   cases b11
   ·go_wp2
    go_ret
    exact ⟨ret_bool (by rw [HX.out]; simp), unhide LA⟩
   cases aS
   ·go_wp2
    go_ret
    exact ⟨ret_bool (by rw [HX.out]; simp), unhide LA⟩
   cases xP
   ·go_wp2
    go_ret
    exact ⟨ret_bool (by rw [HX.out]; simp), unhide LA⟩
   cases b9
   ·go_wp2
    go_ret
    exact ⟨ret_bool (by rw [HX.out]; simp), unhide LA⟩
   go_wp2
   go_ret
   exact ⟨ret_bool (by rw [HX.out]; simp), unhide LA⟩
  ·have hK11 : t.kind = 11 := hK
   rw [hK] at c0
   clear hK
   have HX := Lib.hid (show tyB G t = ((((((aL && aH) && (aR && (aB || aE))) && aS) && partB N t) && (aM && aV)) && aO) by
    unfold tyB; rw [hK11]
    show ((brandedB t && partB G.length t) && bareB { t with branded := false, brand := ⟨#[]⟩ } (0 + t.meths.length + t.overs.length)) = _
    unfold bareB brandedB
    rw [HMe.out, HOe.out, HNe.out, HL.out, HH.out, HB.out, HE.out, HO.out, HS.out, HR.out, Nat.zero_add, HMV]
    exact bool_ref _ _ _ _ _ _ _ _ _ _)
   have HQ := Lib.hid (show partB N t = (match t.parts with | [p] => (bs p.name).isEmpty && idxB N p.type | _ => false) from rfl)
   clear HL HH HB HE HO HS HP HM HV HR HPM HMV HMe HOe HNe HMt HSu HPt HSy
   generalize (aL && aH) = b5 at HX ⊢
   generalize (!aB && aE) = b6
   generalize (aM && aV) = b9 at HX ⊢
   generalize (aR && (aB || aE)) = b11 at HX ⊢
   generalize partB N t = xP at HX HQ
   clear hK11
   go_upto_region 21 with fail
   go_cut [12] from 122 to 151 (fun c wx => c = .bool xP ∧ A1 = wx)
   case first =>
    have hps := unhide HPs
    have hpl := HPe.out
    clear HPs HPe HX
    obtain ⟨-, -, -, hat⟩ := hps.at
    generalize t.parts = ps at hat hpl HQ
    match ps, hpl, HQ with
    | [], hpl, HQ =>
      have hN0 : ((NP : Int) == 1) = false := by simp; simp at hpl; omega
      have HQ2 := Lib.hid HQ.out
      clear hpl hat hps
      go_wp2
      go_meet
      exact ⟨by rw [HQ2.out], rfl⟩
    | p :: q :: r, hpl, HQ =>
      have hN0 : ((NP : Int) == 1) = false := by simp; simp at hpl; omega
      have HQ2 := Lib.hid HQ.out
      clear hpl hat hps
      go_wp2
      go_meet
      exact ⟨by rw [HQ2.out], rfl⟩
    | [p], hpl, HQ =>
      have hN1 : NP = 1 := by simp at hpl; omega
      subst hN1
      obtain ⟨b, off, rfl, e0, e1⟩ := hat 0 p rfl
      have d0 := Holds.below (unhide LA) _ _ e0
      have d1 := Holds.below (unhide LA) _ _ e1
      have hE : (p.name.toList == []) = (bs p.name).isEmpty := by rw [toList_bs]; cases bs p.name <;> rfl
      have HQ2 : xP = ((bs p.name).isEmpty && idxB N p.type) := HQ.out
      rw [Nat.zero_mul, Nat.add_zero] at d0 d1
      generalize (bs p.name).isEmpty = x at hE HQ2
      unfold idxB at HQ2
      generalize p.type = y at d1 HQ2
      have HQ3 := Lib.hid HQ2
      clear HQ2 hpl hat hps e0 e1
      rcases (show y < 0 ∨ (0 ≤ y ∧ (N : Int) ≤ y) ∨ (0 ≤ y ∧ y < N) by omega) with h1 | ⟨h1, h2⟩ | ⟨h1, h2⟩
      all_goals
       cases x
       all_goals
        go_wp2
        go_meet
        exact ⟨by rw [HQ3.out]; simp; try omega, rfl⟩
   case rest =>
   obtain ⟨rfl, rfl⟩ := hcut
   clear HPs HPe HQ
   cases b5
   ·go_wp2
    go_ret
    exact ⟨ret_bool (by rw [HX.out]; simp), unhide LA⟩
   cases b11
   ·go_wp2
    go_ret
    exact ⟨ret_bool (by rw [HX.out]; simp), unhide LA⟩
   cases aS
   ·go_wp2
    go_ret
    exact ⟨ret_bool (by rw [HX.out]; simp), unhide LA⟩
   cases xP
   ·go_wp2
    go_ret
    exact ⟨ret_bool (by rw [HX.out]; simp), unhide LA⟩
   cases b9
   ·go_wp2
    go_ret
    exact ⟨ret_bool (by rw [HX.out]; simp), unhide LA⟩
   go_wp2
   go_ret
   exact ⟨ret_bool (by rw [HX.out]; simp), unhide LA⟩
  ·have hK10 : t.kind = 10 := hK
   rw [hK] at c0
   clear hK
   have HX := Lib.hid (show tyB G t = (((((((aL && aH) && (aR && (aB || aE))) && aS) && decide (0 < NP)) && partsB N t.parts) && (aM && aV)) && aO) by
    unfold tyB; rw [hK10]
    show ((brandedB t && fieldsB G.length t) && bareB { t with branded := false, brand := ⟨#[]⟩ } (0 + t.meths.length + t.overs.length)) = _
    unfold bareB brandedB fieldsB
    rw [hK10, HPe.out, HMe.out, HOe.out, HNe.out, HL.out, HH.out, HB.out, HE.out, HO.out, HS.out, HR.out, Nat.zero_add, HMV, decide_eq_true (p := (10 : Nat) = 10) rfl]
    show ((((aR && (aB || aE)) && ((decide (0 < NP) || false) && partsB N t.parts)) && ((((aL && aH) && (!false && (true && aO))) && aS) && (aM && aV)))) = _
    exact bool_rec _ _ _ _ _ _ _ _ _ _ _)
   clear HL HH HB HE HO HS HP HM HV HR HPM HMV HPe HMe HOe HNe HMt HSu HPs HSy
   generalize (aL && aH) = b5 at HX ⊢
   generalize (!aB && aE) = b6
   generalize (aM && aV) = b9 at HX ⊢
   generalize (aR && (aB || aE)) = b11 at HX ⊢
   generalize partsB N t.parts = xP at HX HPt
   cases b5
   ·go_wp2
    go_ret
    exact ⟨ret_bool (by rw [HX.out]; simp), unhide LA⟩
   cases b11
   ·go_wp2
    go_ret
    exact ⟨ret_bool (by rw [HX.out]; simp), unhide LA⟩
   cases aS
   ·go_wp2
    go_ret
    exact ⟨ret_bool (by rw [HX.out]; simp), unhide LA⟩
   by_cases h0 : 0 < NP
   case neg =>
    rw [decide_eq_false h0] at HX
    have h0' : ¬ (1 : Int) ≤ NP := by omega
    clear h0
    go_wp2
    go_ret
    exact ⟨ret_bool (by rw [HX.out]; simp), unhide LA⟩
   rw [decide_eq_true h0] at HX
   have h0' : (1 : Int) ≤ NP := by omega
   clear h0
   cases xP
   ·go_wp2_with (go_at_call 96; with_reducible refine (unhide HPt _ (unhide LA)).mono ?_; rintro e w5 ⟨rfl, hb5⟩; have L5 := (unhide LA).trans (hb5.mono (unhide LA).size))
    go_ret
    exact ⟨ret_bool (by rw [HX.out]; simp), L5⟩
   cases b9
   ·go_wp2_with (go_at_call 96; with_reducible refine (unhide HPt _ (unhide LA)).mono ?_; rintro e w5 ⟨rfl, hb5⟩; have L5 := (unhide LA).trans (hb5.mono (unhide LA).size))
    go_ret
    exact ⟨ret_bool (by rw [HX.out]; simp), L5⟩
   go_wp2_with (go_at_call 96; with_reducible refine (unhide HPt _ (unhide LA)).mono ?_; rintro e w5 ⟨rfl, hb5⟩; have L5 := (unhide LA).trans (hb5.mono (unhide LA).size))
   go_ret
   exact ⟨ret_bool (by rw [HX.out]; simp), L5⟩
  ·have hK12 : t.kind = 12 := hK
   rw [hK] at c0
   clear hK
   have HX := Lib.hid (show tyB G t = ((((((aL && aH) && (aR && (aB || aE))) && superB G t) && partsB N t.parts) && (methsB N t && oversB t)) && aO) by
    unfold tyB; rw [hK12]
    show (((((brandedB t && superB G t) && fieldsB G.length t) && methsB G.length t) && oversB t) && bareB { t with branded := false, brand := ⟨#[]⟩, super := 0 } (0 + 0 + 0)) = _
    unfold bareB brandedB fieldsB
    rw [hK12, HPe.out, HNe.out, HL.out, HH.out, HB.out, HE.out, HO.out, HR.out, decide_eq_false (p := (12 : Nat) = 10) (by decide)]
    show ((((((aR && (aB || aE)) && superB G t) && ((decide (0 < NP) || true) && partsB N t.parts)) && methsB N t) && oversB t) && ((((aL && aH) && (!false && (true && aO))) && true) && true)) = _
    exact bool_obj _ _ _ _ _ _ _ _ _ _ _)
   clear HL HH HB HE HO HS HP HM HV HR HPM HMV HPe HMe HOe HNe HPs HSy
   generalize (aL && aH) = b5 at HX ⊢
   generalize (!aB && aE) = b6
   generalize (aM && aV) = b9
   generalize (aR && (aB || aE)) = b11 at HX ⊢
   generalize superB G t = xS at HX HSu
   generalize partsB N t.parts = xP at HX HPt
   generalize (methsB N t && oversB t) = xM at HX HMt
   rw [hK12, show ((12 : Nat) : Int) = 12 from rfl] at HMt HSu
   clear hK12
   cases b5
   ·go_wp2
    go_ret
    exact ⟨ret_bool (by rw [HX.out]; simp), unhide LA⟩
   cases b11
   ·go_wp2
    go_ret
    exact ⟨ret_bool (by rw [HX.out]; simp), unhide LA⟩
   cases xS
   ·go_wp2_with (first | (go_at_call 97; refine (unhide HSu _ (unhide LA)).mono ?_; rintro e w5 ⟨rfl, hb5⟩; have L5 := (unhide LA).trans (hb5.mono (unhide LA).size); have d0 := Holds.below hb5 _ _ c0; have d1 := Holds.below hb5 _ _ c1; have d2 := Holds.below hb5 _ _ c2; have d3 := Holds.below hb5 _ _ c3; have d4 := Holds.below hb5 _ _ c4; have d5 := Holds.below hb5 _ _ c5; have d6 := Holds.below hb5 _ _ c6; have d7 := Holds.below hb5 _ _ c7; have d8 := Holds.below hb5 _ _ c8; have d9 := Holds.below hb5 _ _ c9) | (go_at_call 96; refine (unhide HPt _ L5).mono ?_; rintro e w6 ⟨rfl, hb6⟩; have L6 := L5.trans (hb6.mono L5.size); have e0 := Holds.below hb6 _ _ d0; have e1 := Holds.below hb6 _ _ d1; have e2 := Holds.below hb6 _ _ d2; have e3 := Holds.below hb6 _ _ d3; have e4 := Holds.below hb6 _ _ d4; have e5 := Holds.below hb6 _ _ d5; have e6 := Holds.below hb6 _ _ d6; have e7 := Holds.below hb6 _ _ d7; have e8 := Holds.below hb6 _ _ d8; have e9 := Holds.below hb6 _ _ d9) | (go_at_call 98; refine (unhide HMt _ L6).mono ?_; rintro e w7 ⟨rfl, hb7⟩; have L7 := L6.trans (hb7.mono L6.size)))
    go_ret
    exact ⟨ret_bool (by rw [HX.out]; simp), L5⟩
   cases xP
   ·go_wp2_with (first | (go_at_call 97; refine (unhide HSu _ (unhide LA)).mono ?_; rintro e w5 ⟨rfl, hb5⟩; have L5 := (unhide LA).trans (hb5.mono (unhide LA).size); have d0 := Holds.below hb5 _ _ c0; have d1 := Holds.below hb5 _ _ c1; have d2 := Holds.below hb5 _ _ c2; have d3 := Holds.below hb5 _ _ c3; have d4 := Holds.below hb5 _ _ c4; have d5 := Holds.below hb5 _ _ c5; have d6 := Holds.below hb5 _ _ c6; have d7 := Holds.below hb5 _ _ c7; have d8 := Holds.below hb5 _ _ c8; have d9 := Holds.below hb5 _ _ c9) | (go_at_call 96; refine (unhide HPt _ L5).mono ?_; rintro e w6 ⟨rfl, hb6⟩; have L6 := L5.trans (hb6.mono L5.size); have e0 := Holds.below hb6 _ _ d0; have e1 := Holds.below hb6 _ _ d1; have e2 := Holds.below hb6 _ _ d2; have e3 := Holds.below hb6 _ _ d3; have e4 := Holds.below hb6 _ _ d4; have e5 := Holds.below hb6 _ _ d5; have e6 := Holds.below hb6 _ _ d6; have e7 := Holds.below hb6 _ _ d7; have e8 := Holds.below hb6 _ _ d8; have e9 := Holds.below hb6 _ _ d9) | (go_at_call 98; refine (unhide HMt _ L6).mono ?_; rintro e w7 ⟨rfl, hb7⟩; have L7 := L6.trans (hb7.mono L6.size)))
    go_ret
    exact ⟨ret_bool (by rw [HX.out]; simp), L6⟩
   cases xM
   ·go_wp2_with (first | (go_at_call 97; refine (unhide HSu _ (unhide LA)).mono ?_; rintro e w5 ⟨rfl, hb5⟩; have L5 := (unhide LA).trans (hb5.mono (unhide LA).size); have d0 := Holds.below hb5 _ _ c0; have d1 := Holds.below hb5 _ _ c1; have d2 := Holds.below hb5 _ _ c2; have d3 := Holds.below hb5 _ _ c3; have d4 := Holds.below hb5 _ _ c4; have d5 := Holds.below hb5 _ _ c5; have d6 := Holds.below hb5 _ _ c6; have d7 := Holds.below hb5 _ _ c7; have d8 := Holds.below hb5 _ _ c8; have d9 := Holds.below hb5 _ _ c9) | (go_at_call 96; refine (unhide HPt _ L5).mono ?_; rintro e w6 ⟨rfl, hb6⟩; have L6 := L5.trans (hb6.mono L5.size); have e0 := Holds.below hb6 _ _ d0; have e1 := Holds.below hb6 _ _ d1; have e2 := Holds.below hb6 _ _ d2; have e3 := Holds.below hb6 _ _ d3; have e4 := Holds.below hb6 _ _ d4; have e5 := Holds.below hb6 _ _ d5; have e6 := Holds.below hb6 _ _ d6; have e7 := Holds.below hb6 _ _ d7; have e8 := Holds.below hb6 _ _ d8; have e9 := Holds.below hb6 _ _ d9) | (go_at_call 98; refine (unhide HMt _ L6).mono ?_; rintro e w7 ⟨rfl, hb7⟩; have L7 := L6.trans (hb7.mono L6.size)))
    go_ret
    exact ⟨ret_bool (by rw [HX.out]; simp), L7⟩
   go_wp2_with (first | (go_at_call 97; refine (unhide HSu _ (unhide LA)).mono ?_; rintro e w5 ⟨rfl, hb5⟩; have L5 := (unhide LA).trans (hb5.mono (unhide LA).size); have d0 := Holds.below hb5 _ _ c0; have d1 := Holds.below hb5 _ _ c1; have d2 := Holds.below hb5 _ _ c2; have d3 := Holds.below hb5 _ _ c3; have d4 := Holds.below hb5 _ _ c4; have d5 := Holds.below hb5 _ _ c5; have d6 := Holds.below hb5 _ _ c6; have d7 := Holds.below hb5 _ _ c7; have d8 := Holds.below hb5 _ _ c8; have d9 := Holds.below hb5 _ _ c9) | (go_at_call 96; refine (unhide HPt _ L5).mono ?_; rintro e w6 ⟨rfl, hb6⟩; have L6 := L5.trans (hb6.mono L5.size); have e0 := Holds.below hb6 _ _ d0; have e1 := Holds.below hb6 _ _ d1; have e2 := Holds.below hb6 _ _ d2; have e3 := Holds.below hb6 _ _ d3; have e4 := Holds.below hb6 _ _ d4; have e5 := Holds.below hb6 _ _ d5; have e6 := Holds.below hb6 _ _ d6; have e7 := Holds.below hb6 _ _ d7; have e8 := Holds.below hb6 _ _ d8; have e9 := Holds.below hb6 _ _ d9) | (go_at_call 98; refine (unhide HMt _ L6).mono ?_; rintro e w7 ⟨rfl, hb7⟩; have L7 := L6.trans (hb7.mono L6.size)))
   go_ret
   exact ⟨ret_bool (by rw [HX.out]; simp), L7⟩
  ·have hK13 : t.kind = 13 := hK
   rw [hK] at c0
   clear hK
   have HX := Lib.hid (show tyB G t = ((((((aL && aH) && (!aB && aE)) && superB G t) && aP) && (aM && aV)) && symB (bs t.opq)) by
    unfold tyB; rw [hK13]
    show ((symB (bs t.opq) && superB G t) && bareB { t with opq := ⟨#[]⟩, super := 0 } (t.parts.length + t.meths.length + t.overs.length)) = _
    unfold bareB
    rw [HPe.out, HMe.out, HOe.out, HL.out, HH.out, HB.out, HE.out, HPM]
    exact bool_opq _ _ _ _ _ _ _ _ _)
   clear HL HH HB HE HO HS HP HM HV HR HPM HMV HPe HMe HOe HNe HPs HMt HPt
   generalize (aL && aH) = b5 at HX ⊢
   generalize (!aB && aE) = b6 at HX ⊢
   generalize (aM && aV) = b9 at HX ⊢
   generalize (aR && (aB || aE)) = b11
   generalize superB G t = xS at HX HSu
   generalize symB (bs t.opq) = xO at HX HSy
   rw [hK13, show ((13 : Nat) : Int) = 13 from rfl] at HSu
   clear hK13
   cases b5
   ·go_wp2
    go_ret
    exact ⟨ret_bool (by rw [HX.out]; simp), unhide LA⟩
   cases b6
   ·go_wp2
    go_ret
    exact ⟨ret_bool (by rw [HX.out]; simp), unhide LA⟩
   cases xS
   ·go_wp2_with (first | (go_at_call 97; refine (unhide HSu _ (unhide LA)).mono ?_; rintro e w5 ⟨rfl, hb5⟩; have L5 := (unhide LA).trans (hb5.mono (unhide LA).size); have d0 := Holds.below hb5 _ _ c0; have d1 := Holds.below hb5 _ _ c1; have d2 := Holds.below hb5 _ _ c2; have d3 := Holds.below hb5 _ _ c3; have d4 := Holds.below hb5 _ _ c4; have d5 := Holds.below hb5 _ _ c5; have d6 := Holds.below hb5 _ _ c6; have d7 := Holds.below hb5 _ _ c7; have d8 := Holds.below hb5 _ _ c8; have d9 := Holds.below hb5 _ _ c9) | (go_at_call 22; with_reducible refine (unhide HSy _).mono ?_; rintro e w6 ⟨rfl, rfl⟩))
    go_ret
    exact ⟨ret_bool (by rw [HX.out]; simp), L5⟩
   cases aP
   ·go_wp2_with (first | (go_at_call 97; refine (unhide HSu _ (unhide LA)).mono ?_; rintro e w5 ⟨rfl, hb5⟩; have L5 := (unhide LA).trans (hb5.mono (unhide LA).size); have d0 := Holds.below hb5 _ _ c0; have d1 := Holds.below hb5 _ _ c1; have d2 := Holds.below hb5 _ _ c2; have d3 := Holds.below hb5 _ _ c3; have d4 := Holds.below hb5 _ _ c4; have d5 := Holds.below hb5 _ _ c5; have d6 := Holds.below hb5 _ _ c6; have d7 := Holds.below hb5 _ _ c7; have d8 := Holds.below hb5 _ _ c8; have d9 := Holds.below hb5 _ _ c9) | (go_at_call 22; with_reducible refine (unhide HSy _).mono ?_; rintro e w6 ⟨rfl, rfl⟩))
    go_ret
    exact ⟨ret_bool (by rw [HX.out]; simp), L5⟩
   cases b9
   ·go_wp2_with (first | (go_at_call 97; refine (unhide HSu _ (unhide LA)).mono ?_; rintro e w5 ⟨rfl, hb5⟩; have L5 := (unhide LA).trans (hb5.mono (unhide LA).size); have d0 := Holds.below hb5 _ _ c0; have d1 := Holds.below hb5 _ _ c1; have d2 := Holds.below hb5 _ _ c2; have d3 := Holds.below hb5 _ _ c3; have d4 := Holds.below hb5 _ _ c4; have d5 := Holds.below hb5 _ _ c5; have d6 := Holds.below hb5 _ _ c6; have d7 := Holds.below hb5 _ _ c7; have d8 := Holds.below hb5 _ _ c8; have d9 := Holds.below hb5 _ _ c9) | (go_at_call 22; with_reducible refine (unhide HSy _).mono ?_; rintro e w6 ⟨rfl, rfl⟩))
    go_ret
    exact ⟨ret_bool (by rw [HX.out]; simp), L5⟩
   go_wp2_with (first | (go_at_call 97; refine (unhide HSu _ (unhide LA)).mono ?_; rintro e w5 ⟨rfl, hb5⟩; have L5 := (unhide LA).trans (hb5.mono (unhide LA).size); have d0 := Holds.below hb5 _ _ c0; have d1 := Holds.below hb5 _ _ c1; have d2 := Holds.below hb5 _ _ c2; have d3 := Holds.below hb5 _ _ c3; have d4 := Holds.below hb5 _ _ c4; have d5 := Holds.below hb5 _ _ c5; have d6 := Holds.below hb5 _ _ c6; have d7 := Holds.below hb5 _ _ c7; have d8 := Holds.below hb5 _ _ c8; have d9 := Holds.below hb5 _ _ c9) | (go_at_call 22; with_reducible refine (unhide HSy _).mono ?_; rintro e w6 ⟨rfl, rfl⟩))
   go_ret
   exact ⟨ret_bool (by rw [HX.out]; simp), L5⟩
  ·have HX := Lib.hid (show tyB G t = false from tyB_no (by omega))
   rw [hK] at c0
   have f1 : ((K : Int) == 1) = false := by simp; omega
   have f2 : ((K : Int) == 2) = false := by simp; omega
   have f4 : ((K : Int) == 4) = false := by simp; omega
   have f5 : ((K : Int) == 5) = false := by simp; omega
   have f6 : ((K : Int) == 6) = false := by simp; omega
   have f7 : ((K : Int) == 7) = false := by simp; omega
   have f8 : ((K : Int) == 8) = false := by simp; omega
   have f3 : ((K : Int) == 3) = false := by simp; omega
   have f9 : ((K : Int) == 9) = false := by simp; omega
   have f11 : ((K : Int) == 11) = false := by simp; omega
   have f10 : ((K : Int) == 10) = false := by simp; omega
   have f12 : ((K : Int) == 12) = false := by simp; omega
   have f13 : ((K : Int) == 13) = false := by simp; omega
   clear HL HH HB HE HO HS HP HM HV HR HPM HMV HPe HMe HOe HNe HPs HMt HPt HSu HSy hK n1 n2 n4 n5 n6 n7 n8 n3 n9 n11 n10 n12 n13
   go_wp2
   go_ret
   exact ⟨ret_bool HX.out.symm, unhide LA⟩
end Go.Proofs.YteaokkaidcbdlaaGreatDoor

