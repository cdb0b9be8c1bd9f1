/- Part 41 of 53: the texts Ya, Vp, Vq, Vr, one behind the other. -/
import Derived.Test.YteaokkaidcbdlaaGreatDoorM36
import Derived.Test.YteaokkaidcbdlaaGreatDoorM17
import Derived.Test.YteaokkaidcbdlaaGreatDoorM16
import Derived.Deep.Onto
import Derived.Laws.AppendOwnNone
import Derived.Test.YteaokkaidcbdlaaGreatDoorM40
import Derived.Test.YteaokkaidcbdlaaGreatDoorM34
namespace Go.Proofs.YteaokkaidcbdlaaGreatDoor
open Go Go.RowKit Go.Shelf
theorem refs_parts {t : TyD} {k : Nat} (h : k < t.parts.length) : (t.parts.take (k + 1)).map (·.type) = (t.parts.take k).map (·.type) ++ [t.parts[k].type] := by
 rw [List.take_succ_eq_append_getElem h, List.map_append]; rfl
theorem refs_meths {t : TyD} {k : Nat} (h : k < t.meths.length) : (t.meths.take (k + 1)).flatMap sigRefs = (t.meths.take k).flatMap sigRefs ++ sigRefs t.meths[k] := by
 rw [List.take_succ_eq_append_getElem h, List.flatMap_append]; simp
theorem flat_le {α β : Type} {f : α → List β} {l : List α} (k : Nat) : ((l.take k).flatMap f).length ≤ (l.flatMap f).length := by
 conv => rhs; rw [← List.take_append_drop k l, List.flatMap_append, List.length_append]
 omega
def ownInts (base : Nat) (w : World) (v : Value) (l : List Int) : Prop := w.ownsRow base 3 1 v l.length (l.map (.int .i64))
theorem app_none {w : World} {ops : Array Oper} {rest : List Oper} {o : Oper} {a : Act} {Q : Exit → Act → World → Prop} (hgd : o.guard = none) (s x : Operand) (t : TypeId)
    (ho : o.op = .call { callee := .builtin .append, args := #[s, x], argTypes := #[t, t] })
    (base : Nat) (e : TypeId) (i : TypeInfo) (size : Nat) (ht : Tryz.prog.underlying t = some (.slice e)) (hi : Tryz.prog.info? e = some i)
    (v : Value) (n c : Nat) (xs : List Value) (hs : a.eval s = v) (hown : w.ownsRow base e size v n xs) (hx : a.eval x = .slice none 0 c)
    (h : wpList Tryz.prog ops Q rest (a.put o.dst v) w) : wpList Tryz.prog ops Q (o :: rest) a w := by
  refine wpList_plain hgd fun K hK => ?_
  have hrun : (Builtin.append_ #[t, t] o.type #[v, .slice none 0 c]).run Tryz.prog w = .ok v w := by
   rcases hown.2 with ⟨rfl, rfl⟩ | ⟨g, cap, cur, rfl, _, _, hnc, _⟩
   ·simp [Builtin.append_, run_underlying ht, sizeOf, typeInfo, hi, Builtin.lenOf, Builtin.firstCells]
   ·simp [Builtin.append_, run_underlying ht, sizeOf, typeInfo, hi, Builtin.lenOf, Builtin.firstCells, hnc, storeCells]
  unfold Oper.wp
  simp [execOp, ho, resolve, invoke, builtin, hs, hx, hrun, Result.andThen]
  exact hK _ _ h
set_option maxRecDepth 100000 in
set_option maxHeartbeats 16000000 in
theorem refRefs_any (t : TyD) (vp vm vo : Value) (W : World) (hl : TyL W vp vm vo t) (hlen : (refsOf t).length ≤ 100000) (hres : ∀ m ∈ t.meths, -1 ≤ m.result) :
    Calls Tryz.prog 50 #[tyVal t vp vm vo] W fun e w' => ∃ v, e = .returned v ∧ ownInts W.heap.size w' v (refsOf t) ∧ Below W.heap.size W w' := by
  obtain ⟨op, cp, rfl⟩ := hl.parts.form
  obtain ⟨om, cm, rfl⟩ := hl.meths.form
  obtain ⟨oo, co, rfl⟩ := hl.overs.form
  obtain ⟨NP, hNP⟩ : ∃ NP, t.parts.length = NP := ⟨_, rfl⟩
  obtain ⟨NM, hNM⟩ : ∃ NM, t.meths.length = NM := ⟨_, rfl⟩
  obtain ⟨NO, hNO⟩ : ∃ NO, t.overs.length = NO := ⟨_, rfl⟩
  unfold tyVal
  rw [hNP, hNM, hNO]
  have hPs := hl.parts
  have hMs := hl.meths
  rw [hNP] at hPs
  rw [hNM] at hMs
  obtain ⟨-, hp1, hp2, -⟩ := hPs.at
  obtain ⟨-, hm1, hm2, -⟩ := hMs.at
  have hP63 : NP ≤ 9223372036854775807 := by unfold maxLen at hp1; omega
  have hM63 : NM ≤ 9223372036854775807 := by unfold maxLen at hm1; omega
  have HNP := Lib.hid hNP
  have HNM := Lib.hid hNM
  clear hNP hNM hNO hl hp1 hp2 hm1 hm2
  have bA := Blk.new W [.int .u8 t.kind, .int .i64 t.low, .int .i64 t.high, .bool t.branded, .string t.brand, .string t.opq, .int .i64 t.super, .slice op NP cp, .slice om NM cm, .slice oo NO co] 62
  have lA := (Below.refl W.heap.size W).alloc (Nat.le_refl _) (.cells #[.int .u8 t.kind, .int .i64 t.low, .int .i64 t.high, .bool t.branded, .string t.brand, .string t.opq, .int .i64 t.super, .slice op NP cp, .slice om NM cm, .slice oo NO co] 62)
  change Blk (W.alloc (.cells #[.int .u8 t.kind, .int .i64 t.low, .int .i64 t.high, .bool t.branded, .string t.brand, .string t.opq, .int .i64 t.super, .slice op NP cp, .slice om NM cm, .slice oo NO co] 62)) _ _ _ at bA
  have hsz : W.heap.size < (W.alloc (.cells #[.int .u8 t.kind, .int .i64 t.low, .int .i64 t.high, .bool t.branded, .string t.brand, .string t.opq, .int .i64 t.super, .slice op NP cp, .slice om NM cm, .slice oo NO co] 62)).heap.size := by simp
  obtain ⟨S, HS⟩ : ∃ S, Hid ((if supB t.kind then [t.super] else []) = S) := ⟨_, Lib.hid rfl⟩
  have HR := Lib.hid (show refsOf t = S ++ (t.parts.map (·.type) ++ t.meths.flatMap sigRefs) by unfold refsOf; rw [HS.out])
  have HL := Lib.hid (show (S ++ (t.parts.map (·.type) ++ t.meths.flatMap sigRefs)).length ≤ 100000 by rw [← HR.out]; exact hlen)
  go_enter Tryz.func50, Tryz.ntmps50
  go_upto_region 1 with fail
  generalize W.alloc (.cells #[.int .u8 t.kind, .int .i64 t.low, .int .i64 t.high, .bool t.branded, .string t.brand, .string t.opq, .int .i64 t.super, .slice op NP cp, .slice om NM cm, .slice oo NO co] 62) = A1 at bA lA hsz ⊢
  have c0 : A1.cell? ⟨W.heap.size, 0, none⟩ = some (.int .u8 t.kind) := bA.cell 0
  have c6 : A1.cell? ⟨W.heap.size, 6, none⟩ = some (.int .i64 t.super) := bA.cell 6
  have c7 : A1.cell? ⟨W.heap.size, 7, none⟩ = some (.slice op NP cp) := bA.cell 7
  have c8 : A1.cell? ⟨W.heap.size, 8, none⟩ = some (.slice om NM cm) := bA.cell 8
  have HP := hide (hPs.mono fun _ _ _ _ => PartAt.go (Holds.below lA))
  have HM := hide (hMs.mono fun _ _ _ _ => MethAt.go (Holds.below lA))
  have LA := hide lA
  clear bA hPs hMs lA hlen
  go_upto_region 2 with fail
  go_cut [13] from 6 to 13 (fun c wx => c = .bool (supB t.kind) ∧ A1 = wx)
  case first =>
   rcases (show t.kind = 12 ∨ (t.kind ≠ 12 ∧ t.kind = 13) ∨ (t.kind ≠ 12 ∧ t.kind ≠ 13) by omega) with h1 | ⟨h1, h2⟩ | ⟨h1, h2⟩
   ·have e1 : ((t.kind : Int) == 12) = true := by simp; omega
    have HX := Lib.hid (show supB t.kind = true from decide_eq_true (by omega))
    clear h1
    go_wp2
    go_meet
    exact ⟨by rw [HX.out], rfl⟩
   ·have e1 : ((t.kind : Int) == 12) = false := by simp; omega
    have e2 : ((t.kind : Int) == 13) = true := by simp; omega
    have HX := Lib.hid (show supB t.kind = true from decide_eq_true (by omega))
    clear h1 h2
    go_wp2
    go_meet
    exact ⟨by rw [HX.out], rfl⟩
   ·have e1 : ((t.kind : Int) == 12) = false := by simp; omega
    have e2 : ((t.kind : Int) == 13) = false := by simp; omega
    have HX := Lib.hid (show supB t.kind = false from decide_eq_false (by omega))
    clear h1 h2
    go_wp2
    go_meet
    exact ⟨by rw [HX.out], rfl⟩
  case rest =>
  obtain ⟨rfl, rfl⟩ := hcut
  obtain ⟨sb, hsb⟩ : ∃ sb, supB t.kind = sb := ⟨_, rfl⟩
  have HS2 := Lib.hid (show (if sb then [t.super] else []) = S by rw [← hsb]; exact HS.out)
  rw [hsb]
  clear hsb c0 HS
  have hbA := hide (World.ownsRow_nil A1 A1.heap.size 3 1)
  go_upto_if 13 with fail
  go_cut [3] from 14 to 18 (fun v wx => wx.ownsRow A1.heap.size 3 1 v S.length (S.map (.int .i64)) ∧ Below A1.heap.size A1 wx)
  case first =>
   cases sb
   ·have hS : S = [] := HS2.out.symm
    subst hS
    go_wp2
    go_meet
    exact ⟨unhide hbA, Below.refl _ _⟩
   ·have hS : S = [t.super] := HS2.out.symm
    subst hS
    have bB := Blk.new A1 [.int .i64 t.super] 3
    have lB := (Below.refl A1.heap.size A1).alloc (Nat.le_refl _) (.cells #[.int .i64 t.super] 3)
    change Blk (A1.alloc (.cells #[.int .i64 t.super] 3)) _ _ _ at bB
    have b0 := bB.cell 0
    simp only [List.getElem?_cons_zero] at b0
    have how := (World.ownsRow_nil (A1.alloc (.cells #[.int .i64 t.super] 3)) A1.heap.size 3 1)
    have hle : A1.heap.size ≤ (A1.alloc (.cells #[.int .i64 t.super] 3)).heap.size := by simp
    go_wp2_with (at_builtin; refine app_one _ _ 37 3 (.int .i64 0) 8 info3 Tryz.underlying37 rfl (by decide) rfl rfl A1.heap.size _ [] rfl how _ (.int .i64 t.super) rfl b0 rfl (by simp) hle ?_)
    intro g cp1 w' r1 r2 r3
    go_wp2
    go_meet
    exact ⟨r1, r3 _ _ lB (Nat.le_refl _)⟩
  case rest =>
  obtain ⟨hown, hbl⟩ := hcut
  have HO := hide hown
  have HBL := hide hbl
  clear hown hbl hbA HS2 c6
  go_wp2
  go_loopg [3, 4] NP (fun g v i wr => ∃ k : Nat, k ≤ NP ∧ g = NP - k ∧ i = .int .i64 k ∧ wr.ownsRow A1.heap.size 3 1 v (S ++ (t.parts.take k).map (·.type)).length ((S ++ (t.parts.take k).map (·.type)).map (.int .i64)) ∧ Below A1.heap.size A1 wr)
  case atStart => exact ⟨0, Nat.zero_le _, rfl, rfl, by simpa using unhide HO, unhide HBL⟩
  case round =>
   obtain ⟨k, hk, hgk, rfl, hown, hbw⟩ := hrel
   have d7 := Holds.below hbw _ _ c7
   by_cases hlt : k < NP
   ·have hlt1 : k < t.parts.length := by rw [HNP.out]; exact hlt
    obtain ⟨-, -, -, hat⟩ := (unhide HP).at
    obtain ⟨b, off, rfl, -, e1⟩ := hat k t.parts[k] (List.getElem?_eq_getElem hlt1)
    have e1 := Holds.below hbw _ _ e1
    have HX := Lib.hid (show S ++ (t.parts.take (k + 1)).map (·.type) = (S ++ (t.parts.take k).map (·.type)) ++ [t.parts[k].type] by rw [refs_parts hlt1, List.append_assoc])
    have hll : (S ++ (t.parts.take k).map (·.type)).length ≤ 100000 := by
     have := HL.out
     rw [List.length_append, List.length_append, List.length_map] at this
     rw [List.length_append, List.length_map, List.length_take]; omega
    generalize t.parts[k].type = x at e1 HX
    have bB := Blk.new wr [.int .i64 x] 3
    have lB := hbw.alloc hbw.size (.cells #[.int .i64 x] 3)
    have hown2 := hown.alloc (.cells #[.int .i64 x] 3)
    change Blk (wr.alloc (.cells #[.int .i64 x] 3)) _ _ _ at bB
    have b0 := bB.cell 0
    simp only [List.getElem?_cons_zero] at b0
    have hle : A1.heap.size ≤ (wr.alloc (.cells #[.int .i64 x] 3)).heap.size := by simp; have := hbw.size; omega
    have hlt' : (k : Int) < NP := by omega
    generalize hP : S ++ (t.parts.take k).map (·.type) = P at hown hown2 HX hll
    clear hat hown bB hP
    have hml : (P.map (Value.int .i64)).length = P.length := List.length_map ..
    go_wp2_with (at_builtin; refine app_one _ _ 37 3 (.int .i64 0) 8 info3 Tryz.underlying37 rfl (by decide) rfl rfl A1.heap.size _ (P.map (Value.int .i64)) rfl (by rw [hml]; exact hown2) _ (.int .i64 x) rfl b0 rfl (by rw [hml]; omega) hle ?_)
    intro g cp1 w' r1 r2 r3
    have hb' := r3 _ _ lB (Nat.le_refl _)
    go_wp2
    go_roundg (NP - (k + 1))
    case measure => omega
    case rel => exact ⟨k + 1, by omega, rfl, by go_num, by rw [HX.out, List.map_append, List.length_append]; exact r1, hb'⟩
   ·have hk2 : k = NP := by omega
    have hT : t.parts.take k = t.parts := List.take_of_length_le (by have := HNP.out; omega)
    rw [hT] at hown
    have HO2 := hide hown
    have HB2 := hide hbw
    have HL2 := Lib.hid (show ((S ++ t.parts.map (·.type)) ++ t.meths.flatMap sigRefs).length ≤ 100000 by rw [List.append_assoc]; exact HL.out)
    have hlt' : ¬ (k : Int) < NP := by omega
    have HE := Lib.hid (show S ++ (t.parts.map (·.type) ++ t.meths.flatMap sigRefs) = (S ++ t.parts.map (·.type)) ++ t.meths.flatMap sigRefs from (List.append_assoc ..).symm)
    generalize S ++ t.parts.map (·.type) = P at HO2 HL2 HE
    clear hown hbw hT hk2 hlt hk hgk HO HBL HP HL
    go_wp2
    go_loopg [3, 5] NM (fun g v i w2 => ∃ q : Nat, q ≤ NM ∧ g = NM - q ∧ i = .int .i64 q ∧ w2.ownsRow A1.heap.size 3 1 v (P ++ (t.meths.take q).flatMap sigRefs).length ((P ++ (t.meths.take q).flatMap sigRefs).map (.int .i64)) ∧ Below A1.heap.size A1 w2)
    case atStart => exact ⟨0, Nat.zero_le _, rfl, rfl, by simpa using unhide HO2, unhide HB2⟩
    case round =>
     obtain ⟨q, hq, hgq, rfl, hown, hbw⟩ := hrel
     have d8 := Holds.below hbw _ _ c8
     by_cases hqlt : q < NM
     ·have hlt1 : q < t.meths.length := by rw [HNM.out]; exact hqlt
      obtain ⟨-, -, -, hat⟩ := (unhide HM).at
      obtain ⟨b, off, rfl, va, vr, hv, m0, m1, m2, m3, m4⟩ := hat q t.meths[q] (List.getElem?_eq_getElem hlt1)
      have hrs := hres _ (List.getElem_mem hlt1)
      obtain ⟨oa, ca, rfl⟩ := hv.args.form
      have hva := hv.args.mono fun _ _ _ _ => IntAt.go (Holds.below hbw)
      have d1 := Holds.below hbw _ _ m1
      have d2 := Holds.below hbw _ _ m2
      have HX := Lib.hid (show P ++ (t.meths.take (q + 1)).flatMap sigRefs = (P ++ (t.meths.take q).flatMap sigRefs) ++ sigRefs t.meths[q] by rw [refs_meths hlt1, List.append_assoc])
      have hll : ((P ++ (t.meths.take q).flatMap sigRefs) ++ sigRefs t.meths[q]).length ≤ 100000 := by
       rw [← HX.out]
       have h1 := HL2.out
       have h2 := flat_le (f := sigRefs) (l := t.meths) (q + 1)
       rw [List.length_append] at h1 ⊢; omega
      generalize P ++ (t.meths.take q).flatMap sigRefs = R at hown HX hll
      have HXs : sigRefs t.meths[q] = t.meths[q].args ++ if t.meths[q].result = -1 then [] else [t.meths[q].result] := rfl
      rw [HXs] at HX hll
      generalize t.meths[q].args = as' at hva d1 HX hll
      generalize t.meths[q].result = x at m2 d2 HX hrs hll
      have hq' : (q : Int) < NM := by omega
      obtain ⟨i0, hi0, hz0, hz1, hz2⟩ := info_parts info3
      have HB := hide hbw
      obtain ⟨-, -, -, hata⟩ := hva.at
      have hml : (R.map (Value.int .i64)).length = R.length := List.length_map ..
      have hle := hbw.size
      have hRl : R.length + as'.length ≤ 100000 := by
       rw [List.length_append, List.length_append] at hll; omega
      have fin : ∀ (v1 : Value) (w1 : World), w1.ownsRow A1.heap.size 3 1 v1 (R.length + as'.length) (R.map (.int .i64) ++ as'.map (.int .i64)) → Below A1.heap.size A1 w1 →
       Hide (w1.ownsRow A1.heap.size 3 1 v1 (R ++ as').length ((R ++ as').map (.int .i64))) := fun v1 w1 h1 _ => hide (by rw [List.length_append, List.map_append]; exact h1)
      have HX0 := fun (h : x = -1) => Lib.hid (show P ++ (t.meths.take (q + 1)).flatMap sigRefs = R ++ as' by rw [HX.out, if_pos h, List.append_nil])
      have HX1 := fun (h : x ≠ -1) => Lib.hid (show P ++ (t.meths.take (q + 1)).flatMap sigRefs = (R ++ as') ++ [x] by rw [HX.out, if_neg h, List.append_assoc])
      clear hat m0 m1 m3 m4 hv HXs hlt1 HX hll HL2 hres
      cases oa with
      | none =>
        have has : as' = [] := by
         cases as' with
         | nil => rfl
         | cons z zs => obtain ⟨b2, off2, h, _⟩ := hata 0 z rfl; cases h
        rw [has, List.length_nil] at d1
        go_upto_region 12 with (at_builtin; refine app_none rfl _ _ 37 rfl A1.heap.size 3 i0 1 Tryz.underlying37 hi0 _ R.length _ (R.map (.int .i64)) rfl hown rfl ?_)
        have hw1 := hide (show wr.ownsRow A1.heap.size 3 1 _ (R ++ as').length ((R ++ as').map (.int .i64)) by rw [has, List.append_nil]; exact hown)
        have hb1 := unhide HB
        clear hown fin hva d1 hata hml hle HB hbw has
        rcases (show x = -1 ∨ 0 ≤ x by omega) with hx | hx
        ·have HZ := HX0 hx
         have hx' : ¬ (0 : Int) ≤ x := by omega
         clear HX0 HX1 hx hrs
         go_wp2
         go_roundg (NM - (q + 1))
         case measure => omega
         case rel => exact ⟨q + 1, by omega, rfl, by go_num, by rw [HZ.out]; exact unhide hw1, hb1⟩
        ·have HZ := HX1 (by omega)
         clear HX0 HX1 hrs
         have bB := Blk.new wr [.int .i64 x] 3
         have lB := hb1.alloc hb1.size (.cells #[.int .i64 x] 3)
         have hown2 := hide ((unhide hw1).alloc (.cells #[.int .i64 x] 3))
         change Blk (wr.alloc (.cells #[.int .i64 x] 3)) _ _ _ at bB
         have b0 := bB.cell 0
         simp only [List.getElem?_cons_zero] at b0
         have hle2 : A1.heap.size ≤ (wr.alloc (.cells #[.int .i64 x] 3)).heap.size := by simp; have := hb1.size; omega
         have hR2 : (R ++ as').length ≤ 100000 := by rw [List.length_append]; exact hRl
         generalize R ++ as' = R2 at hown2 HZ hR2 hw1
         have hml2 : (R2.map (Value.int .i64)).length = R2.length := List.length_map ..
         clear bB hw1
         go_wp2_with (at_builtin; refine app_one _ _ 37 3 (.int .i64 0) 8 info3 Tryz.underlying37 rfl (by decide) rfl rfl A1.heap.size _ (R2.map (Value.int .i64)) rfl (by rw [hml2]; exact unhide hown2) _ (.int .i64 x) rfl b0 rfl (by rw [hml2]; omega) hle2 ?_)
         intro g cp1 w' r1 r2 r3
         have hb' := r3 _ _ lB (Nat.le_refl _)
         have HR1 := hide r1
         clear r1 r2 r3
         go_wp2
         go_roundg (NM - (q + 1))
         case measure => omega
         case rel => exact ⟨q + 1, by omega, rfl, by go_num, by rw [HZ.out, List.map_append, List.length_append]; simpa using unhide HR1, hb'⟩
      | some ad =>
        have hnews : ∀ j u, (as'.map (Value.int .i64))[j]? = some u → wr.cell? (ad.add j) = some u := fun j u hu => by
         rw [List.getElem?_map] at hu
         cases hz : as'[j]? with
         | none => rw [hz] at hu; cases hu
         | some z =>
           rw [hz] at hu
           simp only [Option.map_some, Option.some.injEq] at hu
           subst hu
           obtain ⟨b2, off2, h, hc⟩ := hata j z hz
           cases h
           unfold IntAt at hc
           rw [Nat.mul_one] at hc
           rw [Go.WideShapes.add_plain]; exact hc
        go_wp2_with (at_builtin; refine wpList_append_own _ rfl _ _ 37 rfl A1.heap.size 3 i0 (.int .i64 0) 1 8 Tryz.underlying37 hi0 hz0 hz1 hz2 rfl (by decide) _ R.length (R.map (.int .i64)) rfl hown ad as'.length ca (as'.map (.int .i64)) rfl (by simp) hnews (by simp [Value.oneCell']) (by unfold maxLen; omega) (by omega) hle ?_)
        intro v1 w1 hown1 hgrow _
        have hb1 : Below A1.heap.size A1 w1 := (unhide HB).grown hgrow hle (fun j hj => (hown.lt j hj).1)
        have hw1 := fin v1 w1 hown1 hb1
        have d8' := Holds.below hb1 _ _ c8
        have d2' := Holds.below hb1 _ _ m2
        clear hown fin hva d1 hata hml hle HB hbw hown1 hgrow hnews d8 d2
        rcases (show x = -1 ∨ 0 ≤ x by omega) with hx | hx
        ·have HZ := HX0 hx
         have hx' : ¬ (0 : Int) ≤ x := by omega
         clear HX0 HX1 hx hrs
         go_wp2
         go_roundg (NM - (q + 1))
         case measure => omega
         case rel => exact ⟨q + 1, by omega, rfl, by go_num, by rw [HZ.out]; exact unhide hw1, hb1⟩
        ·have HZ := HX1 (by omega)
         clear HX0 HX1 hrs
         have bB := Blk.new w1 [.int .i64 x] 3
         have lB := hb1.alloc hb1.size (.cells #[.int .i64 x] 3)
         have hown2 := hide ((unhide hw1).alloc (.cells #[.int .i64 x] 3))
         change Blk (w1.alloc (.cells #[.int .i64 x] 3)) _ _ _ at bB
         have b0 := bB.cell 0
         simp only [List.getElem?_cons_zero] at b0
         have hle2 : A1.heap.size ≤ (w1.alloc (.cells #[.int .i64 x] 3)).heap.size := by simp; have := hb1.size; omega
         have hR2 : (R ++ as').length ≤ 100000 := by rw [List.length_append]; exact hRl
         generalize R ++ as' = R2 at hown2 HZ hR2 hw1
         have hml2 : (R2.map (Value.int .i64)).length = R2.length := List.length_map ..
         clear bB hw1
         go_wp2_with (at_builtin; refine app_one _ _ 37 3 (.int .i64 0) 8 info3 Tryz.underlying37 rfl (by decide) rfl rfl A1.heap.size _ (R2.map (Value.int .i64)) rfl (by rw [hml2]; exact unhide hown2) _ (.int .i64 x) rfl b0 rfl (by rw [hml2]; omega) hle2 ?_)
         intro g cp1 w' r1 r2 r3
         have hb' := r3 _ _ lB (Nat.le_refl _)
         have HR1 := hide r1
         clear r1 r2 r3
         go_wp2
         go_roundg (NM - (q + 1))
         case measure => omega
         case rel => exact ⟨q + 1, by omega, rfl, by go_num, by rw [HZ.out, List.map_append, List.length_append]; simpa using unhide HR1, hb'⟩
     ·have hq2 : q = NM := by omega
      have hT : t.meths.take q = t.meths := List.take_of_length_le (by have := HNM.out; omega)
      rw [hT] at hown
      have hlt' : ¬ (q : Int) < NM := by omega
      have HO3 := hide hown
      have HB3 := hide hbw
      clear hown hbw hT hq2
      go_wp2
      go_ret
      exact ⟨_, rfl, by unfold ownInts; rw [HR.out, HE.out]; exact (unhide HO3).mono (Nat.le_of_lt hsz), (unhide LA).trans ((unhide HB3).mono (Nat.le_of_lt hsz))⟩
end Go.Proofs.YteaokkaidcbdlaaGreatDoor

namespace Go.Proofs.YteaokkaidcbdlaaGreatDoor
open Go Go.RowKit Go.Shelf
end Go.Proofs.YteaokkaidcbdlaaGreatDoor

namespace Go.Proofs.YteaokkaidcbdlaaGreatDoor
open Go Go.RowKit Go.Shelf
end Go.Proofs.YteaokkaidcbdlaaGreatDoor

namespace Go.Proofs.YteaokkaidcbdlaaGreatDoor
open Go Go.RowKit Go.Shelf
end Go.Proofs.YteaokkaidcbdlaaGreatDoor

