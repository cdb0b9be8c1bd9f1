/- Part 34 of 53: the texts Wx, Tx, one behind the other. -/
import Derived.Test.YteaokkaidcbdlaaGreatDoorM33
import Derived.Test.YteaokkaidcbdlaaGreatDoorM19
namespace Go.Proofs.YteaokkaidcbdlaaGreatDoor
open Go Go.RowKit Go.Shelf
attribute [local go_sem] Oper.semAt_some
open Go.Sort
set_option maxHeartbeats 2000000 in
set_option maxRecDepth 100000 in
theorem wrStr {B b : Nat} {l : List UInt8} {w : World} (h : WAt B b l w) (h0 : l ≠ []) :
    Calls Tryz.prog 126 #[.pointer (some ⟨b, 0, none⟩)] w fun e w' => e = .returned (.string ⟨l.toArray⟩) ∧ Below B w w' := by
  obtain ⟨p, hB, v, hbk, hown, hne⟩ : ∃ p, Lib.BuilderAtF 164 5 B b p (Lib.byteCells l) w := h.elim (fun h => ⟨_, h⟩) (fun h => ⟨_, h⟩)
  have hl0 : l.length ≠ 0 := by simpa using h0
  rw [Lib.byteCells_length] at hown
  obtain ⟨g, cap, cur, fz, rfl, hbg, hg, hnc, hcm, hcs⟩ : ∃ g cap cur fz, v = .slice (some ⟨g, 0, none⟩) l.length cap ∧ B ≤ g ∧ w.heap[g]? = some (.cells cur 5 fz) ∧ l.length ≤ cap ∧ cap ≤ maxLen ∧ cur.size = cap * 1 := by
   rcases hown.2 with ⟨_, hz⟩ | ⟨g, cap, cur, fz, hv, r1, r2, r3, r4, r5, r6, r7⟩
   ·exact absurd hz hl0
   ·exact ⟨g, cap, cur, fz, hv, r1, r2, r4, r5, r6⟩
  have c1 : w.drew.cell? ⟨b, 1, none⟩ = some (.slice (some ⟨g, 0, none⟩) l.length cap) := by
   have h2 : w.drew.heap[b]? = some (.cells #[p, .slice (some ⟨g, 0, none⟩) l.length cap] 164 (0, 0)) := hbk
   rw [Lib.cell_of_heap h2]; rfl
  have hSD : (Builtin.unsafeSliceData_ #[160] 216 #[.slice (some ⟨g, 0, none⟩) l.length cap]).run Tryz.prog w.drew = .ok (.pointer (some ⟨g, 0, none⟩)) w.drew :=
   Lib.run_unsafeSliceData_row _ _ _ _ _ _ (by omega)
  have hUS : (Builtin.unsafeString_ #[216, 3] 9 #[.pointer (some ⟨g, 0, none⟩), .int .i64 l.length]).run Tryz.prog w.drew = .ok (.string ⟨l.toArray⟩) (w.drew.freeze ⟨g, 0, none⟩ l.length) := by
   refine Lib.run_unsafeString_row w.drew 216 3 9 5 Tryz.underlying216 (by kernel_rfl) g cur.size (by have hg' : w.drew.heap[g]? = some (.cells cur 5 fz) := hg; simp [World.shape?, hg']) l h0 (by omega) (by unfold maxLen at hcm; omega) ?_
   intro j x hx
   exact hown.cells (g := g) rfl j (.int .u8 x.toNat) (by simp [Lib.byteCells, hx])
  go_enter Tryz.func126, Tryz.ntmps126
  go_wp2
  go_region
  all_goals (go_wp2; go_ret; exact ⟨rfl, Lib.below_freeze (Below.drew (Below.refl B w)) (p := ⟨g, 0, none⟩) hbg _⟩)
end Go.Proofs.YteaokkaidcbdlaaGreatDoor

namespace Go.Proofs.YteaokkaidcbdlaaGreatDoor
open Go Go.RowKit Go.Shelf
attribute [local go_sem] Oper.semAt_some
open Go.Sort
def leadW (t : TyD) : List UInt8 := match t.kind with
 | 3 => boundsW t
 | 9 | 10 | 11 => fieldsT t
 | 12 => objT t
 | 13 => opqT t
 | _ => []
def lineW (t : TyD) : List UInt8 := Lib.itoa t.kind ++ leadW t ++ [10]
def textW (G : List TyD) : List UInt8 := G.flatMap lineW
theorem oversW_len {t : TyD} (h : TyTx t) : (oversW t.overs).length ≤ 21000 := by
 have := flatW_len t.overs (f := overW) (m := 2100) (fun p hpm => by
  obtain ⟨h1, h2⟩ := h.overs p hpm
  unfold overW
  simp only [List.length_append, List.length_cons, ba_size]; omega)
 have := h.no
 unfold oversW; omega
theorem leadW_len {t : TyD} (h : TyTx t) : (leadW t).length ≤ 1063100 := by
 have h1 := brandW_len h
 have h2 := superW_len h
 have h3 := fieldsW_len h
 have h4 := methsW_len h
 have h5 := oversW_len h
 have h6 := opaqueW_len h
 have h7 := itoa_len h.low
 have h8 := itoa_len h.high
 unfold leadW
 split
 ·unfold boundsW; simp only [List.length_append, List.length_cons]; omega
 ·unfold fieldsT; rw [List.length_append]; omega
 ·unfold fieldsT; rw [List.length_append]; omega
 ·unfold fieldsT; rw [List.length_append]; omega
 ·unfold objT; simp only [List.length_append]; omega
 ·unfold opqT; rw [List.length_append]; omega
 ·simp
theorem lineW_len {t : TyD} (h : TyTx t) (hk : t.kind ≤ 13) : (lineW t).length ≤ 1063200 := by
 have h1 := leadW_len h
 have h2 := itoa_len (x := (t.kind : Int)) ⟨by omega, by omega⟩
 unfold lineW
 simp only [List.length_append, List.length_cons, List.length_nil]; omega
set_option maxHeartbeats 8000000 in
set_option maxRecDepth 100000 in
theorem textOf_any (o : Option Addr) (cap : Nat) (G : List TyD) (W : World) (hG : GrAt W (.slice o G.length cap) G) (hn : G.length ≤ 410) (h0 : 0 < G.length) (hk : ∀ t ∈ G, 1 ≤ t.kind ∧ t.kind ≤ 13 ∧ TyTx t) (hP : P10 W.heap.size W) :
    Calls Tryz.prog 80 #[.slice o G.length cap] W fun e w' => e = .returned (.string ⟨(textW G).toArray⟩) ∧ Below W.heap.size W w' := by
  have HTB := newTable_any
  unfold tabV at HTB
  have HTN := hide HTB
  clear HTB
  go_enter Tryz.func80, Tryz.ntmps80
  go_wp2_with (first | (go_at_call 91; refine (unhide HTN _).mono ?_; clear HTN; rintro e w1 ⟨rfl, hb1⟩))
  have hA0 : WAt W.heap.size W.heap.size [] (W.alloc (.cells #[.pointer none, .slice none 0 0] 164)) := .inl (Lib.BuilderAtF.of ⟨Nat.le_refl _, .slice none 0 0, World.alloc_heap_new W _, World.ownsRow_nil _ _ _ _, by simp [Value.ownBlock]⟩)
  have hbA : Below W.heap.size W (W.alloc (.cells #[.pointer none, .slice none 0 0] 164)) := (Below.refl _ _).alloc (Nat.le_refl _) _
  have hTab1 := Blk.new w1 tabV.toList 120
  have hb2 := hb1.alloc hb1.size (.cells tabV.toList.toArray 120)
  change Blk (w1.alloc (.cells tabV 120)) w1.heap.size tabV.toList 120 at hTab1
  change Below _ _ (w1.alloc (.cells tabV 120)) at hb2
  have hne : W.heap.size ≠ w1.heap.size := by have := hb1.size; simp at this; omega
  have hA1 := hA0.below hb2
  have hC1 : WC W W.heap.size [] (w1.alloc (.cells tabV 120)) := ⟨hA1, hbA.trans (hb2.mono (by simp)), hP.below (hbA.trans (hb2.mono (by simp)))⟩
  clear hA0 hb2 hA1 hb1 hbA hP
  unfold tabV at hTab1 hC1
  revert hTab1 hC1 hne
  generalize w1.alloc _ = W1
  generalize w1.heap.size = tbl
  intro hTab1 hne hC1
  have hne' : tbl ≠ W.heap.size := fun e => hne e.symm
  go_loopw [9] (fun i wr => ∃ k : Nat, k ≤ G.length ∧ i = .int .i64 k ∧ WS W.heap.size W.heap.size W1 (textW (G.take k)) wr) (fun i _ => G.length - (intOf i).toNat)
  case atStart => exact ⟨0, Nat.zero_le _, rfl, by simpa [textW] using WS.refl hC1.at'⟩
  case round =>
   obtain ⟨k, hkk, rfl, hs⟩ := hrel
   by_cases hlt : k < G.length
   ·have hlt' : (k : Int) < G.length := by omega
    obtain ⟨-, -, -, hat⟩ := hG.at
    obtain ⟨b, off, rfl, hT⟩ := hat k G[k] (List.getElem?_eq_getElem hlt)
    obtain ⟨hk1, hk13, htx⟩ := hk _ (List.getElem_mem hlt)
    have hfl : (textW (G.take k)).length ≤ 435912000 := Nat.le_trans (take_flatW_len G (fun t ht => lineW_len (hk t ht).2.2 (hk t ht).2.1) k) (by omega)
    have hsn : textW (G.take (k + 1)) = textW (G.take k) ++ lineW G[k] := by
     unfold textW
     rw [List.take_succ_eq_append_getElem hlt, List.flatMap_append]; simp
    have HSN := Lib.hid hsn
    generalize G[k] = t at hT hk1 hk13 htx HSN
    generalize textW (G.take k) = L at hs hfl HSN
    have hCr := hC1.step hs
    have hlead := leadW_len htx
    have hki : I64 (t.kind : Int) := ⟨by omega, by omega⟩
    have hkl := itoa_len hki
    have d0 : wr.cell? ⟨b, off + k * 10, none⟩ = some (.int .u8 t.kind) := by
     obtain ⟨_, _, _, -, c0, -⟩ := hT
     exact Holds.below hCr.bel _ _ c0
    have HN := hide (wrNum (t.kind : Int) hki.1 hki.2 hCr.at' hCr.p (by omega))
    have HD := hide (fun w2 (hb : Below W.heap.size W w2) => show w2.cell? ⟨b, off + k * 10, none⟩ = some (.int .u8 t.kind) by
     obtain ⟨_, _, _, -, c0, -⟩ := hT
     exact Holds.below hb _ _ c0)
    have HTb := hide (fun w2 (h2 : WS W.heap.size W.heap.size wr (L ++ Lib.itoa t.kind) w2) => (show Blk w2 tbl _ 120 from (hs.trans h2).oth tbl _ hTab1 (by simpa using hne') (by intro c fz e; cases e)))
    have HE := hide (fun w3 (h3 : WS W.heap.size W.heap.size W1 (L ++ Lib.itoa t.kind ++ leadW t) w3) => (wr125 10 h3.at' (by simp only [List.length_append]; omega)).mono (R' := fun e w' => e = .returned .nilIface ∧ WS W.heap.size W.heap.size W1 (L ++ lineW t) w') (by
     rintro e w' ⟨rfl, h4⟩
     have h5 := h3.trans h4
     unfold lineW
     simp only [List.append_assoc] at h5 ⊢
     exact ⟨trivial, h5⟩))
    have hk14 : (t.kind : Int) < 14 := by omega
    have hkn : t.kind < 14 := by omega
    have HL := hide (fun w2 (h2 : WS W.heap.size W.heap.size wr (L ++ Lib.itoa t.kind) w2) => hCr.step h2)
    have hw1 := hC1.bel
    clear hat hsn hk hTab1
    rcases (show (t.kind = 1 ∨ t.kind = 2 ∨ t.kind = 4 ∨ t.kind = 5 ∨ t.kind = 6 ∨ t.kind = 7 ∨ t.kind = 8) ∨ (t.kind = 3) ∨ (t.kind = 9 ∨ t.kind = 11) ∨ (t.kind = 10) ∨ (t.kind = 12) ∨ (t.kind = 13) by omega) with hk | hk | hk | hk | hk | hk
    ·have hlw : leadW t = [] := by
       unfold leadW
       rcases hk with hk | hk | hk | hk | hk | hk | hk <;> (rw [hk]; try rfl)
     have HT1 := hide (fun w2 (h2 : WS W.heap.size W.heap.size wr (L ++ Lib.itoa t.kind) w2) => show w2.cell? ⟨tbl, t.kind, none⟩ = some (.func (.func 148) #[] #[]) by
      have hbk := unhide HTb w2 h2
      rcases hk with hk | hk | hk | hk | hk | hk | hk <;> rw [hk] <;> exact hbk.cell _)
     have HC := hide (fun w2 (h2 : WS W.heap.size W.heap.size wr (L ++ Lib.itoa t.kind) w2) => show Calls Tryz.prog 148 _ w2 (fun e w' => e = .returned (.tuple #[]) ∧ WS W.heap.size W.heap.size W1 (L ++ Lib.itoa t.kind ++ leadW t) w') by
      have hc := hCr.step h2
      refine (lead148 (tb := b) (tk := off + k * 10) hc).mono ?_
      rintro e w' ⟨rfl, h3⟩
      rw [hlw]
      rw [List.append_nil]
      exact ⟨rfl, (hs.trans h2).trans h3⟩)
     clear hk hT htx
     go_wp2_with (first | (go_at_call 124; refine (unhide HN).mono ?_; rintro e w2 ⟨rfl, h2⟩; have q0 := unhide HD w2 (hCr.bel.trans h2.bel); have q1 := unhide HT1 w2 h2))
     refine region_tail 11 (by kernel_rfl) (by kernel_rfl) ?_
     simp only [List.take_succ_cons, List.take_zero, List.drop_succ_cons, List.drop_zero]
     repeat (go_big_quiet_step (fail))
     refine wpQuiet_nil ?_
     rintro _ ⟨nq, rfl⟩
     have h2q := h2.below (below_drewN' (Below.refl _ _) nq)
     go_wp2_with (first | (go_at_call 148; refine (unhide HC _ h2q).mono ?_; rintro e w3 ⟨rfl, h3⟩) | (go_at_call 125; refine (unhide HE _ h3).mono ?_; rintro e w4 ⟨rfl, h4⟩))
     go_roundw
     case rel => exact ⟨k + 1, by omega, by go_num, by rw [HSN.out]; exact h4⟩
     case measure => simp [intOf]; omega
    ·have hlw : leadW t = boundsW t := by
       unfold leadW
       rcases hk with hk <;> (rw [hk]; try rfl)
     have HT1 := hide (fun w2 (h2 : WS W.heap.size W.heap.size wr (L ++ Lib.itoa t.kind) w2) => show w2.cell? ⟨tbl, t.kind, none⟩ = some (.func (.methodOf 189 "trestle/types.bounds") #[] #[]) by
      have hbk := unhide HTb w2 h2
      rcases hk with hk <;> rw [hk] <;> exact hbk.cell _)
     have HC := hide (fun w2 (h2 : WS W.heap.size W.heap.size wr (L ++ Lib.itoa t.kind) w2) => show Calls Tryz.prog 285 _ w2 (fun e w' => e = .returned (.tuple #[]) ∧ WS W.heap.size W.heap.size W1 (L ++ Lib.itoa t.kind ++ leadW t) w') by
      have hc := hCr.step h2
      refine (wrBounds hT hc htx.low htx.high (by rw [List.length_append]; omega)).mono ?_
      rintro e w' ⟨rfl, h3⟩
      rw [hlw]
      skip
      exact ⟨rfl, (hs.trans h2).trans h3⟩)
     clear hk hT htx
     go_wp2_with (first | (go_at_call 124; refine (unhide HN).mono ?_; rintro e w2 ⟨rfl, h2⟩; have q0 := unhide HD w2 (hCr.bel.trans h2.bel); have q1 := unhide HT1 w2 h2))
     refine region_tail 11 (by kernel_rfl) (by kernel_rfl) ?_
     simp only [List.take_succ_cons, List.take_zero, List.drop_succ_cons, List.drop_zero]
     repeat (go_big_quiet_step (fail))
     refine wpQuiet_nil ?_
     rintro _ ⟨nq, rfl⟩
     have h2q := h2.below (below_drewN' (Below.refl _ _) nq)
     go_wp2_with (first | (go_at_call 285; refine (unhide HC _ h2q).mono ?_; rintro e w3 ⟨rfl, h3⟩) | (go_at_call 125; refine (unhide HE _ h3).mono ?_; rintro e w4 ⟨rfl, h4⟩))
     go_roundw
     case rel => exact ⟨k + 1, by omega, by go_num, by rw [HSN.out]; exact h4⟩
     case measure => simp [intOf]; omega
    ·have hlw : leadW t = fieldsT t := by
       unfold leadW
       rcases hk with hk | hk <;> (rw [hk]; try rfl)
     have HT1 := hide (fun w2 (h2 : WS W.heap.size W.heap.size wr (L ++ Lib.itoa t.kind) w2) => show w2.cell? ⟨tbl, t.kind, none⟩ = some (.func (.func 149) #[] #[]) by
      have hbk := unhide HTb w2 h2
      rcases hk with hk | hk <;> rw [hk] <;> exact hbk.cell _)
     have HC := hide (fun w2 (h2 : WS W.heap.size W.heap.size wr (L ++ Lib.itoa t.kind) w2) => show Calls Tryz.prog 149 _ w2 (fun e w' => e = .returned (.tuple #[]) ∧ WS W.heap.size W.heap.size W1 (L ++ Lib.itoa t.kind ++ leadW t) w') by
      have hc := hCr.step h2
      refine (lead149 hT hc htx (by rw [List.length_append]; omega)).mono ?_
      rintro e w' ⟨rfl, h3⟩
      rw [hlw]
      skip
      exact ⟨rfl, (hs.trans h2).trans h3⟩)
     clear hk hT htx
     go_wp2_with (first | (go_at_call 124; refine (unhide HN).mono ?_; rintro e w2 ⟨rfl, h2⟩; have q0 := unhide HD w2 (hCr.bel.trans h2.bel); have q1 := unhide HT1 w2 h2))
     refine region_tail 11 (by kernel_rfl) (by kernel_rfl) ?_
     simp only [List.take_succ_cons, List.take_zero, List.drop_succ_cons, List.drop_zero]
     repeat (go_big_quiet_step (fail))
     refine wpQuiet_nil ?_
     rintro _ ⟨nq, rfl⟩
     have h2q := h2.below (below_drewN' (Below.refl _ _) nq)
     go_wp2_with (first | (go_at_call 149; refine (unhide HC _ h2q).mono ?_; rintro e w3 ⟨rfl, h3⟩) | (go_at_call 125; refine (unhide HE _ h3).mono ?_; rintro e w4 ⟨rfl, h4⟩))
     go_roundw
     case rel => exact ⟨k + 1, by omega, by go_num, by rw [HSN.out]; exact h4⟩
     case measure => simp [intOf]; omega
    ·have hlw : leadW t = fieldsT t := by
       unfold leadW
       rcases hk with hk <;> (rw [hk]; try rfl)
     have HT1 := hide (fun w2 (h2 : WS W.heap.size W.heap.size wr (L ++ Lib.itoa t.kind) w2) => show w2.cell? ⟨tbl, t.kind, none⟩ = some (.func (.func 150) #[] #[]) by
      have hbk := unhide HTb w2 h2
      rcases hk with hk <;> rw [hk] <;> exact hbk.cell _)
     have HC := hide (fun w2 (h2 : WS W.heap.size W.heap.size wr (L ++ Lib.itoa t.kind) w2) => show Calls Tryz.prog 150 _ w2 (fun e w' => e = .returned (.tuple #[]) ∧ WS W.heap.size W.heap.size W1 (L ++ Lib.itoa t.kind ++ leadW t) w') by
      have hc := hCr.step h2
      refine (lead150 hT hc htx (by rw [List.length_append]; omega)).mono ?_
      rintro e w' ⟨rfl, h3⟩
      rw [hlw]
      skip
      exact ⟨rfl, (hs.trans h2).trans h3⟩)
     clear hk hT htx
     go_wp2_with (first | (go_at_call 124; refine (unhide HN).mono ?_; rintro e w2 ⟨rfl, h2⟩; have q0 := unhide HD w2 (hCr.bel.trans h2.bel); have q1 := unhide HT1 w2 h2))
     refine region_tail 11 (by kernel_rfl) (by kernel_rfl) ?_
     simp only [List.take_succ_cons, List.take_zero, List.drop_succ_cons, List.drop_zero]
     repeat (go_big_quiet_step (fail))
     refine wpQuiet_nil ?_
     rintro _ ⟨nq, rfl⟩
     have h2q := h2.below (below_drewN' (Below.refl _ _) nq)
     go_wp2_with (first | (go_at_call 150; refine (unhide HC _ h2q).mono ?_; rintro e w3 ⟨rfl, h3⟩) | (go_at_call 125; refine (unhide HE _ h3).mono ?_; rintro e w4 ⟨rfl, h4⟩))
     go_roundw
     case rel => exact ⟨k + 1, by omega, by go_num, by rw [HSN.out]; exact h4⟩
     case measure => simp [intOf]; omega
    ·have hlw : leadW t = objT t := by
       unfold leadW
       rcases hk with hk <;> (rw [hk]; try rfl)
     have HT1 := hide (fun w2 (h2 : WS W.heap.size W.heap.size wr (L ++ Lib.itoa t.kind) w2) => show w2.cell? ⟨tbl, t.kind, none⟩ = some (.func (.func 151) #[] #[]) by
      have hbk := unhide HTb w2 h2
      rcases hk with hk <;> rw [hk] <;> exact hbk.cell _)
     have HC := hide (fun w2 (h2 : WS W.heap.size W.heap.size wr (L ++ Lib.itoa t.kind) w2) => show Calls Tryz.prog 151 _ w2 (fun e w' => e = .returned (.tuple #[]) ∧ WS W.heap.size W.heap.size W1 (L ++ Lib.itoa t.kind ++ leadW t) w') by
      have hc := hCr.step h2
      refine (lead151 hT hc htx (by rw [List.length_append]; omega)).mono ?_
      rintro e w' ⟨rfl, h3⟩
      rw [hlw]
      skip
      exact ⟨rfl, (hs.trans h2).trans h3⟩)
     clear hk hT htx
     go_wp2_with (first | (go_at_call 124; refine (unhide HN).mono ?_; rintro e w2 ⟨rfl, h2⟩; have q0 := unhide HD w2 (hCr.bel.trans h2.bel); have q1 := unhide HT1 w2 h2))
     refine region_tail 11 (by kernel_rfl) (by kernel_rfl) ?_
     simp only [List.take_succ_cons, List.take_zero, List.drop_succ_cons, List.drop_zero]
     repeat (go_big_quiet_step (fail))
     refine wpQuiet_nil ?_
     rintro _ ⟨nq, rfl⟩
     have h2q := h2.below (below_drewN' (Below.refl _ _) nq)
     go_wp2_with (first | (go_at_call 151; refine (unhide HC _ h2q).mono ?_; rintro e w3 ⟨rfl, h3⟩) | (go_at_call 125; refine (unhide HE _ h3).mono ?_; rintro e w4 ⟨rfl, h4⟩))
     go_roundw
     case rel => exact ⟨k + 1, by omega, by go_num, by rw [HSN.out]; exact h4⟩
     case measure => simp [intOf]; omega
    ·have hlw : leadW t = opqT t := by
       unfold leadW
       rcases hk with hk <;> (rw [hk]; try rfl)
     have HT1 := hide (fun w2 (h2 : WS W.heap.size W.heap.size wr (L ++ Lib.itoa t.kind) w2) => show w2.cell? ⟨tbl, t.kind, none⟩ = some (.func (.func 152) #[] #[]) by
      have hbk := unhide HTb w2 h2
      rcases hk with hk <;> rw [hk] <;> exact hbk.cell _)
     have HC := hide (fun w2 (h2 : WS W.heap.size W.heap.size wr (L ++ Lib.itoa t.kind) w2) => show Calls Tryz.prog 152 _ w2 (fun e w' => e = .returned (.tuple #[]) ∧ WS W.heap.size W.heap.size W1 (L ++ Lib.itoa t.kind ++ leadW t) w') by
      have hc := hCr.step h2
      refine (lead152 hT hc htx (by rw [List.length_append]; omega)).mono ?_
      rintro e w' ⟨rfl, h3⟩
      rw [hlw]
      skip
      exact ⟨rfl, (hs.trans h2).trans h3⟩)
     clear hk hT htx
     go_wp2_with (first | (go_at_call 124; refine (unhide HN).mono ?_; rintro e w2 ⟨rfl, h2⟩; have q0 := unhide HD w2 (hCr.bel.trans h2.bel); have q1 := unhide HT1 w2 h2))
     refine region_tail 11 (by kernel_rfl) (by kernel_rfl) ?_
     simp only [List.take_succ_cons, List.take_zero, List.drop_succ_cons, List.drop_zero]
     repeat (go_big_quiet_step (fail))
     refine wpQuiet_nil ?_
     rintro _ ⟨nq, rfl⟩
     have h2q := h2.below (below_drewN' (Below.refl _ _) nq)
     go_wp2_with (first | (go_at_call 152; refine (unhide HC _ h2q).mono ?_; rintro e w3 ⟨rfl, h3⟩) | (go_at_call 125; refine (unhide HE _ h3).mono ?_; rintro e w4 ⟨rfl, h4⟩))
     go_roundw
     case rel => exact ⟨k + 1, by omega, by go_num, by rw [HSN.out]; exact h4⟩
     case measure => simp [intOf]; omega
   ·obtain rfl : k = G.length := by omega
    rw [List.take_length] at hs
    have hne0 : textW G ≠ [] := by
     obtain ⟨t, G', rfl⟩ := List.exists_cons_of_length_pos h0
     unfold textW lineW
     simp
    have HS := hide (wrStr hs.at' hne0)
    have hb := hC1.bel.trans hs.bel
    clear hk hG
    go_wp2_with (first | (go_at_call 126; refine (unhide HS).mono ?_; rintro e w3 ⟨rfl, h3⟩))
    go_ret
    exact ⟨rfl, hb.trans h3⟩
end Go.Proofs.YteaokkaidcbdlaaGreatDoor

