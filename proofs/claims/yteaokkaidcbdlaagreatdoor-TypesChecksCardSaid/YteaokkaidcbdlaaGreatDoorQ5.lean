/- Part 5 of 51: the texts Sg, Nm, one behind the other. -/
import Derived.Test.YteaokkaidcbdlaaGreatDoorQ4
import Derived.Tactics
import Derived.Tactics2
import Derived.WalkKit
import Derived.LoopTactic
import Derived.Outline
import Derived.Lib.Hide
import Derived.Handy
import Derived.KernelRfl
import Derived.Deep.LoopGhost
import Derived.CallsIn
import Derived.Deep.QuietTactic
import Derived.BigQuiet
import Derived.Deep.Draws
import Derived.WalkSpells
import Derived.Lib.Walk
import Derived.Lib.Strings
import Derived.Maps.OwnOps
import Derived.Maps.OwnSet
import Derived.Deep.RegionWith
import Derived.StillTailTactics
import Derived.WalkMore
import Derived.RangeFuncNested
import Derived.RangeFuncBound
import Derived.RangeFuncCalls
import Derived.RangeFuncLeaves
import Derived.RangeFuncBox
import Derived.Shelf.Abstract
import Derived.OwnWalkIn
import Derived.TacticsInMore
import Derived.LoopNIn
import Derived.LoopIn
import Derived.RecoverIn
import Derived.Maps.AppendAt
import Derived.RegionTactic
import Derived.ChangeAlike
import Derived.OwnWalk
import Derived.Deep.AppendLies
import Derived.Deep.DeepCutAuto
import Derived.Deep.RegionLaw
import Derived.Deep.RegionHeld3
import Derived.Test.YteaokkaidcbdlaaGreatDoorQ3
/- The checker's step on a signature. -/
namespace Go.Proofs.YteaokkaidcbdlaaGreatDoor
open Go Go.RowKit Go.Shelf
theorem set_other (w : World) {b c : Nat} (i : Nat) (v : Value) (hne : b ≠ c) : (w.setCell ⟨c, i, none⟩ v).heap[b]? = w.heap[b]? := by
  show (w.heap.modify c _)[b]? = _
  rw [Array.getElem?_modify, if_neg (by omega)]
structure Own3 (W0 W : World) (gv : Value) (bc bt sb mb : Nat) (X : Option Obj) (f : Bool) (cs ss : List Value) : Prop extends Own2 W0 W gv bc bt f cs where
  s : Blk W sb ss 72
  hs : W0.heap.size ≤ sb
  nc : sb ≠ bc
  nt : sb ≠ bt
  xm : W.heap[mb]? = X
  xc : mb ≠ bc
theorem Own3.setC {W0 W : World} {gv : Value} {bc bt sb mb : Nat} {X : Option Obj} {f : Bool} {cs ss : List Value} (h : Own3 W0 W gv bc bt sb mb X f cs ss) (g : Bool) : Own3 W0 (W.setCell ⟨bc, 1, none⟩ (.bool g)) gv bc bt sb mb X g cs ss :=
  { h.toOwn2.setC g with s := h.s.other _ _ h.nc, hs := h.hs, nc := h.nc, nt := h.nt, xm := (set_other W _ _ h.xc).trans h.xm, xc := h.xc }
theorem Own3.drewN {W0 W : World} {gv : Value} {bc bt sb mb : Nat} {X : Option Obj} {f : Bool} {cs ss : List Value} (h : Own3 W0 W gv bc bt sb mb X f cs ss) (n : Nat) : Own3 W0 (W.drewN n) gv bc bt sb mb X f cs ss :=
  { h.toOwn2.drewN n with s := h.s, hs := h.hs, nc := h.nc, nt := h.nt, xm := h.xm, xc := h.xc }
theorem Own3.new {W0 W : World} {gv : Value} {bc bt mb : Nat} {f : Bool} {cs : List Value} (h : Own2 W0 W gv bc bt f cs) (hm : mb < W.heap.size) (hc : mb ≠ bc) (ss : List Value) : Own3 W0 (W.alloc (.cells ss.toArray 72)) gv bc bt W.heap.size mb W.heap[mb]? f cs ss :=
  { h.alloc _ with s := Blk.new W ss 72, hs := h.bel.size, nc := Nat.ne_of_gt h.c.lt, nt := Nat.ne_of_gt h.t.lt, xm := Below.heap_alloc _ _ _ hm, xc := hc }
theorem need3 {W0 W : World} {gv : Value} {bc bt sb mb : Nat} {X : Option Obj} {f : Bool} {cs ss : List Value} (h : Own3 W0 W gv bc bt sb mb X f cs ss) (x : Bool) :
    Calls Tryz.prog 271 #[.pointer (some ⟨bc, 0, none⟩), .bool x] W fun e w' => e = .returned (.tuple #[]) ∧ Own3 W0 w' gv bc bt sb mb X (f && x) cs ss :=
  (need_any bc gv f x W h.c).mono fun _ _ ⟨he, hw⟩ => ⟨he, hw ▸ h.setC _⟩
theorem index3 {W0 W : World} {o : Option Addr} {n cap : Nat} {bc bt sb mb : Nat} {X : Option Obj} {f : Bool} {cs ss : List Value} (h : Own3 W0 W (.slice o n cap) bc bt sb mb X f cs ss) (i : Int) :
    Calls Tryz.prog 265 #[.pointer (some ⟨bc, 0, none⟩), .int .i64 i] W fun e w' => e = .returned (.tuple #[]) ∧ Own3 W0 w' (.slice o n cap) bc bt sb mb X (f && idxB n i) cs ss := by
  have c0 : W.cell? ⟨bc, 0, none⟩ = some (.slice o n cap) := h.c.cell 0
  go_enter Tryz.func265, Tryz.ntmps265
  go_wp2_with (first | (go_at_call 99; refine (isIndex_any _ _ _ _ _).mono ?_; rintro e w1 ⟨rfl, rfl⟩) | (go_at_call 271; refine (need3 h _).mono ?_; rintro e w1 ⟨rfl, h1⟩))
  go_end0
  exact ⟨rfl, h1⟩
/-- The bytes of one stand ahead of those of the other. -/
def ltS (a b : ByteArray) : Bool := Op.bytesLess a.toList b.toList
def raisesAt (l : List ByteArray) (k : Nat) : Bool := match l[k]? with
  | none => true
  | some r => excB (bs r) && (decide (k = 0) || match l[k - 1]? with | none => true | some q => ltS q r)
def sigB (n : Nat) (m : MethD) : Bool :=
  (decide (m.args.length ≤ 6) && decide (m.raises.length ≤ 6)) && (m.args.all (idxB n) && ((decide (m.result = -1) || idxB n m.result) && (List.range m.raises.length).all (raisesAt m.raises)))
theorem range_all (p : Nat → Bool) (k : Nat) : (List.range (k + 1)).all p = ((List.range k).all p && p k) := by rw [List.range_succ, List.all_append]; simp
set_option maxRecDepth 100000 in
set_option maxHeartbeats 4000000 in
theorem sig_any {W0 W : World} {o : Option Addr} {n cap : Nat} {bc bt mb : Nat} (hmb : mb < W.heap.size) (hmc : mb ≠ bc) {f : Bool} {cs : List Value} {m : MethD} {va vr : Value} (hl : MethV W0 va vr m) (hz : ∀ r ∈ m.raises, r.size ≤ maxLen) (h : Own2 W0 W (.slice o n cap) bc bt f cs) :
    Calls Tryz.prog 277 #[.pointer (some ⟨bc, 0, none⟩), .agg #[va, .int .i64 m.result, vr]] W fun e w' => e = .returned (.tuple #[]) ∧
      Own2 W0 w' (.slice o n cap) bc bt (f && sigB n m) cs ∧ w'.heap[mb]? = W.heap[mb]? := by
  obtain ⟨oa, ca, rfl⟩ := hl.args.form
  obtain ⟨orr, cr, rfl⟩ := hl.raises.form
  obtain ⟨_, hma, hla, hata⟩ := hl.args.at
  obtain ⟨_, hmr, hlr, hatr⟩ := hl.raises.at
  have ha63 : m.args.length ≤ 9223372036854775807 := by unfold maxLen at hma; omega
  have hr63 : m.raises.length ≤ 9223372036854775807 := by unfold maxLen at hmr; omega
  have h3 := Own3.new h hmb hmc [.slice oa m.args.length ca, .int .i64 m.result, .slice orr m.raises.length cr]
  obtain ⟨A, hA⟩ : ∃ A, m.args.length = A := ⟨_, rfl⟩
  obtain ⟨R, hR⟩ : ∃ R, m.raises.length = R := ⟨_, rfl⟩
  obtain ⟨V, hV⟩ : ∃ V, m.result = V := ⟨_, rfl⟩
  obtain ⟨x, HB, hx⟩ : ∃ x, Hid (sigB n m = (x && (m.args.all (idxB n) && ((decide (V = -1) || idxB n V) && (List.range R).all (raisesAt m.raises))))) ∧
      ((x = false ∧ (6 : Int) < A ∧ decide ((A : Int) ≤ 6) = false) ∨ (x = decide ((R : Int) ≤ 6) ∧ (A : Int) ≤ 6)) := by
    refine ⟨(decide (m.args.length ≤ 6) && decide (m.raises.length ≤ 6)), Lib.hid (by unfold sigB; rw [hV, hR]), ?_⟩
    by_cases h1 : m.args.length ≤ 6
    · refine .inr ⟨?_, by omega⟩
      rw [hR]
      have : ((R : Int) ≤ 6) = (R ≤ 6) := by simp; omega
      simp only [this]; simp [h1]
    · exact .inl ⟨by simp [h1], by omega, decide_eq_false (by omega)⟩
  rw [hA, hR, hV] at h3
  rw [hA] at hl ha63
  rw [hR] at hr63
  rw [hA, hR, hV]
  have HA := Lib.hid hA
  have HR := Lib.hid hR
  generalize hsb : W.heap.size = sb at h3
  generalize hX : W.heap[mb]? = X at h3 ⊢
  clear hX
  clear hA hR hV hl hma hla hmr hlr
  rcases hx with ⟨rfl, hx1, hx2⟩ | ⟨hx1, hx2⟩
  · go_enter Tryz.func277, Tryz.ntmps277
    go_wp2_with (first | (go_at_call 271; refine (need3 h3 _).mono ?_; clear h3 h; rintro e w2 ⟨rfl, h4⟩; have d0 : w2.cell? ⟨sb, 0, none⟩ = some (.slice oa A ca) := h4.s.cell 0))
    go_loopw [23] (fun i wr => ∃ k : Nat, k ≤ A ∧ i = .int .i64 k ∧ Own3 W0 wr (.slice o n cap) bc bt sb mb X ((f && false) && (m.args.take k).all (idxB n)) cs [.slice oa A ca, .int .i64 V, .slice orr R cr]) (fun i _ => A - (intOf i).toNat)
    case atStart => exact ⟨0, Nat.zero_le _, rfl, by simpa using h4⟩
    case round =>
      obtain ⟨k, hk, rfl, h5⟩ := hrel
      by_cases hlt : k < A
      · have hltp : k < m.args.length := by rw [HA.out]; exact hlt
        obtain ⟨b, off, rfl, e0⟩ := hata k m.args[k] (List.getElem?_eq_getElem hltp)
        have r0 : wr.cell? ⟨b, off + k, none⟩ = some (.int .i64 m.args[k]) := by have := Holds.below h5.bel _ _ e0; simpa using this
        have HA2 := Lib.hid (all_take (idxB n) m.args k hltp)
        have hlt' : (k : Int) < A := by omega
        generalize m.args[k] = q at r0 HA2
        clear hata e0
        go_wp2_with (first | (go_at_call 265; refine (index3 h5 _).mono ?_; clear h5 r0; rintro e w5 ⟨rfl, h6⟩))
        go_roundw
        case rel => exact ⟨k + 1, by omega, by go_num, by rw [HA2.out, ← Bool.and_assoc]; exact h6⟩
        case measure => simp [intOf]; omega
      · obtain rfl : k = A := by omega
        have HA2 := Lib.hid (show (m.args.take k).all (idxB n) = m.args.all (idxB n) by rw [List.take_of_length_le (by rw [HA.out]; exact Nat.le_refl _)])
        rw [HA2.out] at h5
        have d1 : wr.cell? ⟨sb, 1, none⟩ = some (.int .i64 V) := h5.s.cell 1
        have d2 : wr.cell? ⟨sb, 2, none⟩ = some (.slice orr R cr) := h5.s.cell 2
        clear hata
        generalize m.args.all (idxB n) = ab at h5 HB
        by_cases hv : V = -1
        · subst hv
          go_wp2
          go_loopw [41] (fun i wr => ∃ kk : Nat, kk ≤ R ∧ i = .int .i64 kk ∧ Own3 W0 wr (.slice o n cap) bc bt sb mb X (((f && false) && ab) && (List.range kk).all (raisesAt m.raises)) cs [.slice oa k ca, .int .i64 (-1), .slice orr R cr]) (fun i _ => R - (intOf i).toNat)
          case atStart => exact ⟨0, Nat.zero_le _, rfl, by simpa using h5⟩
          case round =>
            obtain ⟨kk, hk, rfl, h7⟩ := hrel
            by_cases hlt : kk < R
            · have hltp : kk < m.raises.length := by rw [HR.out]; exact hlt
              obtain ⟨b, off, rfl, e0⟩ := hatr kk m.raises[kk] (List.getElem?_eq_getElem hltp)
              have r0 : wr.cell? ⟨b, off + kk, none⟩ = some (.string m.raises[kk]) := by have := Holds.below h7.bel _ _ e0; simpa using this
              have r2 : wr.cell? ⟨sb, 2, none⟩ = some (.slice (some ⟨b, off, none⟩) R cr) := h7.s.cell 2
              have hlt' : (kk : Int) < R := by omega
              have hze := isException_any m.raises[kk] (hz _ (List.getElem_mem hltp))
              have hgk : m.raises[kk]? = some m.raises[kk] := List.getElem?_eq_getElem hltp
              cases hex : excB (bs m.raises[kk]) with
              | false =>
                rw [hex] at hze
                have HZ := hide hze
                have HA2 := Lib.hid (show (List.range (kk + 1)).all (raisesAt m.raises) = ((List.range kk).all (raisesAt m.raises) && false) by rw [range_all]; unfold raisesAt; rw [hgk]; simp only [hex, Bool.false_and])
                clear hze hex hgk hatr e0
                go_wp2_with (first | (go_at_call 282; refine (unhide HZ _).mono ?_; rintro e w5 ⟨rfl, nq, rfl⟩) | (go_at_call 271; refine (need3 (h7.drewN nq) _).mono ?_; clear h7 r0 r2; rintro e w5 ⟨rfl, h8⟩))
                go_roundw
                case rel => exact ⟨kk + 1, by omega, by go_num, by rw [HA2.out, ← Bool.and_assoc]; exact h8⟩
                case measure => simp [intOf]; omega
              | true =>
                rw [hex] at hze
                have HZ := hide hze
                rcases (show kk = 0 ∨ ∃ j, kk = j + 1 from by cases kk; exact .inl rfl; exact .inr ⟨_, rfl⟩) with rfl | ⟨j, rfl⟩
                · have HA2 := Lib.hid (show (List.range (0 + 1)).all (raisesAt m.raises) = ((List.range 0).all (raisesAt m.raises) && true) by rw [range_all]; unfold raisesAt; rw [hgk]; simp [hex])
                  have r3 : wr.cell? ⟨b, off, none⟩ = some (.string m.raises[0]) := r0
                  clear hze hex hgk hatr e0
                  go_wp2_with (first | (go_at_call 282; refine (unhide HZ _).mono ?_; rintro e w5 ⟨rfl, nq, rfl⟩) | (go_at_call 271; refine (need3 (h7.drewN nq) _).mono ?_; clear h7 r0 r2; rintro e w5 ⟨rfl, h8⟩))
                  go_roundw
                  case rel => exact ⟨0 + 1, by omega, by go_num, by rw [HA2.out, ← Bool.and_assoc]; exact h8⟩
                  case measure => simp [intOf]; omega
                · have hltj : j < m.raises.length := by omega
                  have hgj : m.raises[j]? = some m.raises[j] := List.getElem?_eq_getElem hltj
                  obtain ⟨b', off', hq, e1⟩ := hatr j m.raises[j] hgj
                  cases hq
                  have r1 : wr.cell? ⟨b, off + j, none⟩ = some (.string m.raises[j]) := by have := Holds.below h7.bel _ _ e1; simpa using this
                  have HA2 := Lib.hid (show (List.range (j + 1 + 1)).all (raisesAt m.raises) = ((List.range (j + 1)).all (raisesAt m.raises) && ltS m.raises[j] m.raises[j + 1]) by rw [range_all (raisesAt m.raises) (j + 1)]; unfold raisesAt; rw [hgk, show j + 1 - 1 = j from rfl, hgj]; simp [hex])
                  have hjR : (j : Int) < R := by omega
                  have hj0 : (((j : Int) + 1) == 0) = false := by simp; omega
                  clear hze hex hgk hatr e0 e1 hgj
                  go_wp2_with (first | (go_at_call 282; refine (unhide HZ _).mono ?_; rintro e w5 ⟨rfl, nq, rfl⟩) | (go_at_call 271; refine (need3 (h7.drewN nq) _).mono ?_; clear h7 r0 r2 r1; rintro e w5 ⟨rfl, h8⟩))
                  go_roundw
                  case rel => exact ⟨j + 1 + 1, by omega, by go_num, by rw [HA2.out, ← Bool.and_assoc]; exact h8⟩
                  case measure => simp [intOf]; omega
            · obtain rfl : kk = R := by omega
              clear hatr
              go_wp2
              go_end0
              exact ⟨rfl, by rw [HB.out]; simp only [decide_true, Bool.true_or, Bool.true_and, ← Bool.and_assoc]; exact h7.toOwn2, h7.xm⟩
        · have hne : (V != -1) = true := by simpa using hv
          have hdv : decide (V = -1) = false := decide_eq_false hv
          go_wp2_with (first | (go_at_call 265; refine (index3 h5 _).mono ?_; clear h5 d1 d2; rintro e w6 ⟨rfl, h6⟩; have d2 : w6.cell? ⟨sb, 2, none⟩ = some (.slice orr R cr) := h6.s.cell 2))
          go_loopw [41] (fun i wr => ∃ kk : Nat, kk ≤ R ∧ i = .int .i64 kk ∧ Own3 W0 wr (.slice o n cap) bc bt sb mb X ((((f && false) && ab) && idxB n V) && (List.range kk).all (raisesAt m.raises)) cs [.slice oa k ca, .int .i64 V, .slice orr R cr]) (fun i _ => R - (intOf i).toNat)
          case atStart => exact ⟨0, Nat.zero_le _, rfl, by simpa using h6⟩
          case round =>
            obtain ⟨kk, hk, rfl, h7⟩ := hrel
            by_cases hlt : kk < R
            · have hltp : kk < m.raises.length := by rw [HR.out]; exact hlt
              obtain ⟨b, off, rfl, e0⟩ := hatr kk m.raises[kk] (List.getElem?_eq_getElem hltp)
              have r0 : wr.cell? ⟨b, off + kk, none⟩ = some (.string m.raises[kk]) := by have := Holds.below h7.bel _ _ e0; simpa using this
              have r2 : wr.cell? ⟨sb, 2, none⟩ = some (.slice (some ⟨b, off, none⟩) R cr) := h7.s.cell 2
              have hlt' : (kk : Int) < R := by omega
              have hze := isException_any m.raises[kk] (hz _ (List.getElem_mem hltp))
              have hgk : m.raises[kk]? = some m.raises[kk] := List.getElem?_eq_getElem hltp
              cases hex : excB (bs m.raises[kk]) with
              | false =>
                rw [hex] at hze
                have HZ := hide hze
                have HA2 := Lib.hid (show (List.range (kk + 1)).all (raisesAt m.raises) = ((List.range kk).all (raisesAt m.raises) && false) by rw [range_all]; unfold raisesAt; rw [hgk]; simp only [hex, Bool.false_and])
                clear hze hex hgk hatr e0
                go_wp2_with (first | (go_at_call 282; refine (unhide HZ _).mono ?_; rintro e w5 ⟨rfl, nq, rfl⟩) | (go_at_call 271; refine (need3 (h7.drewN nq) _).mono ?_; clear h7 r0 r2; rintro e w5 ⟨rfl, h8⟩))
                go_roundw
                case rel => exact ⟨kk + 1, by omega, by go_num, by rw [HA2.out, ← Bool.and_assoc]; exact h8⟩
                case measure => simp [intOf]; omega
              | true =>
                rw [hex] at hze
                have HZ := hide hze
                rcases (show kk = 0 ∨ ∃ j, kk = j + 1 from by cases kk; exact .inl rfl; exact .inr ⟨_, rfl⟩) with rfl | ⟨j, rfl⟩
                · have HA2 := Lib.hid (show (List.range (0 + 1)).all (raisesAt m.raises) = ((List.range 0).all (raisesAt m.raises) && true) by rw [range_all]; unfold raisesAt; rw [hgk]; simp [hex])
                  have r3 : wr.cell? ⟨b, off, none⟩ = some (.string m.raises[0]) := r0
                  clear hze hex hgk hatr e0
                  go_wp2_with (first | (go_at_call 282; refine (unhide HZ _).mono ?_; rintro e w5 ⟨rfl, nq, rfl⟩) | (go_at_call 271; refine (need3 (h7.drewN nq) _).mono ?_; clear h7 r0 r2; rintro e w5 ⟨rfl, h8⟩))
                  go_roundw
                  case rel => exact ⟨0 + 1, by omega, by go_num, by rw [HA2.out, ← Bool.and_assoc]; exact h8⟩
                  case measure => simp [intOf]; omega
                · have hltj : j < m.raises.length := by omega
                  have hgj : m.raises[j]? = some m.raises[j] := List.getElem?_eq_getElem hltj
                  obtain ⟨b', off', hq, e1⟩ := hatr j m.raises[j] hgj
                  cases hq
                  have r1 : wr.cell? ⟨b, off + j, none⟩ = some (.string m.raises[j]) := by have := Holds.below h7.bel _ _ e1; simpa using this
                  have HA2 := Lib.hid (show (List.range (j + 1 + 1)).all (raisesAt m.raises) = ((List.range (j + 1)).all (raisesAt m.raises) && ltS m.raises[j] m.raises[j + 1]) by rw [range_all (raisesAt m.raises) (j + 1)]; unfold raisesAt; rw [hgk, show j + 1 - 1 = j from rfl, hgj]; simp [hex])
                  have hjR : (j : Int) < R := by omega
                  have hj0 : (((j : Int) + 1) == 0) = false := by simp; omega
                  clear hze hex hgk hatr e0 e1 hgj
                  go_wp2_with (first | (go_at_call 282; refine (unhide HZ _).mono ?_; rintro e w5 ⟨rfl, nq, rfl⟩) | (go_at_call 271; refine (need3 (h7.drewN nq) _).mono ?_; clear h7 r0 r2 r1; rintro e w5 ⟨rfl, h8⟩))
                  go_roundw
                  case rel => exact ⟨j + 1 + 1, by omega, by go_num, by rw [HA2.out, ← Bool.and_assoc]; exact h8⟩
                  case measure => simp [intOf]; omega
            · obtain rfl : kk = R := by omega
              clear hatr
              go_wp2
              go_end0
              exact ⟨rfl, by rw [HB.out]; rw [hdv, Bool.false_or, ← Bool.and_assoc, ← Bool.and_assoc, ← Bool.and_assoc]; exact h7.toOwn2, h7.xm⟩
  · go_enter Tryz.func277, Tryz.ntmps277
    go_wp2_with (first | (go_at_call 271; refine (need3 h3 _).mono ?_; clear h3 h; rintro e w2 ⟨rfl, h4⟩; have d0 : w2.cell? ⟨sb, 0, none⟩ = some (.slice oa A ca) := h4.s.cell 0))
    go_loopw [23] (fun i wr => ∃ k : Nat, k ≤ A ∧ i = .int .i64 k ∧ Own3 W0 wr (.slice o n cap) bc bt sb mb X ((f && x) && (m.args.take k).all (idxB n)) cs [.slice oa A ca, .int .i64 V, .slice orr R cr]) (fun i _ => A - (intOf i).toNat)
    case atStart => exact ⟨0, Nat.zero_le _, rfl, by rw [hx1]; simpa using h4⟩
    case round =>
      obtain ⟨k, hk, rfl, h5⟩ := hrel
      by_cases hlt : k < A
      · have hltp : k < m.args.length := by rw [HA.out]; exact hlt
        obtain ⟨b, off, rfl, e0⟩ := hata k m.args[k] (List.getElem?_eq_getElem hltp)
        have r0 : wr.cell? ⟨b, off + k, none⟩ = some (.int .i64 m.args[k]) := by have := Holds.below h5.bel _ _ e0; simpa using this
        have HA2 := Lib.hid (all_take (idxB n) m.args k hltp)
        have hlt' : (k : Int) < A := by omega
        generalize m.args[k] = q at r0 HA2
        clear hata e0
        go_wp2_with (first | (go_at_call 265; refine (index3 h5 _).mono ?_; clear h5 r0; rintro e w5 ⟨rfl, h6⟩))
        go_roundw
        case rel => exact ⟨k + 1, by omega, by go_num, by rw [HA2.out, ← Bool.and_assoc]; exact h6⟩
        case measure => simp [intOf]; omega
      · obtain rfl : k = A := by omega
        have HA2 := Lib.hid (show (m.args.take k).all (idxB n) = m.args.all (idxB n) by rw [List.take_of_length_le (by rw [HA.out]; exact Nat.le_refl _)])
        rw [HA2.out] at h5
        have d1 : wr.cell? ⟨sb, 1, none⟩ = some (.int .i64 V) := h5.s.cell 1
        have d2 : wr.cell? ⟨sb, 2, none⟩ = some (.slice orr R cr) := h5.s.cell 2
        clear hata
        generalize m.args.all (idxB n) = ab at h5 HB
        by_cases hv : V = -1
        · subst hv
          go_wp2
          go_loopw [41] (fun i wr => ∃ kk : Nat, kk ≤ R ∧ i = .int .i64 kk ∧ Own3 W0 wr (.slice o n cap) bc bt sb mb X (((f && x) && ab) && (List.range kk).all (raisesAt m.raises)) cs [.slice oa k ca, .int .i64 (-1), .slice orr R cr]) (fun i _ => R - (intOf i).toNat)
          case atStart => exact ⟨0, Nat.zero_le _, rfl, by simpa using h5⟩
          case round =>
            obtain ⟨kk, hk, rfl, h7⟩ := hrel
            by_cases hlt : kk < R
            · have hltp : kk < m.raises.length := by rw [HR.out]; exact hlt
              obtain ⟨b, off, rfl, e0⟩ := hatr kk m.raises[kk] (List.getElem?_eq_getElem hltp)
              have r0 : wr.cell? ⟨b, off + kk, none⟩ = some (.string m.raises[kk]) := by have := Holds.below h7.bel _ _ e0; simpa using this
              have r2 : wr.cell? ⟨sb, 2, none⟩ = some (.slice (some ⟨b, off, none⟩) R cr) := h7.s.cell 2
              have hlt' : (kk : Int) < R := by omega
              have hze := isException_any m.raises[kk] (hz _ (List.getElem_mem hltp))
              have hgk : m.raises[kk]? = some m.raises[kk] := List.getElem?_eq_getElem hltp
              cases hex : excB (bs m.raises[kk]) with
              | false =>
                rw [hex] at hze
                have HZ := hide hze
                have HA2 := Lib.hid (show (List.range (kk + 1)).all (raisesAt m.raises) = ((List.range kk).all (raisesAt m.raises) && false) by rw [range_all]; unfold raisesAt; rw [hgk]; simp only [hex, Bool.false_and])
                clear hze hex hgk hatr e0
                go_wp2_with (first | (go_at_call 282; refine (unhide HZ _).mono ?_; rintro e w5 ⟨rfl, nq, rfl⟩) | (go_at_call 271; refine (need3 (h7.drewN nq) _).mono ?_; clear h7 r0 r2; rintro e w5 ⟨rfl, h8⟩))
                go_roundw
                case rel => exact ⟨kk + 1, by omega, by go_num, by rw [HA2.out, ← Bool.and_assoc]; exact h8⟩
                case measure => simp [intOf]; omega
              | true =>
                rw [hex] at hze
                have HZ := hide hze
                rcases (show kk = 0 ∨ ∃ j, kk = j + 1 from by cases kk; exact .inl rfl; exact .inr ⟨_, rfl⟩) with rfl | ⟨j, rfl⟩
                · have HA2 := Lib.hid (show (List.range (0 + 1)).all (raisesAt m.raises) = ((List.range 0).all (raisesAt m.raises) && true) by rw [range_all]; unfold raisesAt; rw [hgk]; simp [hex])
                  have r3 : wr.cell? ⟨b, off, none⟩ = some (.string m.raises[0]) := r0
                  clear hze hex hgk hatr e0
                  go_wp2_with (first | (go_at_call 282; refine (unhide HZ _).mono ?_; rintro e w5 ⟨rfl, nq, rfl⟩) | (go_at_call 271; refine (need3 (h7.drewN nq) _).mono ?_; clear h7 r0 r2; rintro e w5 ⟨rfl, h8⟩))
                  go_roundw
                  case rel => exact ⟨0 + 1, by omega, by go_num, by rw [HA2.out, ← Bool.and_assoc]; exact h8⟩
                  case measure => simp [intOf]; omega
                · have hltj : j < m.raises.length := by omega
                  have hgj : m.raises[j]? = some m.raises[j] := List.getElem?_eq_getElem hltj
                  obtain ⟨b', off', hq, e1⟩ := hatr j m.raises[j] hgj
                  cases hq
                  have r1 : wr.cell? ⟨b, off + j, none⟩ = some (.string m.raises[j]) := by have := Holds.below h7.bel _ _ e1; simpa using this
                  have HA2 := Lib.hid (show (List.range (j + 1 + 1)).all (raisesAt m.raises) = ((List.range (j + 1)).all (raisesAt m.raises) && ltS m.raises[j] m.raises[j + 1]) by rw [range_all (raisesAt m.raises) (j + 1)]; unfold raisesAt; rw [hgk, show j + 1 - 1 = j from rfl, hgj]; simp [hex])
                  have hjR : (j : Int) < R := by omega
                  have hj0 : (((j : Int) + 1) == 0) = false := by simp; omega
                  clear hze hex hgk hatr e0 e1 hgj
                  go_wp2_with (first | (go_at_call 282; refine (unhide HZ _).mono ?_; rintro e w5 ⟨rfl, nq, rfl⟩) | (go_at_call 271; refine (need3 (h7.drewN nq) _).mono ?_; clear h7 r0 r2 r1; rintro e w5 ⟨rfl, h8⟩))
                  go_roundw
                  case rel => exact ⟨j + 1 + 1, by omega, by go_num, by rw [HA2.out, ← Bool.and_assoc]; exact h8⟩
                  case measure => simp [intOf]; omega
            · obtain rfl : kk = R := by omega
              clear hatr
              go_wp2
              go_end0
              exact ⟨rfl, by rw [HB.out]; simp only [decide_true, Bool.true_or, Bool.true_and, ← Bool.and_assoc]; exact h7.toOwn2, h7.xm⟩
        · have hne : (V != -1) = true := by simpa using hv
          have hdv : decide (V = -1) = false := decide_eq_false hv
          go_wp2_with (first | (go_at_call 265; refine (index3 h5 _).mono ?_; clear h5 d1 d2; rintro e w6 ⟨rfl, h6⟩; have d2 : w6.cell? ⟨sb, 2, none⟩ = some (.slice orr R cr) := h6.s.cell 2))
          go_loopw [41] (fun i wr => ∃ kk : Nat, kk ≤ R ∧ i = .int .i64 kk ∧ Own3 W0 wr (.slice o n cap) bc bt sb mb X ((((f && x) && ab) && idxB n V) && (List.range kk).all (raisesAt m.raises)) cs [.slice oa k ca, .int .i64 V, .slice orr R cr]) (fun i _ => R - (intOf i).toNat)
          case atStart => exact ⟨0, Nat.zero_le _, rfl, by simpa using h6⟩
          case round =>
            obtain ⟨kk, hk, rfl, h7⟩ := hrel
            by_cases hlt : kk < R
            · have hltp : kk < m.raises.length := by rw [HR.out]; exact hlt
              obtain ⟨b, off, rfl, e0⟩ := hatr kk m.raises[kk] (List.getElem?_eq_getElem hltp)
              have r0 : wr.cell? ⟨b, off + kk, none⟩ = some (.string m.raises[kk]) := by have := Holds.below h7.bel _ _ e0; simpa using this
              have r2 : wr.cell? ⟨sb, 2, none⟩ = some (.slice (some ⟨b, off, none⟩) R cr) := h7.s.cell 2
              have hlt' : (kk : Int) < R := by omega
              have hze := isException_any m.raises[kk] (hz _ (List.getElem_mem hltp))
              have hgk : m.raises[kk]? = some m.raises[kk] := List.getElem?_eq_getElem hltp
              cases hex : excB (bs m.raises[kk]) with
              | false =>
                rw [hex] at hze
                have HZ := hide hze
                have HA2 := Lib.hid (show (List.range (kk + 1)).all (raisesAt m.raises) = ((List.range kk).all (raisesAt m.raises) && false) by rw [range_all]; unfold raisesAt; rw [hgk]; simp only [hex, Bool.false_and])
                clear hze hex hgk hatr e0
                go_wp2_with (first | (go_at_call 282; refine (unhide HZ _).mono ?_; rintro e w5 ⟨rfl, nq, rfl⟩) | (go_at_call 271; refine (need3 (h7.drewN nq) _).mono ?_; clear h7 r0 r2; rintro e w5 ⟨rfl, h8⟩))
                go_roundw
                case rel => exact ⟨kk + 1, by omega, by go_num, by rw [HA2.out, ← Bool.and_assoc]; exact h8⟩
                case measure => simp [intOf]; omega
              | true =>
                rw [hex] at hze
                have HZ := hide hze
                rcases (show kk = 0 ∨ ∃ j, kk = j + 1 from by cases kk; exact .inl rfl; exact .inr ⟨_, rfl⟩) with rfl | ⟨j, rfl⟩
                · have HA2 := Lib.hid (show (List.range (0 + 1)).all (raisesAt m.raises) = ((List.range 0).all (raisesAt m.raises) && true) by rw [range_all]; unfold raisesAt; rw [hgk]; simp [hex])
                  have r3 : wr.cell? ⟨b, off, none⟩ = some (.string m.raises[0]) := r0
                  clear hze hex hgk hatr e0
                  go_wp2_with (first | (go_at_call 282; refine (unhide HZ _).mono ?_; rintro e w5 ⟨rfl, nq, rfl⟩) | (go_at_call 271; refine (need3 (h7.drewN nq) _).mono ?_; clear h7 r0 r2; rintro e w5 ⟨rfl, h8⟩))
                  go_roundw
                  case rel => exact ⟨0 + 1, by omega, by go_num, by rw [HA2.out, ← Bool.and_assoc]; exact h8⟩
                  case measure => simp [intOf]; omega
                · have hltj : j < m.raises.length := by omega
                  have hgj : m.raises[j]? = some m.raises[j] := List.getElem?_eq_getElem hltj
                  obtain ⟨b', off', hq, e1⟩ := hatr j m.raises[j] hgj
                  cases hq
                  have r1 : wr.cell? ⟨b, off + j, none⟩ = some (.string m.raises[j]) := by have := Holds.below h7.bel _ _ e1; simpa using this
                  have HA2 := Lib.hid (show (List.range (j + 1 + 1)).all (raisesAt m.raises) = ((List.range (j + 1)).all (raisesAt m.raises) && ltS m.raises[j] m.raises[j + 1]) by rw [range_all (raisesAt m.raises) (j + 1)]; unfold raisesAt; rw [hgk, show j + 1 - 1 = j from rfl, hgj]; simp [hex])
                  have hjR : (j : Int) < R := by omega
                  have hj0 : (((j : Int) + 1) == 0) = false := by simp; omega
                  clear hze hex hgk hatr e0 e1 hgj
                  go_wp2_with (first | (go_at_call 282; refine (unhide HZ _).mono ?_; rintro e w5 ⟨rfl, nq, rfl⟩) | (go_at_call 271; refine (need3 (h7.drewN nq) _).mono ?_; clear h7 r0 r2 r1; rintro e w5 ⟨rfl, h8⟩))
                  go_roundw
                  case rel => exact ⟨j + 1 + 1, by omega, by go_num, by rw [HA2.out, ← Bool.and_assoc]; exact h8⟩
                  case measure => simp [intOf]; omega
            · obtain rfl : kk = R := by omega
              clear hatr
              go_wp2
              go_end0
              exact ⟨rfl, by rw [HB.out]; rw [hdv, Bool.false_or, ← Bool.and_assoc, ← Bool.and_assoc, ← Bool.and_assoc]; exact h7.toOwn2, h7.xm⟩
def methB (n : Nat) (m : MethD) : Bool := sigB n m && ((bs m.proc).isEmpty || symB (bs m.proc))
def methsB (n : Nat) (t : TyD) : Bool := namedB (t.meths.map (·.name)) && t.meths.all (methB n)
end Go.Proofs.YteaokkaidcbdlaaGreatDoor
/- Names that differ, of methods. -/
namespace Go.Proofs.YteaokkaidcbdlaaGreatDoor
open Go Go.RowKit Go.Shelf
theorem clo276 {x p : ByteArray} {va vr : Value} {r : Int} (w : World) : Calls Tryz.prog 276 #[.agg #[.string x, va, .int .i64 r, vr, .string p]] w fun e w' => e = .returned (.string x) ∧ w' = w.alloc (.cells #[.string x, va, .int .i64 r, vr, .string p] 74) := by
  go_enter Tryz.func276, Tryz.ntmps276
  go_wp2
  go_ret
  exact ⟨rfl, rfl⟩
set_option maxRecDepth 100000 in
set_option maxHeartbeats 4000000 in
theorem namedM_any (v : Value) (ps : List MethD) (W0 : World) (hP : SliceOf 5 (MethAt W0) v ps) (hz : ∀ p ∈ ps, p.name.size ≤ maxLen) (W : World) (hB0 : Below W0.heap.size W0 W) :
    Calls Tryz.prog 275 #[v, .func (.func 276) #[] #[]] W fun e w' => e = .returned (.bool (namedB (ps.map (·.name)))) ∧ Below W.heap.size W w' := by
  obtain ⟨o, cap, rfl⟩ := hP.form
  obtain ⟨_, hcm, hlc, hat⟩ := hP.at
  by_cases h8 : ps.length ≤ 8
  · have HN := Lib.hid (show namedB (ps.map (·.name)) = namedFrom [] (ps.map (·.name)) by unfold namedB; simp [h8])
    have hlm : ps.length ≤ 9223372036854775807 := by omega
    clear hP hcm hlc
    go_enter Tryz.func275, Tryz.ntmps275
    go_wp2
    go_loopw [5, 14] (fun vn i wr => ∃ k : Nat, k ≤ ps.length ∧ i = .int .i64 k ∧ wr.ownsRow W.heap.size 9 1 vn k ((ps.take k).map fun p => .string p.name) ∧ Below W.heap.size W wr ∧
      Hid (namedFrom [] (ps.map (·.name)) = namedFrom ((ps.take k).map (·.name)) ((ps.drop k).map (·.name)))) (fun _ i _ => ps.length - (intOf i).toNat)
    case atStart => exact ⟨0, Nat.zero_le _, rfl, World.ownsRow_nil _ _ _ _, Below.refl _ _, Lib.hid rfl⟩
    case round =>
      obtain ⟨k, hk, rfl, hown, hbw, HF⟩ := hrel
      by_cases hlt : k < ps.length
      · have hpk : ps[k]? = some ps[k] := List.getElem?_eq_getElem hlt
        obtain ⟨b, off, rfl, hcell⟩ := hat k ps[k] hpk
        have hbel : Below W0.heap.size W0 wr := hB0.trans (hbw.mono hB0.size)
        have hhold := Holds.below hbel
        have HP := Lib.hid (show (ps.drop k).map (·.name) = ps[k].name :: (ps.drop (k + 1)).map (·.name) by rw [List.drop_eq_getElem_cons hlt]; rfl)
        have HT := Lib.hid (List.take_succ_eq_append_getElem hlt)
        have hsz := hz ps[k] (List.getElem_mem hlt)
        have hlt' : (k : Int) < ps.length := by omega
        have hbs := hbw.size
        obtain ⟨va, vr, hv, e0, e1, e2, e3, e4⟩ := hcell
        obtain ⟨oa, ca, rfl⟩ := hv.args.form
        obtain ⟨orr, cr, rfl⟩ := hv.raises.form
        have d0 : wr.cell? ⟨b, off + k * 5, none⟩ = some (.string ps[k].name) := hhold _ _ e0
        have d1 : wr.cell? ⟨b, off + k * 5 + 1, none⟩ = some (.slice oa ps[k].args.length ca) := hhold _ _ e1
        have d2 : wr.cell? ⟨b, off + k * 5 + 2, none⟩ = some (.int .i64 ps[k].result) := hhold _ _ e2
        have d3 : wr.cell? ⟨b, off + k * 5 + 3, none⟩ = some (.slice orr ps[k].raises.length cr) := hhold _ _ e3
        have d4 : wr.cell? ⟨b, off + k * 5 + 4, none⟩ = some (.string ps[k].proc) := hhold _ _ e4
        have hnm := isName_any ps[k].name hsz
        clear hat hv e0 e1 e2 e3 e4 hbel hpk hhold hz hsz
        have BL := (hbw.alloc hbs (.cells #[.string ps[k].name, .slice oa ps[k].args.length ca, .int .i64 ps[k].result, .slice orr ps[k].raises.length cr, .string ps[k].proc] 74)).alloc (Nat.le_trans hbs (by simp)) (.cells #[.string ps[k].name, .slice oa ps[k].args.length ca, .int .i64 ps[k].result, .slice orr ps[k].raises.length cr, .string ps[k].proc] 74)
        have RO := (hown.alloc (.cells #[.string ps[k].name, .slice oa ps[k].args.length ca, .int .i64 ps[k].result, .slice orr ps[k].raises.length cr, .string ps[k].proc] 74)).alloc (.cells #[.string ps[k].name, .slice oa ps[k].args.length ca, .int .i64 ps[k].result, .slice orr ps[k].raises.length cr, .string ps[k].proc] 74)
        have hlen : ((ps.take k).map fun p => (Value.string p.name)).length = k := by simp; omega
        have hlen2 : ((ps.take k).map (·.name)).length = k := by simp; omega
        have hmap : ((ps.take k).map fun p => (Value.string p.name)) = ((ps.take k).map (·.name)).map Value.string := by rw [List.map_map]; rfl
        cases hnb : nameB (bs ps[k].name) with
        | false =>
          rw [hnb] at hnm
          have HM := hide hnm
          have HX := Lib.hid (show namedFrom [] (ps.map (·.name)) = false by rw [HF.out, HP.out]; rw [namedFrom_cons, hnb]; rfl)
          clear hnm hnb hown HF HP HT RO hmap hlen hlen2
          go_wp2_with (first | (go_at_call 276; refine (clo276 _).mono ?_; rintro e w4 ⟨rfl, rfl⟩) | (go_at_call 19; refine (unhide HM _).mono ?_; rintro e w4 ⟨rfl, rfl⟩))
          go_ret
          exact ⟨ret_bool (by rw [HN.out, HX.out]), BL⟩
        | true =>
          rw [hnb] at hnm
          have HM := hide hnm
          have HX := Lib.hid (show namedFrom [] (ps.map (·.name)) = (!Lib.containsS ((ps.take k).map (·.name)) ps[k].name && namedFrom ((ps.take k).map (·.name) ++ [ps[k].name]) ((ps.drop (k + 1)).map (·.name))) by
            rw [HF.out, HP.out]; rw [namedFrom_cons, hnb]; rfl)
          have HC : Hide (∀ w', w' = ((wr.alloc (.cells #[.string ps[k].name, .slice oa ps[k].args.length ca, .int .i64 ps[k].result, .slice orr ps[k].raises.length cr, .string ps[k].proc] 74)).alloc (.cells #[.string ps[k].name, .slice oa ps[k].args.length ca, .int .i64 ps[k].result, .slice orr ps[k].raises.length cr, .string ps[k].proc] 74)) → Calls Tryz.prog 281 #[u5, .string ps[k].name] w' fun e w2 => e = .returned (.bool (Lib.containsS ((ps.take k).map (·.name)) ps[k].name)) ∧ w2 = w') := by
            rintro w' rfl
            rcases hown.2 with ⟨rfl, hk0⟩ | ⟨g, cap2, cur, rfl, hg⟩
            · subst hk0
              exact Tryz.slices_Contains_string_empty none 0 _ _
            · have := Tryz.slices_Contains_string g 0 k cap2 ((ps.take k).map (·.name)) ps[k].name ((wr.alloc (.cells #[.string ps[k].name, .slice oa ps[k].args.length ca, .int .i64 ps[k].result, .slice orr ps[k].raises.length cr, .string ps[k].proc] 74)).alloc (.cells #[.string ps[k].name, .slice oa ps[k].args.length ca, .int .i64 ps[k].result, .slice orr ps[k].raises.length cr, .string ps[k].proc] 74)) (by omega) (by omega) (fun j hj => by
                rw [Nat.zero_add, Row1.cells RO j (by omega), hmap]; exact strs_get _ _ hj)
              rwa [List.take_of_length_le (by omega)] at this
          clear hnm hnb HF HP hmap
          generalize hcb : Lib.containsS ((ps.take k).map (·.name)) ps[k].name = cb at HX HC
          clear hcb
          cases cb with
          | true =>
            clear hown RO hlen hlen2 HT
            go_wp2_with (first | (go_at_call 276; refine (clo276 _).mono ?_; rintro e w4 ⟨rfl, rfl⟩) | (go_at_call 19; refine (unhide HM _).mono ?_; rintro e w4 ⟨rfl, rfl⟩) | (go_at_call 281; refine (unhide HC _ rfl).mono ?_; rintro e w4 ⟨rfl, rfl⟩))
            go_ret
            exact ⟨ret_bool (by rw [HN.out, HX.out]; rfl), BL⟩
          | false =>
            have RO2 := RO.alloc (.cells #[.string ps[k].name] 9)
            have BL2 := BL.alloc BL.size (.cells #[.string ps[k].name] 9)
            have HL := Lib.hid hlen
            clear hown RO BL hlen2 hlen
            go_wp2_with (first | (go_at_call 276; refine (clo276 _).mono ?_; rintro e w4 ⟨rfl, rfl⟩) | (go_at_call 19; refine (unhide HM _).mono ?_; rintro e w4 ⟨rfl, rfl⟩) | (go_at_call 281; refine (unhide HC _ rfl).mono ?_; rintro e w4 ⟨rfl, rfl⟩) | (at_builtin; refine app_one _ _ 70 9 (.string ⟨#[]⟩) 16 info9 Tryz.underlying70 rfl (by decide) rfl rfl W.heap.size _ ((ps.take k).map fun p => .string p.name) rfl (by rw [HL.out]; exact RO2) _ (.string ps[k].name) rfl ?c1 rfl (by rw [HL.out]; omega) BL2.size ?_))
            case c1 =>
              have hb := (Blk.new ((wr.alloc (.cells #[.string ps[k].name, .slice oa ps[k].args.length ca, .int .i64 ps[k].result, .slice orr ps[k].raises.length cr, .string ps[k].proc] 74)).alloc (.cells #[.string ps[k].name, .slice oa ps[k].args.length ca, .int .i64 ps[k].result, .slice orr ps[k].raises.length cr, .string ps[k].proc] 74)) [.string ps[k].name] 9).cell 0
              rw [World.size_alloc, World.size_alloc] at hb
              exact hb
            intro g cap2 w5 hown' _ hbl
            have BL3 := hbl _ _ BL2 (Nat.le_refl _)
            clear BL2 RO2 hbl
            go_wp2
            go_roundw
            case rel => exact ⟨k + 1, by omega, by go_num, by rw [HT.out, List.map_append, List.map_take]; exact hown', BL3, Lib.hid (by rw [HX.out, HT.out, List.map_append]; rfl)⟩
            case measure => simp [intOf]; omega
      · obtain rfl : k = ps.length := by omega
        have HX := Lib.hid (show namedFrom [] (ps.map (·.name)) = true by rw [HF.out, List.drop_length]; rfl)
        go_wp2
        go_ret
        exact ⟨ret_bool (by rw [HN.out, HX.out]), hbw⟩
  · have HN := Lib.hid (show namedB (ps.map (·.name)) = false by unfold namedB; simp [h8])
    have h8' : (8 : Int) < ps.length := by omega
    clear hP hat
    go_enter Tryz.func275, Tryz.ntmps275
    go_wp2
    go_ret
    exact ⟨ret_bool (by rw [HN.out]), Below.refl _ _⟩
end Go.Proofs.YteaokkaidcbdlaaGreatDoor
