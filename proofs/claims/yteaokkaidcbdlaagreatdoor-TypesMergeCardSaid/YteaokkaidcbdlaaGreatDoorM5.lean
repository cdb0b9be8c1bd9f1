/- Part 5 of 53: the texts Sg, Me, one behind the other. -/
import Derived.Test.YteaokkaidcbdlaaGreatDoorM3
import Derived.Test.YteaokkaidcbdlaaGreatDoorM4
namespace Go.Proofs.YteaokkaidcbdlaaGreatDoor
open Go Go.RowKit Go.Shelf
theorem set_other (w : World) {b c : Nat} (i : Nat) (v : Value) (hne : b ≠ c) : (w.setCell ⟨c, i, none⟩ v).heap[b]? = w.heap[b]? := by
 show (w.heap.modify c _)[b]? = _
 rw [Array.getElem?_modify, if_neg (by omega)]
structure Own3 (W0 W : World) (gv : Value) (bc bt sb mb : Nat) (X : Option Obj) (f : Bool) (cs ss : List Value) : Prop extends Own2 W0 W gv bc bt f cs where
 s : Blk W sb ss 72
 hs : W0.heap.size ≤ sb
 nc : sb ≠ bc
 nt : sb ≠ bt
 xm : W.heap[mb]? = X
 xc : mb ≠ bc
theorem Own3.setC {W0 W : World} {gv : Value} {bc bt sb mb : Nat} {X : Option Obj} {f : Bool} {cs ss : List Value} (h : Own3 W0 W gv bc bt sb mb X f cs ss) (g : Bool) : Own3 W0 (W.setCell ⟨bc, 1, none⟩ (.bool g)) gv bc bt sb mb X g cs ss :=
 { h.toOwn2.setC g with s := h.s.other _ _ h.nc, hs := h.hs, nc := h.nc, nt := h.nt, xm := (set_other W _ _ h.xc).trans h.xm, xc := h.xc }
theorem Own3.drewN {W0 W : World} {gv : Value} {bc bt sb mb : Nat} {X : Option Obj} {f : Bool} {cs ss : List Value} (h : Own3 W0 W gv bc bt sb mb X f cs ss) (n : Nat) : Own3 W0 (W.drewN n) gv bc bt sb mb X f cs ss :=
 { h.toOwn2.drewN n with s := h.s, hs := h.hs, nc := h.nc, nt := h.nt, xm := h.xm, xc := h.xc }
theorem Own3.new {W0 W : World} {gv : Value} {bc bt mb : Nat} {f : Bool} {cs : List Value} (h : Own2 W0 W gv bc bt f cs) (hm : mb < W.heap.size) (hc : mb ≠ bc) (ss : List Value) : Own3 W0 (W.alloc (.cells ss.toArray 72)) gv bc bt W.heap.size mb W.heap[mb]? f cs ss :=
 { h.alloc _ with s := Blk.new W ss 72, hs := h.bel.size, nc := Nat.ne_of_gt h.c.lt, nt := Nat.ne_of_gt h.t.lt, xm := Below.heap_alloc _ _ _ hm, xc := hc }
theorem need3 {W0 W : World} {gv : Value} {bc bt sb mb : Nat} {X : Option Obj} {f : Bool} {cs ss : List Value} (h : Own3 W0 W gv bc bt sb mb X f cs ss) (x : Bool) :
    Calls Tryz.prog 271 #[.pointer (some ⟨bc, 0, none⟩), .bool x] W fun e w' => e = .returned (.tuple #[]) ∧ Own3 W0 w' gv bc bt sb mb X (f && x) cs ss :=
  (need_any bc gv f x W h.c).mono fun _ _ ⟨he, hw⟩ => ⟨he, hw ▸ h.setC _⟩
theorem index3 {W0 W : World} {o : Option Addr} {n cap : Nat} {bc bt sb mb : Nat} {X : Option Obj} {f : Bool} {cs ss : List Value} (h : Own3 W0 W (.slice o n cap) bc bt sb mb X f cs ss) (i : Int) :
    Calls Tryz.prog 265 #[.pointer (some ⟨bc, 0, none⟩), .int .i64 i] W fun e w' => e = .returned (.tuple #[]) ∧ Own3 W0 w' (.slice o n cap) bc bt sb mb X (f && idxB n i) cs ss := by
  have c0 : W.cell? ⟨bc, 0, none⟩ = some (.slice o n cap) := h.c.cell 0
  go_enter Tryz.func265, Tryz.ntmps265
  go_wp2_with (first | (go_at_call 99; refine (isIndex_any _ _ _ _ _).mono ?_; rintro e w1 ⟨rfl, rfl⟩) | (go_at_call 271; refine (need3 h _).mono ?_; rintro e w1 ⟨rfl, h1⟩))
  go_end0
  exact ⟨rfl, h1⟩
def ltS (a b : ByteArray) : Bool := Op.bytesLess a.toList b.toList
def raisesAt (l : List ByteArray) (k : Nat) : Bool := match l[k]? with
 | none => true
 | some r => excB (bs r) && (decide (k = 0) || match l[k - 1]? with | none => true | some q => ltS q r)
def sigB (n : Nat) (m : MethD) : Bool :=
 (decide (m.args.length ≤ 6) && decide (m.raises.length ≤ 6)) && (m.args.all (idxB n) && ((decide (m.result = -1) || idxB n m.result) && (List.range m.raises.length).all (raisesAt m.raises)))
theorem range_all (p : Nat → Bool) (k : Nat) : (List.range (k + 1)).all p = ((List.range k).all p && p k) := by rw [List.range_succ, List.all_append]; simp
set_option maxRecDepth 100000 in
set_option maxHeartbeats 4000000 in
theorem sig_any {W0 W : World} {o : Option Addr} {n cap : Nat} {bc bt mb : Nat} (hmb : mb < W.heap.size) (hmc : mb ≠ bc) {f : Bool} {cs : List Value} {m : MethD} {va vr : Value} (hl : MethV W0 va vr m) (hz : ∀ r ∈ m.raises, r.size ≤ maxLen) (h : Own2 W0 W (.slice o n cap) bc bt f cs) :
    Calls Tryz.prog 277 #[.pointer (some ⟨bc, 0, none⟩), .agg #[va, .int .i64 m.result, vr]] W fun e w' => e = .returned (.tuple #[]) ∧
     Own2 W0 w' (.slice o n cap) bc bt (f && sigB n m) cs ∧ w'.heap[mb]? = W.heap[mb]? := by
  obtain ⟨oa, ca, rfl⟩ := hl.args.form
  obtain ⟨orr, cr, rfl⟩ := hl.raises.form
  obtain ⟨_, hma, hla, hata⟩ := hl.args.at
  obtain ⟨_, hmr, hlr, hatr⟩ := hl.raises.at
  have ha63 : m.args.length ≤ 9223372036854775807 := by unfold maxLen at hma; omega
  have hr63 : m.raises.length ≤ 9223372036854775807 := by unfold maxLen at hmr; omega
  have h3 := Own3.new h hmb hmc [.slice oa m.args.length ca, .int .i64 m.result, .slice orr m.raises.length cr]
  obtain ⟨A, hA⟩ : ∃ A, m.args.length = A := ⟨_, rfl⟩
  obtain ⟨R, hR⟩ : ∃ R, m.raises.length = R := ⟨_, rfl⟩
  obtain ⟨V, hV⟩ : ∃ V, m.result = V := ⟨_, rfl⟩
  obtain ⟨x, HB, hx⟩ : ∃ x, Hid (sigB n m = (x && (m.args.all (idxB n) && ((decide (V = -1) || idxB n V) && (List.range R).all (raisesAt m.raises))))) ∧
      ((x = false ∧ (6 : Int) < A ∧ decide ((A : Int) ≤ 6) = false) ∨ (x = decide ((R : Int) ≤ 6) ∧ (A : Int) ≤ 6)) := by
    refine ⟨(decide (m.args.length ≤ 6) && decide (m.raises.length ≤ 6)), Lib.hid (by unfold sigB; rw [hV, hR]), ?_⟩
    by_cases h1 : m.args.length ≤ 6
    ·refine .inr ⟨?_, by omega⟩
     rw [hR]
     have : ((R : Int) ≤ 6) = (R ≤ 6) := by simp; omega
     simp only [this]; simp [h1]
    ·exact .inl ⟨by simp [h1], by omega, decide_eq_false (by omega)⟩
  rw [hA, hR, hV] at h3
  rw [hA] at hl ha63
  rw [hR] at hr63
  rw [hA, hR, hV]
  have HA := Lib.hid hA
  have HR := Lib.hid hR
  generalize hsb : W.heap.size = sb at h3
  generalize hX : W.heap[mb]? = X at h3 ⊢
  clear hX
  clear hA hR hV hl hma hla hmr hlr
  rcases hx with ⟨rfl, hx1, hx2⟩ | ⟨hx1, hx2⟩
  ·go_enter Tryz.func277, Tryz.ntmps277
   go_wp2_with (first | (go_at_call 271; refine (need3 h3 _).mono ?_; clear h3 h; rintro e w2 ⟨rfl, h4⟩; have d0 : w2.cell? ⟨sb, 0, none⟩ = some (.slice oa A ca) := h4.s.cell 0))
   go_loopw [23] (fun i wr => ∃ k : Nat, k ≤ A ∧ i = .int .i64 k ∧ Own3 W0 wr (.slice o n cap) bc bt sb mb X ((f && false) && (m.args.take k).all (idxB n)) cs [.slice oa A ca, .int .i64 V, .slice orr R cr]) (fun i _ => A - (intOf i).toNat)
   case atStart => exact ⟨0, Nat.zero_le _, rfl, by simpa using h4⟩
   case round =>
    obtain ⟨k, hk, rfl, h5⟩ := hrel
    by_cases hlt : k < A
    ·have hltp : k < m.args.length := by rw [HA.out]; exact hlt
     obtain ⟨b, off, rfl, e0⟩ := hata k m.args[k] (List.getElem?_eq_getElem hltp)
     have r0 : wr.cell? ⟨b, off + k, none⟩ = some (.int .i64 m.args[k]) := by have := Holds.below h5.bel _ _ e0; simpa using this
     have HA2 := Lib.hid (all_take (idxB n) m.args k hltp)
     have hlt' : (k : Int) < A := by omega
     generalize m.args[k] = q at r0 HA2
     clear hata e0
     go_wp2_with (first | (go_at_call 265; refine (index3 h5 _).mono ?_; clear h5 r0; rintro e w5 ⟨rfl, h6⟩))
     go_roundw
     case rel => exact ⟨k + 1, by omega, by go_num, by rw [HA2.out, ← Bool.and_assoc]; exact h6⟩
     case measure => simp [intOf]; omega
    ·obtain rfl : k = A := by omega
     have HA2 := Lib.hid (show (m.args.take k).all (idxB n) = m.args.all (idxB n) by rw [List.take_of_length_le (by rw [HA.out]; exact Nat.le_refl _)])
     rw [HA2.out] at h5
     have d1 : wr.cell? ⟨sb, 1, none⟩ = some (.int .i64 V) := h5.s.cell 1
     have d2 : wr.cell? ⟨sb, 2, none⟩ = some (.slice orr R cr) := h5.s.cell 2
     clear hata
     generalize m.args.all (idxB n) = ab at h5 HB
     by_cases hv : V = -1
     ·subst hv
      go_wp2
      go_loopw [41] (fun i wr => ∃ kk : Nat, kk ≤ R ∧ i = .int .i64 kk ∧ Own3 W0 wr (.slice o n cap) bc bt sb mb X (((f && false) && ab) && (List.range kk).all (raisesAt m.raises)) cs [.slice oa k ca, .int .i64 (-1), .slice orr R cr]) (fun i _ => R - (intOf i).toNat)
      case atStart => exact ⟨0, Nat.zero_le _, rfl, by simpa using h5⟩
      case round =>
       obtain ⟨kk, hk, rfl, h7⟩ := hrel
       by_cases hlt : kk < R
       ·have hltp : kk < m.raises.length := by rw [HR.out]; exact hlt
        obtain ⟨b, off, rfl, e0⟩ := hatr kk m.raises[kk] (List.getElem?_eq_getElem hltp)
        have r0 : wr.cell? ⟨b, off + kk, none⟩ = some (.string m.raises[kk]) := by have := Holds.below h7.bel _ _ e0; simpa using this
        have r2 : wr.cell? ⟨sb, 2, none⟩ = some (.slice (some ⟨b, off, none⟩) R cr) := h7.s.cell 2
        have hlt' : (kk : Int) < R := by omega
        have hze := isException_any m.raises[kk] (hz _ (List.getElem_mem hltp))
        have hgk : m.raises[kk]? = some m.raises[kk] := List.getElem?_eq_getElem hltp
        cases hex : excB (bs m.raises[kk]) with
        | false =>
          rw [hex] at hze
          have HZ := hide hze
          have HA2 := Lib.hid (show (List.range (kk + 1)).all (raisesAt m.raises) = ((List.range kk).all (raisesAt m.raises) && false) by rw [range_all]; unfold raisesAt; rw [hgk]; simp only [hex, Bool.false_and])
          clear hze hex hgk hatr e0
          go_wp2_with (first | (go_at_call 282; refine (unhide HZ _).mono ?_; rintro e w5 ⟨rfl, nq, rfl⟩) | (go_at_call 271; refine (need3 (h7.drewN nq) _).mono ?_; clear h7 r0 r2; rintro e w5 ⟨rfl, h8⟩))
          go_roundw
          case rel => exact ⟨kk + 1, by omega, by go_num, by rw [HA2.out, ← Bool.and_assoc]; exact h8⟩
          case measure => simp [intOf]; omega
        | true =>
          rw [hex] at hze
          have HZ := hide hze
          rcases (show kk = 0 ∨ ∃ j, kk = j + 1 from by cases kk; exact .inl rfl; exact .inr ⟨_, rfl⟩) with rfl | ⟨j, rfl⟩
          ·have HA2 := Lib.hid (show (List.range (0 + 1)).all (raisesAt m.raises) = ((List.range 0).all (raisesAt m.raises) && true) by rw [range_all]; unfold raisesAt; rw [hgk]; simp [hex])
           have r3 : wr.cell? ⟨b, off, none⟩ = some (.string m.raises[0]) := r0
           clear hze hex hgk hatr e0
           go_wp2_with (first | (go_at_call 282; refine (unhide HZ _).mono ?_; rintro e w5 ⟨rfl, nq, rfl⟩) | (go_at_call 271; refine (need3 (h7.drewN nq) _).mono ?_; clear h7 r0 r2; rintro e w5 ⟨rfl, h8⟩))
           go_roundw
           case rel => exact ⟨0 + 1, by omega, by go_num, by rw [HA2.out, ← Bool.and_assoc]; exact h8⟩
           case measure => simp [intOf]; omega
          ·have hltj : j < m.raises.length := by omega
           have hgj : m.raises[j]? = some m.raises[j] := List.getElem?_eq_getElem hltj
           obtain ⟨b', off', hq, e1⟩ := hatr j m.raises[j] hgj
           cases hq
           have r1 : wr.cell? ⟨b, off + j, none⟩ = some (.string m.raises[j]) := by have := Holds.below h7.bel _ _ e1; simpa using this
           have HA2 := Lib.hid (show (List.range (j + 1 + 1)).all (raisesAt m.raises) = ((List.range (j + 1)).all (raisesAt m.raises) && ltS m.raises[j] m.raises[j + 1]) by rw [range_all (raisesAt m.raises) (j + 1)]; unfold raisesAt; rw [hgk, show j + 1 - 1 = j from rfl, hgj]; simp [hex])
           have hjR : (j : Int) < R := by omega
           have hj0 : (((j : Int) + 1) == 0) = false := by simp; omega
           clear hze hex hgk hatr e0 e1 hgj
           go_wp2_with (first | (go_at_call 282; refine (unhide HZ _).mono ?_; rintro e w5 ⟨rfl, nq, rfl⟩) | (go_at_call 271; refine (need3 (h7.drewN nq) _).mono ?_; clear h7 r0 r2 r1; rintro e w5 ⟨rfl, h8⟩))
           go_roundw
           case rel => exact ⟨j + 1 + 1, by omega, by go_num, by rw [HA2.out, ← Bool.and_assoc]; exact h8⟩
           case measure => simp [intOf]; omega
       ·obtain rfl : kk = R := by omega
        clear hatr
        go_wp2
        go_end0
        exact ⟨rfl, by rw [HB.out]; simp only [decide_true, Bool.true_or, Bool.true_and, ← Bool.and_assoc]; exact h7.toOwn2, h7.xm⟩
     ·have hne : (V != -1) = true := by simpa using hv
      have hdv : decide (V = -1) = false := decide_eq_false hv
      go_wp2_with (first | (go_at_call 265; refine (index3 h5 _).mono ?_; clear h5 d1 d2; rintro e w6 ⟨rfl, h6⟩; have d2 : w6.cell? ⟨sb, 2, none⟩ = some (.slice orr R cr) := h6.s.cell 2))
      go_loopw [41] (fun i wr => ∃ kk : Nat, kk ≤ R ∧ i = .int .i64 kk ∧ Own3 W0 wr (.slice o n cap) bc bt sb mb X ((((f && false) && ab) && idxB n V) && (List.range kk).all (raisesAt m.raises)) cs [.slice oa k ca, .int .i64 V, .slice orr R cr]) (fun i _ => R - (intOf i).toNat)
      case atStart => exact ⟨0, Nat.zero_le _, rfl, by simpa using h6⟩
      case round =>
       obtain ⟨kk, hk, rfl, h7⟩ := hrel
       by_cases hlt : kk < R
       ·have hltp : kk < m.raises.length := by rw [HR.out]; exact hlt
        obtain ⟨b, off, rfl, e0⟩ := hatr kk m.raises[kk] (List.getElem?_eq_getElem hltp)
        have r0 : wr.cell? ⟨b, off + kk, none⟩ = some (.string m.raises[kk]) := by have := Holds.below h7.bel _ _ e0; simpa using this
        have r2 : wr.cell? ⟨sb, 2, none⟩ = some (.slice (some ⟨b, off, none⟩) R cr) := h7.s.cell 2
        have hlt' : (kk : Int) < R := by omega
        have hze := isException_any m.raises[kk] (hz _ (List.getElem_mem hltp))
        have hgk : m.raises[kk]? = some m.raises[kk] := List.getElem?_eq_getElem hltp
        cases hex : excB (bs m.raises[kk]) with
        | false =>
          rw [hex] at hze
          have HZ := hide hze
          have HA2 := Lib.hid (show (List.range (kk + 1)).all (raisesAt m.raises) = ((List.range kk).all (raisesAt m.raises) && false) by rw [range_all]; unfold raisesAt; rw [hgk]; simp only [hex, Bool.false_and])
          clear hze hex hgk hatr e0
          go_wp2_with (first | (go_at_call 282; refine (unhide HZ _).mono ?_; rintro e w5 ⟨rfl, nq, rfl⟩) | (go_at_call 271; refine (need3 (h7.drewN nq) _).mono ?_; clear h7 r0 r2; rintro e w5 ⟨rfl, h8⟩))
          go_roundw
          case rel => exact ⟨kk + 1, by omega, by go_num, by rw [HA2.out, ← Bool.and_assoc]; exact h8⟩
          case measure => simp [intOf]; omega
        | true =>
          rw [hex] at hze
          have HZ := hide hze
          rcases (show kk = 0 ∨ ∃ j, kk = j + 1 from by cases kk; exact .inl rfl; exact .inr ⟨_, rfl⟩) with rfl | ⟨j, rfl⟩
          ·have HA2 := Lib.hid (show (List.range (0 + 1)).all (raisesAt m.raises) = ((List.range 0).all (raisesAt m.raises) && true) by rw [range_all]; unfold raisesAt; rw [hgk]; simp [hex])
           have r3 : wr.cell? ⟨b, off, none⟩ = some (.string m.raises[0]) := r0
           clear hze hex hgk hatr e0
           go_wp2_with (first | (go_at_call 282; refine (unhide HZ _).mono ?_; rintro e w5 ⟨rfl, nq, rfl⟩) | (go_at_call 271; refine (need3 (h7.drewN nq) _).mono ?_; clear h7 r0 r2; rintro e w5 ⟨rfl, h8⟩))
           go_roundw
           case rel => exact ⟨0 + 1, by omega, by go_num, by rw [HA2.out, ← Bool.and_assoc]; exact h8⟩
           case measure => simp [intOf]; omega
          ·have hltj : j < m.raises.length := by omega
           have hgj : m.raises[j]? = some m.raises[j] := List.getElem?_eq_getElem hltj
           obtain ⟨b', off', hq, e1⟩ := hatr j m.raises[j] hgj
           cases hq
           have r1 : wr.cell? ⟨b, off + j, none⟩ = some (.string m.raises[j]) := by have := Holds.below h7.bel _ _ e1; simpa using this
           have HA2 := Lib.hid (show (List.range (j + 1 + 1)).all (raisesAt m.raises) = ((List.range (j + 1)).all (raisesAt m.raises) && ltS m.raises[j] m.raises[j + 1]) by rw [range_all (raisesAt m.raises) (j + 1)]; unfold raisesAt; rw [hgk, show j + 1 - 1 = j from rfl, hgj]; simp [hex])
           have hjR : (j : Int) < R := by omega
           have hj0 : (((j : Int) + 1) == 0) = false := by simp; omega
           clear hze hex hgk hatr e0 e1 hgj
           go_wp2_with (first | (go_at_call 282; refine (unhide HZ _).mono ?_; rintro e w5 ⟨rfl, nq, rfl⟩) | (go_at_call 271; refine (need3 (h7.drewN nq) _).mono ?_; clear h7 r0 r2 r1; rintro e w5 ⟨rfl, h8⟩))
           go_roundw
           case rel => exact ⟨j + 1 + 1, by omega, by go_num, by rw [HA2.out, ← Bool.and_assoc]; exact h8⟩
           case measure => simp [intOf]; omega
       ·obtain rfl : kk = R := by omega
        clear hatr
        go_wp2
        go_end0
        exact ⟨rfl, by rw [HB.out]; rw [hdv, Bool.false_or, ← Bool.and_assoc, ← Bool.and_assoc, ← Bool.and_assoc]; exact h7.toOwn2, h7.xm⟩
  ·go_enter Tryz.func277, Tryz.ntmps277
   go_wp2_with (first | (go_at_call 271; refine (need3 h3 _).mono ?_; clear h3 h; rintro e w2 ⟨rfl, h4⟩; have d0 : w2.cell? ⟨sb, 0, none⟩ = some (.slice oa A ca) := h4.s.cell 0))
   go_loopw [23] (fun i wr => ∃ k : Nat, k ≤ A ∧ i = .int .i64 k ∧ Own3 W0 wr (.slice o n cap) bc bt sb mb X ((f && x) && (m.args.take k).all (idxB n)) cs [.slice oa A ca, .int .i64 V, .slice orr R cr]) (fun i _ => A - (intOf i).toNat)
   case atStart => exact ⟨0, Nat.zero_le _, rfl, by rw [hx1]; simpa using h4⟩
   case round =>
    obtain ⟨k, hk, rfl, h5⟩ := hrel
    by_cases hlt : k < A
    ·have hltp : k < m.args.length := by rw [HA.out]; exact hlt
     obtain ⟨b, off, rfl, e0⟩ := hata k m.args[k] (List.getElem?_eq_getElem hltp)
     have r0 : wr.cell? ⟨b, off + k, none⟩ = some (.int .i64 m.args[k]) := by have := Holds.below h5.bel _ _ e0; simpa using this
     have HA2 := Lib.hid (all_take (idxB n) m.args k hltp)
     have hlt' : (k : Int) < A := by omega
     generalize m.args[k] = q at r0 HA2
     clear hata e0
     go_wp2_with (first | (go_at_call 265; refine (index3 h5 _).mono ?_; clear h5 r0; rintro e w5 ⟨rfl, h6⟩))
     go_roundw
     case rel => exact ⟨k + 1, by omega, by go_num, by rw [HA2.out, ← Bool.and_assoc]; exact h6⟩
     case measure => simp [intOf]; omega
    ·obtain rfl : k = A := by omega
     have HA2 := Lib.hid (show (m.args.take k).all (idxB n) = m.args.all (idxB n) by rw [List.take_of_length_le (by rw [HA.out]; exact Nat.le_refl _)])
     rw [HA2.out] at h5
     have d1 : wr.cell? ⟨sb, 1, none⟩ = some (.int .i64 V) := h5.s.cell 1
     have d2 : wr.cell? ⟨sb, 2, none⟩ = some (.slice orr R cr) := h5.s.cell 2
     clear hata
     generalize m.args.all (idxB n) = ab at h5 HB
     by_cases hv : V = -1
     ·subst hv
      go_wp2
      go_loopw [41] (fun i wr => ∃ kk : Nat, kk ≤ R ∧ i = .int .i64 kk ∧ Own3 W0 wr (.slice o n cap) bc bt sb mb X (((f && x) && ab) && (List.range kk).all (raisesAt m.raises)) cs [.slice oa k ca, .int .i64 (-1), .slice orr R cr]) (fun i _ => R - (intOf i).toNat)
      case atStart => exact ⟨0, Nat.zero_le _, rfl, by simpa using h5⟩
      case round =>
       obtain ⟨kk, hk, rfl, h7⟩ := hrel
       by_cases hlt : kk < R
       ·have hltp : kk < m.raises.length := by rw [HR.out]; exact hlt
        obtain ⟨b, off, rfl, e0⟩ := hatr kk m.raises[kk] (List.getElem?_eq_getElem hltp)
        have r0 : wr.cell? ⟨b, off + kk, none⟩ = some (.string m.raises[kk]) := by have := Holds.below h7.bel _ _ e0; simpa using this
        have r2 : wr.cell? ⟨sb, 2, none⟩ = some (.slice (some ⟨b, off, none⟩) R cr) := h7.s.cell 2
        have hlt' : (kk : Int) < R := by omega
        have hze := isException_any m.raises[kk] (hz _ (List.getElem_mem hltp))
        have hgk : m.raises[kk]? = some m.raises[kk] := List.getElem?_eq_getElem hltp
        cases hex : excB (bs m.raises[kk]) with
        | false =>
          rw [hex] at hze
          have HZ := hide hze
          have HA2 := Lib.hid (show (List.range (kk + 1)).all (raisesAt m.raises) = ((List.range kk).all (raisesAt m.raises) && false) by rw [range_all]; unfold raisesAt; rw [hgk]; simp only [hex, Bool.false_and])
          clear hze hex hgk hatr e0
          go_wp2_with (first | (go_at_call 282; refine (unhide HZ _).mono ?_; rintro e w5 ⟨rfl, nq, rfl⟩) | (go_at_call 271; refine (need3 (h7.drewN nq) _).mono ?_; clear h7 r0 r2; rintro e w5 ⟨rfl, h8⟩))
          go_roundw
          case rel => exact ⟨kk + 1, by omega, by go_num, by rw [HA2.out, ← Bool.and_assoc]; exact h8⟩
          case measure => simp [intOf]; omega
        | true =>
          rw [hex] at hze
          have HZ := hide hze
          rcases (show kk = 0 ∨ ∃ j, kk = j + 1 from by cases kk; exact .inl rfl; exact .inr ⟨_, rfl⟩) with rfl | ⟨j, rfl⟩
          ·have HA2 := Lib.hid (show (List.range (0 + 1)).all (raisesAt m.raises) = ((List.range 0).all (raisesAt m.raises) && true) by rw [range_all]; unfold raisesAt; rw [hgk]; simp [hex])
           have r3 : wr.cell? ⟨b, off, none⟩ = some (.string m.raises[0]) := r0
           clear hze hex hgk hatr e0
           go_wp2_with (first | (go_at_call 282; refine (unhide HZ _).mono ?_; rintro e w5 ⟨rfl, nq, rfl⟩) | (go_at_call 271; refine (need3 (h7.drewN nq) _).mono ?_; clear h7 r0 r2; rintro e w5 ⟨rfl, h8⟩))
           go_roundw
           case rel => exact ⟨0 + 1, by omega, by go_num, by rw [HA2.out, ← Bool.and_assoc]; exact h8⟩
           case measure => simp [intOf]; omega
          ·have hltj : j < m.raises.length := by omega
           have hgj : m.raises[j]? = some m.raises[j] := List.getElem?_eq_getElem hltj
           obtain ⟨b', off', hq, e1⟩ := hatr j m.raises[j] hgj
           cases hq
           have r1 : wr.cell? ⟨b, off + j, none⟩ = some (.string m.raises[j]) := by have := Holds.below h7.bel _ _ e1; simpa using this
           have HA2 := Lib.hid (show (List.range (j + 1 + 1)).all (raisesAt m.raises) = ((List.range (j + 1)).all (raisesAt m.raises) && ltS m.raises[j] m.raises[j + 1]) by rw [range_all (raisesAt m.raises) (j + 1)]; unfold raisesAt; rw [hgk, show j + 1 - 1 = j from rfl, hgj]; simp [hex])
           have hjR : (j : Int) < R := by omega
           have hj0 : (((j : Int) + 1) == 0) = false := by simp; omega
           clear hze hex hgk hatr e0 e1 hgj
           go_wp2_with (first | (go_at_call 282; refine (unhide HZ _).mono ?_; rintro e w5 ⟨rfl, nq, rfl⟩) | (go_at_call 271; refine (need3 (h7.drewN nq) _).mono ?_; clear h7 r0 r2 r1; rintro e w5 ⟨rfl, h8⟩))
           go_roundw
           case rel => exact ⟨j + 1 + 1, by omega, by go_num, by rw [HA2.out, ← Bool.and_assoc]; exact h8⟩
           case measure => simp [intOf]; omega
       ·obtain rfl : kk = R := by omega
        clear hatr
        go_wp2
        go_end0
        exact ⟨rfl, by rw [HB.out]; simp only [decide_true, Bool.true_or, Bool.true_and, ← Bool.and_assoc]; exact h7.toOwn2, h7.xm⟩
     ·have hne : (V != -1) = true := by simpa using hv
      have hdv : decide (V = -1) = false := decide_eq_false hv
      go_wp2_with (first | (go_at_call 265; refine (index3 h5 _).mono ?_; clear h5 d1 d2; rintro e w6 ⟨rfl, h6⟩; have d2 : w6.cell? ⟨sb, 2, none⟩ = some (.slice orr R cr) := h6.s.cell 2))
      go_loopw [41] (fun i wr => ∃ kk : Nat, kk ≤ R ∧ i = .int .i64 kk ∧ Own3 W0 wr (.slice o n cap) bc bt sb mb X ((((f && x) && ab) && idxB n V) && (List.range kk).all (raisesAt m.raises)) cs [.slice oa k ca, .int .i64 V, .slice orr R cr]) (fun i _ => R - (intOf i).toNat)
      case atStart => exact ⟨0, Nat.zero_le _, rfl, by simpa using h6⟩
      case round =>
       obtain ⟨kk, hk, rfl, h7⟩ := hrel
       by_cases hlt : kk < R
       ·have hltp : kk < m.raises.length := by rw [HR.out]; exact hlt
        obtain ⟨b, off, rfl, e0⟩ := hatr kk m.raises[kk] (List.getElem?_eq_getElem hltp)
        have r0 : wr.cell? ⟨b, off + kk, none⟩ = some (.string m.raises[kk]) := by have := Holds.below h7.bel _ _ e0; simpa using this
        have r2 : wr.cell? ⟨sb, 2, none⟩ = some (.slice (some ⟨b, off, none⟩) R cr) := h7.s.cell 2
        have hlt' : (kk : Int) < R := by omega
        have hze := isException_any m.raises[kk] (hz _ (List.getElem_mem hltp))
        have hgk : m.raises[kk]? = some m.raises[kk] := List.getElem?_eq_getElem hltp
        cases hex : excB (bs m.raises[kk]) with
        | false =>
          rw [hex] at hze
          have HZ := hide hze
          have HA2 := Lib.hid (show (List.range (kk + 1)).all (raisesAt m.raises) = ((List.range kk).all (raisesAt m.raises) && false) by rw [range_all]; unfold raisesAt; rw [hgk]; simp only [hex, Bool.false_and])
          clear hze hex hgk hatr e0
          go_wp2_with (first | (go_at_call 282; refine (unhide HZ _).mono ?_; rintro e w5 ⟨rfl, nq, rfl⟩) | (go_at_call 271; refine (need3 (h7.drewN nq) _).mono ?_; clear h7 r0 r2; rintro e w5 ⟨rfl, h8⟩))
          go_roundw
          case rel => exact ⟨kk + 1, by omega, by go_num, by rw [HA2.out, ← Bool.and_assoc]; exact h8⟩
          case measure => simp [intOf]; omega
        | true =>
          rw [hex] at hze
          have HZ := hide hze
          rcases (show kk = 0 ∨ ∃ j, kk = j + 1 from by cases kk; exact .inl rfl; exact .inr ⟨_, rfl⟩) with rfl | ⟨j, rfl⟩
          ·have HA2 := Lib.hid (show (List.range (0 + 1)).all (raisesAt m.raises) = ((List.range 0).all (raisesAt m.raises) && true) by rw [range_all]; unfold raisesAt; rw [hgk]; simp [hex])
           have r3 : wr.cell? ⟨b, off, none⟩ = some (.string m.raises[0]) := r0
           clear hze hex hgk hatr e0
           go_wp2_with (first | (go_at_call 282; refine (unhide HZ _).mono ?_; rintro e w5 ⟨rfl, nq, rfl⟩) | (go_at_call 271; refine (need3 (h7.drewN nq) _).mono ?_; clear h7 r0 r2; rintro e w5 ⟨rfl, h8⟩))
           go_roundw
           case rel => exact ⟨0 + 1, by omega, by go_num, by rw [HA2.out, ← Bool.and_assoc]; exact h8⟩
           case measure => simp [intOf]; omega
          ·have hltj : j < m.raises.length := by omega
           have hgj : m.raises[j]? = some m.raises[j] := List.getElem?_eq_getElem hltj
           obtain ⟨b', off', hq, e1⟩ := hatr j m.raises[j] hgj
           cases hq
           have r1 : wr.cell? ⟨b, off + j, none⟩ = some (.string m.raises[j]) := by have := Holds.below h7.bel _ _ e1; simpa using this
           have HA2 := Lib.hid (show (List.range (j + 1 + 1)).all (raisesAt m.raises) = ((List.range (j + 1)).all (raisesAt m.raises) && ltS m.raises[j] m.raises[j + 1]) by rw [range_all (raisesAt m.raises) (j + 1)]; unfold raisesAt; rw [hgk, show j + 1 - 1 = j from rfl, hgj]; simp [hex])
           have hjR : (j : Int) < R := by omega
           have hj0 : (((j : Int) + 1) == 0) = false := by simp; omega
           clear hze hex hgk hatr e0 e1 hgj
           go_wp2_with (first | (go_at_call 282; refine (unhide HZ _).mono ?_; rintro e w5 ⟨rfl, nq, rfl⟩) | (go_at_call 271; refine (need3 (h7.drewN nq) _).mono ?_; clear h7 r0 r2 r1; rintro e w5 ⟨rfl, h8⟩))
           go_roundw
           case rel => exact ⟨j + 1 + 1, by omega, by go_num, by rw [HA2.out, ← Bool.and_assoc]; exact h8⟩
           case measure => simp [intOf]; omega
       ·obtain rfl : kk = R := by omega
        clear hatr
        go_wp2
        go_end0
        exact ⟨rfl, by rw [HB.out]; rw [hdv, Bool.false_or, ← Bool.and_assoc, ← Bool.and_assoc, ← Bool.and_assoc]; exact h7.toOwn2, h7.xm⟩
def methB (n : Nat) (m : MethD) : Bool := sigB n m && ((bs m.proc).isEmpty || symB (bs m.proc))
def methsB (n : Nat) (t : TyD) : Bool := namedB (t.meths.map (·.name)) && t.meths.all (methB n)
end Go.Proofs.YteaokkaidcbdlaaGreatDoor

namespace Go.Proofs.YteaokkaidcbdlaaGreatDoor
open Go Go.RowKit Go.Shelf
set_option maxRecDepth 100000 in
set_option maxHeartbeats 4000000 in
theorem methods_any {W0 W : World} {o : Option Addr} {n cap : Nat} {bc bt : Nat} {f : Bool} {t : TyD} {vp vm vo : Value} (hl : TyL W0 vp vm vo t)
    (hz : ∀ p ∈ t.meths, p.name.size ≤ maxLen ∧ p.proc.size ≤ maxLen ∧ ∀ r ∈ p.raises, r.size ≤ maxLen) (h : Own2 W0 W (.slice o n cap) bc bt f (tyC t vp vm vo)) :
    Calls Tryz.prog 266 #[.pointer (some ⟨bc, 0, none⟩), .pointer (some ⟨bt, 0, none⟩)] W fun e w' => e = .returned (.tuple #[]) ∧
     Own2 W0 w' (.slice o n cap) bc bt (f && methsB n t) (tyC t vp (.slice none 0 0) vo) := by
  have hP0 := hl.meths
  obtain ⟨op, cp, rfl⟩ := hP0.form
  obtain ⟨_, hm, hlc, hat⟩ := hP0.at
  have t8 : W.cell? ⟨bt, 8, none⟩ = some (.slice op t.meths.length cp) := h.t.cell 8
  have hlm : t.meths.length ≤ 9223372036854775807 := by unfold maxLen at hm; omega
  have HNM := hide (namedM_any _ t.meths W0 hP0 (fun p hp => (hz p hp).1))
  obtain ⟨N, hN⟩ : ∃ N, t.meths.length = N := ⟨_, rfl⟩
  have HB := Lib.hid (show methsB n t = (namedB (t.meths.map (·.name)) && t.meths.all (methB n)) from rfl)
  rw [hN] at t8 HNM hlm h
  clear hl hP0 hm hlc
  generalize namedB (t.meths.map (·.name)) = nb at HB HNM
  have HN := Lib.hid hN
  clear hN
  go_enter Tryz.func266, Tryz.ntmps266
  go_wp2_with (first | (go_at_call 275; refine (unhide HNM _ h.bel).mono ?_; rintro e w2 ⟨rfl, hb2⟩; have h2 := h.below hb2; clear h t8 hb2) | (go_at_call 271; refine (need_own h2 _).mono ?_; clear h2; rintro e w3 ⟨rfl, h3⟩; have c8 : w3.cell? ⟨bt, 8, none⟩ = some (.slice op N cp) := h3.t.cell 8))
  go_loopw [5, 18] (fun u i wr => ∃ k : Nat, k ≤ N ∧ i = .int .i64 k ∧ Own2 W0 wr (.slice o n cap) bc bt ((f && nb) && (t.meths.take k).all (methB n)) (tyC t vp (.slice op N cp) vo)) (fun _ i _ => N - (intOf i).toNat)
  case atStart => exact ⟨0, Nat.zero_le _, rfl, by simpa using h3⟩
  case round =>
   obtain ⟨k, hk, rfl, h4⟩ := hrel
   by_cases hlt : k < N
   ·have hltp : k < t.meths.length := by rw [HN.out]; exact hlt
    obtain ⟨b, off, rfl, va, vr, hv, e0, e1, e2, e3, e4⟩ := hat k t.meths[k] (List.getElem?_eq_getElem hltp)
    have d0 : wr.cell? ⟨b, off + k * 5, none⟩ = some (.string t.meths[k].name) := Holds.below h4.bel _ _ e0
    have d1 : wr.cell? ⟨b, off + k * 5 + 1, none⟩ = some va := Holds.below h4.bel _ _ e1
    have d2 : wr.cell? ⟨b, off + k * 5 + 2, none⟩ = some (.int .i64 t.meths[k].result) := Holds.below h4.bel _ _ e2
    have d3 : wr.cell? ⟨b, off + k * 5 + 3, none⟩ = some vr := Holds.below h4.bel _ _ e3
    have d4 : wr.cell? ⟨b, off + k * 5 + 4, none⟩ = some (.string t.meths[k].proc) := Holds.below h4.bel _ _ e4
    have HA := Lib.hid (all_take (methB n) t.meths k hltp)
    have hlt' : (k : Int) < N := by omega
    obtain ⟨_, hs1, hs2⟩ := hz t.meths[k] (List.getElem_mem hltp)
    have HM := Lib.hid (show methB n t.meths[k] = (sigB n t.meths[k] && ((bs t.meths[k].proc).isEmpty || symB (bs t.meths[k].proc))) from rfl)
    rw [HM.out] at HA
    have hE : t.meths[k].proc.toList.isEmpty = (bs t.meths[k].proc).isEmpty := by rw [toList_bs]
    have HS := hide (fun (W : World) (mb : Nat) (hmb : mb < W.heap.size) (hmc : mb ≠ bc) (f : Bool) (cs : List Value) h => @sig_any W0 W o n cap bc bt mb hmb hmc f cs t.meths[k] va vr hv hs2 h)
    obtain ⟨oa, ca, rfl⟩ := hv.args.form
    obtain ⟨orr, cr, rfl⟩ := hv.raises.form
    have h5 := h4.alloc (.cells #[.string t.meths[k].name, .slice oa t.meths[k].args.length ca, .int .i64 t.meths[k].result, .slice orr t.meths[k].raises.length cr, .string t.meths[k].proc] 74)
    have hbk := Blk.new wr [.string t.meths[k].name, .slice oa t.meths[k].args.length ca, .int .i64 t.meths[k].result, .slice orr t.meths[k].raises.length cr, .string t.meths[k].proc] 74
    have hlb : wr.heap.size < (wr.alloc (.cells #[.string t.meths[k].name, .slice oa t.meths[k].args.length ca, .int .i64 t.meths[k].result, .slice orr t.meths[k].raises.length cr, .string t.meths[k].proc] 74)).heap.size := by simp
    have hnc : wr.heap.size ≠ bc := Nat.ne_of_gt h4.c.lt
    clear hat e0 e1 e2 e3 e4 hz HM hv h4
    generalize sigB n t.meths[k] = sg at HA HS
    have HSY := hide (fun w => isSymbol_any t.meths[k].proc hs1 w)
    generalize symB (bs t.meths[k].proc) = sy at *
    cases hem : (bs t.meths[k].proc).isEmpty with
    | true =>
      rw [hem] at hE HA
      go_wp2_with (first | (go_at_call 277; refine (unhide HS _ _ hlb hnc _ _ h5).mono ?_; rintro e w5 ⟨rfl, h6, hx6⟩; have hb6 : Blk w5 wr.heap.size [.string t.meths[k].name, .slice oa t.meths[k].args.length ca, .int .i64 t.meths[k].result, .slice orr t.meths[k].raises.length cr, .string t.meths[k].proc] 74 := hx6.trans hbk; have m4 : w5.cell? ⟨wr.heap.size, 4, none⟩ = some (.string t.meths[k].proc) := hb6.cell 4) | (go_at_call 21; refine (isSymbol_any _ hs1 _).mono ?_; rintro e w6 ⟨rfl, nq, rfl⟩) | (go_at_call 271; refine (need_own h6 _).mono ?_; rintro e w6 ⟨rfl, h7⟩))
      go_roundw
      case rel => exact ⟨k + 1, by omega, by go_num, by rw [HA.out]; simp only [Bool.true_or, Bool.and_true, ← Bool.and_assoc]; simpa only [Bool.and_true] using h7⟩
      case measure => simp [intOf]; omega
    | false =>
      rw [hem] at hE HA
      go_wp2_with (first | (go_at_call 277; refine (unhide HS _ _ hlb hnc _ _ h5).mono ?_; rintro e w5 ⟨rfl, h6, hx6⟩; have hb6 : Blk w5 wr.heap.size [.string t.meths[k].name, .slice oa t.meths[k].args.length ca, .int .i64 t.meths[k].result, .slice orr t.meths[k].raises.length cr, .string t.meths[k].proc] 74 := hx6.trans hbk; have m4 : w5.cell? ⟨wr.heap.size, 4, none⟩ = some (.string t.meths[k].proc) := hb6.cell 4) | (go_at_call 21; refine (unhide HSY _).mono ?_; rintro e w6 ⟨rfl, nq, rfl⟩) | (go_at_call 271; refine (need_own (h6.drewN nq) _).mono ?_; rintro e w6 ⟨rfl, h7⟩))
      go_roundw
      case rel => exact ⟨k + 1, by omega, by go_num, by rw [HA.out]; simp only [Bool.false_or, ← Bool.and_assoc]; exact h7⟩
      case measure => simp [intOf]; omega
   ·obtain rfl : k = N := by omega
    have HA := Lib.hid (show (t.meths.take k).all (methB n) = t.meths.all (methB n) by rw [List.take_of_length_le (by rw [HN.out]; exact Nat.le_refl _)])
    rw [HA.out] at h4
    have c8 : wr.cell? ⟨bt, 8, none⟩ = some (.slice op k cp) := h4.t.cell 8
    have z8 := h4.t.frozen 8
    clear hat
    go_wp2
    go_end0
    exact ⟨rfl, by rw [HB.out, ← Bool.and_assoc]; exact h4.setT 8 (.slice none 0 0)⟩
end Go.Proofs.YteaokkaidcbdlaaGreatDoor

