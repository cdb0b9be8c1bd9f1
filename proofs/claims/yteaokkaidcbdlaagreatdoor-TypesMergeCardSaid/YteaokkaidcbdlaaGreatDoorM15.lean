/- Part 15 of 53: the texts Sb, Sc, Si, Sf, Fa, Re, one behind the other. -/
import Derived.Test.YteaokkaidcbdlaaGreatDoorM9
import Derived.Test.YteaokkaidcbdlaaGreatDoorM7
namespace Go.Proofs.YteaokkaidcbdlaaGreatDoor
open Go Go.RowKit Go.Shelf
theorem sameClass_any (cb : Nat) (va : Value) (xs : List Int) (i j : Nat) (hi : i < xs.length) (hj : j < xs.length) (W : World) (hc : W.cell? ⟨cb, 0, none⟩ = some va) (hs : SliceOf 1 (IntAt W) va xs) :
    Calls Tryz.prog 105 #[.int .i64 i, .int .i64 j, .pointer (some ⟨cb, 0, none⟩)] W fun e w' => e = .returned (.bool (decide (xs[i] = xs[j]))) ∧ Below W.heap.size W w' := by
  obtain ⟨o, cap, rfl⟩ := hs.form
  obtain ⟨-, hm, hl, hat⟩ := hs.at
  obtain ⟨b, off, rfl, e0⟩ := hat i xs[i] (List.getElem?_eq_getElem hi)
  obtain ⟨b2, off2, he, f0⟩ := hat j xs[j] (List.getElem?_eq_getElem hj)
  cases he
  unfold IntAt at e0 f0
  simp only [Nat.mul_one] at e0 f0
  have hi' : (i : Int) < xs.length := by omega
  have hj' : (j : Int) < xs.length := by omega
  have hBD := fun nq => below_drewN' (Below.refl W.heap.size W) nq
  generalize xs[i] = x at e0 ⊢
  generalize xs[j] = y at f0 ⊢
  clear hs hat hm hl
  by_cases hxy : x = y
  ·subst hxy
   go_enter Tryz.func105, Tryz.ntmps105
   go_wp2
   go_quiet (fail)
   go_wp2
   go_ret
   exact ⟨ret_bool (by simp), hBD nq⟩
  ·go_enter Tryz.func105, Tryz.ntmps105
   go_wp2
   go_quiet (fail)
   go_wp2
   go_ret
   exact ⟨ret_bool (by simp [hxy]), hBD nq⟩
def sameB (xs : List Int) (x y : Int) : Bool := decide (xs.getD x.toNat 0 = xs.getD y.toNat 0)
theorem sameClass_int (cb : Nat) (va : Value) (xs : List Int) (x y : Int) (hx : 0 ≤ x ∧ x < xs.length) (hy : 0 ≤ y ∧ y < xs.length) (W : World) (hc : W.cell? ⟨cb, 0, none⟩ = some va) (hs : SliceOf 1 (IntAt W) va xs) :
    Calls Tryz.prog 105 #[.int .i64 x, .int .i64 y, .pointer (some ⟨cb, 0, none⟩)] W fun e w' => e = .returned (.bool (sameB xs x y)) ∧ Below W.heap.size W w' := by
  obtain ⟨i, rfl⟩ := Int.eq_ofNat_of_zero_le hx.1
  obtain ⟨j, rfl⟩ := Int.eq_ofNat_of_zero_le hy.1
  have hi : i < xs.length := by omega
  have hj : j < xs.length := by omega
  have h := sameClass_any cb va xs i j hi hj W hc hs
  unfold sameB
  simpa [List.getD_eq_getElem?_getD, List.getElem?_eq_getElem hi, List.getElem?_eq_getElem hj] using h
theorem eqClass_any (cb : Nat) (va v u : Value) (xs l m : List Int) (W : World) (hc : W.cell? ⟨cb, 0, none⟩ = some va) (hs : SliceOf 1 (IntAt W) va xs) (hl : SliceOf 1 (IntAt W) v l) (hm : SliceOf 1 (IntAt W) u m)
    (hzl : ∀ x ∈ l, 0 ≤ x ∧ x < xs.length) (hzm : ∀ x ∈ m, 0 ≤ x ∧ x < xs.length) :
    Calls Tryz.prog 108 #[v, u, .func (.func 105) #[] #[.pointer (some ⟨cb, 0, none⟩)]] W fun e w' => e = .returned (.bool (eqF (sameB xs) l m)) ∧ Below W.heap.size W w' := by
  obtain ⟨o, cap, rfl⟩ := hl.form
  obtain ⟨p, cup, rfl⟩ := hm.form
  obtain ⟨_, hcm, hlc, hat⟩ := hl.at
  obtain ⟨_, hcm2, hlc2, hat2⟩ := hm.at
  have hl63 : l.length ≤ 9223372036854775807 := by unfold maxLen at hcm; omega
  have HC := hide (fun x y hx hy W' (hb : Below W.heap.size W W') => sameClass_int cb va xs x y hx hy W' (Holds.below hb _ _ hc) (hs.mono fun _ _ _ _ => IntAt.go (.below hb)))
  clear hl hm hcm hcm2 hlc hlc2 hc hs
  by_cases hlen : l.length = m.length
  ·have hne : ((l.length : Int) != m.length) = false := by simp; omega
   go_enter Tryz.func108, Tryz.ntmps108
   go_wp2
   go_loopw [17] (fun i wr => ∃ k : Nat, k ≤ l.length ∧ i = .int .i64 k ∧ Below W.heap.size W wr ∧ Hid (((l.zip m).take k).all (fun x => sameB xs x.1 x.2) = true)) (fun i _ => l.length - (intOf i).toNat)
   case atStart => exact ⟨0, Nat.zero_le _, rfl, Below.refl _ _, Lib.hid rfl⟩
   case round =>
    obtain ⟨k, hk, rfl, hbw, HT⟩ := hrel
    by_cases hlt : k < l.length
    ·have hlt2 : k < m.length := by omega
     have hlt' : (k : Int) < l.length := by omega
     have hlt2' : (k : Int) < m.length := by omega
     obtain ⟨b, off, rfl, e0⟩ := hat k l[k] (List.getElem?_eq_getElem hlt)
     obtain ⟨b2, off2, rfl, e1⟩ := hat2 k m[k] (List.getElem?_eq_getElem hlt2)
     have r0 : wr.cell? ⟨b, off + k, none⟩ = some (.int .i64 l[k]) := Holds.below hbw _ _ (by simpa [IntAt] using e0)
     have r1 : wr.cell? ⟨b2, off2 + k, none⟩ = some (.int .i64 m[k]) := Holds.below hbw _ _ (by simpa [IntAt] using e1)
     have hF := unhide HC l[k] m[k] (hzl _ (List.getElem_mem hlt)) (hzm _ (List.getElem_mem hlt2)) wr hbw
     have hF := hF.mono fun _ w' h => (⟨h.1, hbw.trans (h.2.mono hbw.size)⟩ : _ ∧ Below W.heap.size W w')
     clear e0 e1 hat hat2 hlen hne HC hzl hzm
     cases hx : sameB xs l[k] m[k] with
     | false =>
       rw [hx] at hF
       have HF := hide hF
       have HX := Lib.hid (eqF_no k hlt hlt2 hx)
       clear hF hx
       go_wp2_with (first | (go_at_call 105; refine (unhide HF).mono ?_; rintro e w4 ⟨rfl, hb4⟩))
       go_ret
       exact ⟨ret_bool HX.out.symm, hb4⟩
     | true =>
       rw [hx] at hF
       have HF := hide hF
       have HX := Lib.hid (show ((l.zip m).take (k + 1)).all (fun x => sameB xs x.1 x.2) = true by rw [eqF_take k hlt hlt2, HT.out, hx]; rfl)
       clear hF hx
       go_wp2_with (first | (go_at_call 105; refine (unhide HF).mono ?_; rintro e w4 ⟨rfl, hb4⟩))
       go_roundw
       case rel => exact ⟨k + 1, by omega, by go_num, hb4, HX⟩
       case measure => simp [intOf]; omega
    ·obtain rfl : k = l.length := by omega
     have HX := Lib.hid (eqF_yes hlen HT.out)
     go_wp2
     go_ret
     exact ⟨ret_bool HX.out.symm, hbw⟩
  ·have hne : ((l.length : Int) != m.length) = true := by simp; omega
   have HX := Lib.hid (show eqF (sameB xs) l m = false by unfold eqF; simp [hlen])
   go_enter Tryz.func108, Tryz.ntmps108
   go_wp2
   go_ret
   exact ⟨ret_bool HX.out.symm, Below.refl _ _⟩
end Go.Proofs.YteaokkaidcbdlaaGreatDoor

namespace Go.Proofs.YteaokkaidcbdlaaGreatDoor
open Go Go.RowKit Go.Shelf
def RowAt (W : World) (b k : Nat) (l : List Int) : Prop := ∃ v, W.cell? ⟨b, k, none⟩ = some v ∧ SliceOf 1 (IntAt W) v l
theorem RowAt.go {W W' : World} (h : Holds W W') {b k : Nat} {l : List Int} (hx : RowAt W b k l) : RowAt W' b k l := by
 obtain ⟨v, h1, h2⟩ := hx
 exact ⟨v, h _ _ h1, h2.mono fun _ _ _ _ => IntAt.go h⟩
structure Ask107 (W : World) (sb bb cb : Nat) (va vb : Value) (xs : List Int) (B : List (List Int)) : Prop where
 s : W.cell? ⟨sb, 0, none⟩ = some (.func (.func 105) #[] #[.pointer (some ⟨cb, 0, none⟩)])
 c : W.cell? ⟨cb, 0, none⟩ = some va
 cs : SliceOf 1 (IntAt W) va xs
 b : W.cell? ⟨bb, 0, none⟩ = some vb
 bs : SliceOf 1 (RowAt W) vb B
theorem Ask107.below {W W' : World} {sb bb cb : Nat} {va vb : Value} {xs : List Int} {B : List (List Int)} (h : Ask107 W sb bb cb va vb xs B) (hb : Below W.heap.size W W') : Ask107 W' sb bb cb va vb xs B :=
 ⟨Holds.below hb _ _ h.s, Holds.below hb _ _ h.c, h.cs.mono fun _ _ _ _ => IntAt.go (.below hb), Holds.below hb _ _ h.b, h.bs.mono fun _ _ _ _ => RowAt.go (.below hb)⟩
def finerB (xs : List Int) (B : List (List Int)) (i j : Nat) : Bool := sameB xs i j && eqF (sameB xs) (B.getD i []) (B.getD j [])
set_option maxRecDepth 100000 in
set_option maxHeartbeats 8000000 in
theorem ask107_any (sb bb cb : Nat) (va vb : Value) (xs : List Int) (B : List (List Int)) (i j : Nat) (hi : i < xs.length) (hj : j < xs.length) (hB : B.length = xs.length) (hz : ∀ l ∈ B, ∀ x ∈ l, 0 ≤ x ∧ x < xs.length)
    (W : World) (h : Ask107 W sb bb cb va vb xs B) :
    Calls Tryz.prog 107 #[.int .i64 i, .int .i64 j, .pointer (some ⟨sb, 0, none⟩), .pointer (some ⟨bb, 0, none⟩)] W fun e w' => e = .returned (.bool (finerB xs B i j)) ∧ Below W.heap.size W w' := by
  have hbi : i < B.length := by omega
  have hbj : j < B.length := by omega
  obtain ⟨o, cap, rfl⟩ := h.bs.form
  obtain ⟨-, hm, hl, hat⟩ := h.bs.at
  obtain ⟨b, off, rfl, vi, e0, s0⟩ := hat i B[i] (List.getElem?_eq_getElem hbi)
  obtain ⟨b2, off2, he, vj, f0, t0⟩ := hat j B[j] (List.getElem?_eq_getElem hbj)
  cases he
  simp only [Nat.mul_one] at e0 f0
  have hzi := hz _ (List.getElem_mem hbi)
  have hzj := hz _ (List.getElem_mem hbj)
  have hS := hide (fun W' (hb : Below W.heap.size W W') => sameClass_int cb va xs i j ⟨by omega, by omega⟩ ⟨by omega, by omega⟩ W' (h.below hb).c (h.below hb).cs)
  have hE := hide (fun W' (hb : Below W.heap.size W W') => eqClass_any cb va vi vj xs B[i] B[j] W' (h.below hb).c (h.below hb).cs (s0.mono fun _ _ _ _ => IntAt.go (.below hb)) (t0.mono fun _ _ _ _ => IntAt.go (.below hb)) hzi hzj)
  have hF : ∀ W', Below W.heap.size W W' → W'.cell? ⟨sb, 0, none⟩ = some (.func (.func 105) #[] #[.pointer (some ⟨cb, 0, none⟩)]) := fun W' hb => (h.below hb).s
  have hR : ∀ W', Below W.heap.size W W' → W'.cell? ⟨bb, 0, none⟩ = some (.slice (some ⟨b, off, none⟩) B.length cap) := fun W' hb => (h.below hb).b
  have hI : ∀ W', Below W.heap.size W W' → W'.cell? ⟨b, off + i, none⟩ = some vi := fun W' hb => Holds.below hb _ _ e0
  have hJ : ∀ W', Below W.heap.size W W' → W'.cell? ⟨b, off + j, none⟩ = some vj := fun W' hb => Holds.below hb _ _ f0
  have hi' : (i : Int) < B.length := by omega
  have hj' : (j : Int) < B.length := by omega
  have HX := Lib.hid (show finerB xs B i j = (sameB xs i j && eqF (sameB xs) B[i] B[j]) by unfold finerB; simp [List.getD_eq_getElem?_getD, List.getElem?_eq_getElem hbi, List.getElem?_eq_getElem hbj])
  obtain ⟨oi, ci, rfl⟩ := s0.form
  obtain ⟨oj, cj, rfl⟩ := t0.form
  generalize B[i].length = ni at hE hI
  generalize B[j].length = nj at hE hJ
  generalize eqF (sameB xs) B[i] B[j] = y at hE HX
  generalize sameB xs i j = x at hS HX
  clear e0 f0 s0 t0 hzi hzj hat hz h hm hl
  cases x
  all_goals
   go_enter Tryz.func107, Tryz.ntmps107
   go_wp2_with fail
   refine wp_region_quiet (C := fun w' => Below W.heap.size W w') (by kernel_rfl) (by kernel_rfl) (below_drewN' (Below.refl _ _) 1) ?_
   simp only []
   repeat (first
    | go_big_quiet_skip
    | (go_big_quiet_want; go_big_quiet_op; first
      | go_big_quiet_on
      | (refine ⟨_, fun _ _ => rfl, ?_⟩; go_big_quiet_on)
      | (refine ⟨.func (.func 105) #[] #[.pointer (some ⟨cb, 0, none⟩)], ?_, ?_⟩
         ·intro w1 hb
          have e := hF w1 hb
          simp [e, go_sem]
          done
         go_big_quiet_on)
      | (refine ⟨.slice (some ⟨b, off, none⟩) B.length cap, ?_, ?_⟩
         ·intro w1 hb
          have e := hR w1 hb
          simp [e, go_sem]
          done
         go_big_quiet_on)
      | (refine ⟨.slice oi ni ci, ?_, ?_⟩
         ·intro w1 hb
          have e := hI w1 hb
          simp [e, go_sem]
          done
         go_big_quiet_on)
      | (refine ⟨.slice oj nj cj, ?_, ?_⟩
         ·intro w1 hb
          have e := hJ w1 hb
          simp [e, go_sem]
          done
         go_big_quiet_on)
      | (apply Exists.intro
         refine ⟨fun w1 hb => ?_, ?_⟩
         ·with_reducible refine (unhide hS w1 hb).mono ?_
          rintro e w2 ⟨rfl, hb2⟩
          exact ⟨rfl, hb.trans (hb2.mono hb.size)⟩
         go_big_quiet_on)
      | (apply Exists.intro
         refine ⟨fun w1 hb => ?_, ?_⟩
         ·with_reducible refine (unhide hE w1 hb).mono ?_
          rintro e w2 ⟨rfl, hb2⟩
          exact ⟨rfl, hb.trans (hb2.mono hb.size)⟩
         go_big_quiet_on)))
   refine wpQuiet_nil ?_
   rintro w1 hb
   go_wp2
   go_ret
   exact ⟨ret_bool (by rw [HX.out]; simp), hb⟩
end Go.Proofs.YteaokkaidcbdlaaGreatDoor

namespace Go.Proofs.YteaokkaidcbdlaaGreatDoor
open Go Go.RowKit Go.Shelf
theorem take_ne {α : Type} {xs ys : List α} {k : Nat} (h1 : k < xs.length) (h2 : k < ys.length) (h : xs[k] ≠ ys[k]) : xs ≠ ys := by
 rintro rfl; exact h rfl
theorem take_eq {α : Type} {xs ys : List α} {k : Nat} (h1 : k < xs.length) (h2 : k < ys.length) (h : xs.take k = ys.take k) (he : xs[k] = ys[k]) : xs.take (k + 1) = ys.take (k + 1) := by
 rw [List.take_succ_eq_append_getElem h1, List.take_succ_eq_append_getElem h2, h, he]
theorem sameInts_any (va vb : Value) (xs ys : List Int) (W : World) (ha : SliceOf 1 (IntAt W) va xs) (hb : SliceOf 1 (IntAt W) vb ys) :
    Calls Tryz.prog 31 #[va, vb] W fun e w' => e = .returned (.bool (decide (xs = ys))) ∧ Below W.heap.size W w' := by
  obtain ⟨o, cap, rfl⟩ := ha.form
  obtain ⟨o2, cap2, rfl⟩ := hb.form
  obtain ⟨-, hm, hl, hat⟩ := ha.at
  obtain ⟨-, hm2, hl2, hat2⟩ := hb.at
  have h63 : xs.length ≤ 9223372036854775807 := by unfold maxLen at hm; omega
  have h632 : ys.length ≤ 9223372036854775807 := by unfold maxLen at hm2; omega
  clear ha hb hm hm2 hl hl2
  obtain ⟨n, hn⟩ : ∃ n, xs.length = n := ⟨_, rfl⟩
  obtain ⟨n2, hn2⟩ : ∃ n2, ys.length = n2 := ⟨_, rfl⟩
  have HN := Lib.hid hn
  have HN2 := Lib.hid hn2
  rw [hn] at h63 ⊢
  rw [hn2] at h632 ⊢
  clear hn hn2
  by_cases hne : n = n2
  ·subst hne
   go_enter Tryz.func31, Tryz.ntmps31
   go_wp2
   go_loopg [5] n (fun g i wr => ∃ k : Nat, k ≤ n ∧ g = n - k ∧ i = .int .i64 k ∧ Below W.heap.size W wr ∧ Hid (xs.take k = ys.take k))
   case atStart => exact ⟨0, Nat.zero_le _, rfl, rfl, Below.refl _ _, Lib.hid rfl⟩
   case round =>
    obtain ⟨k, hk, hgk, rfl, hbw, HT⟩ := hrel
    by_cases hlt : k < n
    ·have h1 : k < xs.length := by rw [HN.out]; exact hlt
     have h2 : k < ys.length := by rw [HN2.out]; exact hlt
     obtain ⟨b, off, rfl, e0⟩ := hat k xs[k] (List.getElem?_eq_getElem h1)
     obtain ⟨b2, off2, rfl, f0⟩ := hat2 k ys[k] (List.getElem?_eq_getElem h2)
     replace e0 := e0.go (.below hbw)
     replace f0 := f0.go (.below hbw)
     have hBD := fun nq => below_drewN' hbw nq
     unfold IntAt at e0 f0
     simp only [Nat.mul_one] at e0 f0
     have HX := fun h => Lib.hid (take_ne h1 h2 h)
     have HY := fun h => Lib.hid (take_eq h1 h2 HT.out h)
     generalize xs[k] = x at e0 HX HY
     generalize ys[k] = y at f0 HX HY
     have hlt' : (k : Int) < n := by omega
     clear hat hat2 HN HN2 h1 h2 HT
     by_cases hxy : x = y
     ·have HZ := HY hxy
      subst hxy
      clear HX HY
      go_wp2
      go_quiet (fail)
      go_wp2
      go_roundg (n - (k + 1))
      case measure => omega
      case rel => exact ⟨k + 1, by omega, rfl, by go_num, hBD nq, HZ⟩
     ·have HZ := HX hxy
      clear HX HY
      go_wp2
      go_quiet (fail)
      go_wp2
      go_ret
      exact ⟨ret_bool (by simp [HZ.out]), hBD nq⟩
    ·obtain rfl : k = n := by omega
     have HE := Lib.hid (show xs = ys by
      have h := HT.out
      rw [List.take_of_length_le (by have := HN.out; omega), List.take_of_length_le (by have := HN2.out; omega)] at h
      exact h)
     clear hat hat2 HN HN2 HT
     go_wp2
     go_ret
     exact ⟨ret_bool (by simp [HE.out]), hbw⟩
  ·have HE := Lib.hid (show xs ≠ ys by
     rintro rfl
     exact hne (HN.out.symm.trans HN2.out))
   clear hat hat2 HN HN2
   go_enter Tryz.func31, Tryz.ntmps31
   go_wp2
   go_ret
   exact ⟨ret_bool (by simp [HE.out]), Below.refl _ _⟩
end Go.Proofs.YteaokkaidcbdlaaGreatDoor

namespace Go.Proofs.YteaokkaidcbdlaaGreatDoor
open Go Go.RowKit Go.Shelf
theorem equalInts_any (va vb : Value) (xs ys : List Int) (W : World) (ha : SliceOf 1 (IntAt W) va xs) (hb : SliceOf 1 (IntAt W) vb ys) :
    Calls Tryz.prog 109 #[va, vb] W fun e w' => e = .returned (.bool (decide (xs = ys))) ∧ Below W.heap.size W w' := by
  obtain ⟨o, cap, rfl⟩ := ha.form
  obtain ⟨o2, cap2, rfl⟩ := hb.form
  obtain ⟨-, hm, hl, hat⟩ := ha.at
  obtain ⟨-, hm2, hl2, hat2⟩ := hb.at
  have h63 : xs.length ≤ 9223372036854775807 := by unfold maxLen at hm; omega
  have h632 : ys.length ≤ 9223372036854775807 := by unfold maxLen at hm2; omega
  clear ha hb hm hm2 hl hl2
  obtain ⟨n, hn⟩ : ∃ n, xs.length = n := ⟨_, rfl⟩
  obtain ⟨n2, hn2⟩ : ∃ n2, ys.length = n2 := ⟨_, rfl⟩
  have HN := Lib.hid hn
  have HN2 := Lib.hid hn2
  rw [hn] at h63 ⊢
  rw [hn2] at h632 ⊢
  clear hn hn2
  by_cases hne : n = n2
  ·subst hne
   go_enter Tryz.func109, Tryz.ntmps109
   go_wp2
   go_loopg [13] n (fun g i wr => ∃ k : Nat, k ≤ n ∧ g = n - k ∧ i = .int .i64 k ∧ Below W.heap.size W wr ∧ Hid (xs.take k = ys.take k))
   case atStart => exact ⟨0, Nat.zero_le _, rfl, rfl, Below.refl _ _, Lib.hid rfl⟩
   case round =>
    obtain ⟨k, hk, hgk, rfl, hbw, HT⟩ := hrel
    by_cases hlt : k < n
    ·have h1 : k < xs.length := by rw [HN.out]; exact hlt
     have h2 : k < ys.length := by rw [HN2.out]; exact hlt
     obtain ⟨b, off, rfl, e0⟩ := hat k xs[k] (List.getElem?_eq_getElem h1)
     obtain ⟨b2, off2, rfl, f0⟩ := hat2 k ys[k] (List.getElem?_eq_getElem h2)
     replace e0 := e0.go (.below hbw)
     replace f0 := f0.go (.below hbw)
     have hBD := fun nq => below_drewN' hbw nq
     unfold IntAt at e0 f0
     simp only [Nat.mul_one] at e0 f0
     have HX := fun h => Lib.hid (take_ne h1 h2 h)
     have HY := fun h => Lib.hid (take_eq h1 h2 HT.out h)
     generalize xs[k] = x at e0 HX HY
     generalize ys[k] = y at f0 HX HY
     have hlt' : (k : Int) < n := by omega
     clear hat hat2 HN HN2 h1 h2 HT
     by_cases hxy : x = y
     ·have HZ := HY hxy
      subst hxy
      clear HX HY
      go_wp2
      go_quiet (fail)
      go_wp2
      go_roundg (n - (k + 1))
      case measure => omega
      case rel => exact ⟨k + 1, by omega, rfl, by go_num, hBD nq, HZ⟩
     ·have HZ := HX hxy
      clear HX HY
      go_wp2
      go_quiet (fail)
      go_wp2
      go_ret
      exact ⟨ret_bool (by simp [HZ.out]), hBD nq⟩
    ·obtain rfl : k = n := by omega
     have HE := Lib.hid (show xs = ys by
      have h := HT.out
      rw [List.take_of_length_le (by have := HN.out; omega), List.take_of_length_le (by have := HN2.out; omega)] at h
      exact h)
     clear hat hat2 HN HN2 HT
     go_wp2
     go_ret
     exact ⟨ret_bool (by simp [HE.out]), hbw⟩
  ·have HE := Lib.hid (show xs ≠ ys by
     rintro rfl
     exact hne (HN.out.symm.trans HN2.out))
   clear hat hat2 HN HN2
   go_enter Tryz.func109, Tryz.ntmps109
   go_wp2
   go_ret
   exact ⟨ret_bool (by simp [HE.out]), Below.refl _ _⟩
end Go.Proofs.YteaokkaidcbdlaaGreatDoor

namespace Go.Proofs.YteaokkaidcbdlaaGreatDoor
open Go Go.RowKit Go.Shelf
def backIn (G : List TyD) (i : Nat) : Nat → Nat → Bool
 | 0, _ => false
 | f + 1, a => match G[a]? with
   | none => false
   | some t => supB t.kind && (t.super.toNat == i || backIn G i f t.super.toNat)
theorem backIn_at {G : List TyD} {i f a : Nat} {t : TyD} (h : G[a]? = some t) : backIn G i (f + 1) a = (supB t.kind && (t.super.toNat == i || backIn G i f t.super.toNat)) := by
 show (match G[a]? with | none => false | some t => supB t.kind && (t.super.toNat == i || backIn G i f t.super.toNat)) = _
 rw [h]
def aboveNo (G : List TyD) (i : Nat) : Bool := !backIn G i G.length i
theorem superB_of {G : List TyD} {t : TyD} (h : tyB G t = true) (hs : supB t.kind = true) : superB G t = true := by
 have hk : t.kind = 12 ∨ t.kind = 13 := of_decide_eq_true hs
 unfold tyB at h
 rcases hk with hk | hk <;> rw [hk] at h <;> simp only [Bool.and_eq_true] at h
 ·exact h.1.1.1.1.2
 ·exact h.1.2
set_option maxRecDepth 100000 in
set_option maxHeartbeats 8000000 in
theorem firstAbove_any (gv : Value) (G : List TyD) (W : World) (hG0 : GrAt W gv G) (hlen : G.length ≤ 410) (hall : ∀ t ∈ G, tyB G t = true) :
    Calls Tryz.prog 55 #[gv] W fun e w' => e = .returned (.int .i64 (firstNo (aboveNo G) (List.range G.length))) ∧ w' = W := by
  obtain ⟨o, cap, rfl⟩ := hG0.form
  obtain ⟨_, _, _, hat⟩ := hG0.at
  clear hG0
  go_enter Tryz.func55, Tryz.ntmps55
  go_wp2
  go_loopg [7] G.length (fun n i wr => ∃ k : Nat, k ≤ G.length ∧ n = G.length - k ∧ i = .int .i64 k ∧ wr = W ∧ Hid ((List.range k).all (aboveNo G) = true))
  case atStart => exact ⟨0, Nat.zero_le _, rfl, rfl, rfl, Lib.hid rfl⟩
  case round =>
   obtain ⟨k, hk, hgk, rfl, rfl, HT⟩ := hrel
   by_cases hlt : k < G.length
   ·have hlt' : (k : Int) < G.length := by omega
    go_wp2
    go_loopg [4, 13] G.length (fun n a j w2 => ∃ m c : Nat, m ≤ G.length ∧ n = G.length - m ∧ c < G.length ∧ a = .int .i64 c ∧ j = .int .i64 m ∧ w2 = wr ∧ Hid (backIn G k G.length k = backIn G k (G.length - m) c))
    case atStart => exact ⟨0, k, Nat.zero_le _, rfl, hlt, rfl, rfl, rfl, Lib.hid rfl⟩
    case round =>
     obtain ⟨m, c, hm, hgm, hc, rfl, rfl, rfl, HBK⟩ := hrel
     by_cases hmt : m < G.length
     ·obtain ⟨b, off, rfl, vp, vm, vo, hl, d0, _, _, _, _, _, d6, _, _, _⟩ := hat c G[c] (List.getElem?_eq_getElem hc)
      have hc' : (c : Int) < G.length := by omega
      have hmt' : (m : Int) < G.length := by omega
      have hgc : G[c]? = some G[c] := List.getElem?_eq_getElem hc
      obtain ⟨r, hr⟩ : ∃ r, G.length - m = r + 1 := ⟨G.length - m - 1, by omega⟩
      have HBS := Lib.hid (show backIn G k (G.length - m) c = (supB G[c].kind && (G[c].super.toNat == k || backIn G k r G[c].super.toNat)) by rw [hr, backIn_at hgc])
      have hSup := superB_of (hall G[c] (List.getElem_mem hc))
      have hS := hasSuper_any G[c].kind
      generalize G[c].kind = kk at d0 HBS hSup hS
      cases hsb : supB kk with
      | false =>
        rw [hsb] at hS
        have HS := hide hS
        have HX := Lib.hid (show (List.range (k + 1)).all (aboveNo G) = true by rw [range_all, HT.out]; unfold aboveNo; rw [HBK.out, HBS.out, hsb]; rfl)
        clear hS hsb hat hl hgc hSup
        go_wp2_with (first | (go_at_call 94; refine (unhide HS _).mono ?_; rintro e w4 ⟨rfl, rfl⟩))
        go_roundg (G.length - (k + 1))
        case measure => omega
        case rel => exact ⟨k + 1, by omega, rfl, by go_num, rfl, HX⟩
      | true =>
        rw [hsb] at hS
        have HS := hide hS
        have hsx := hSup hsb
        unfold superB at hsx
        rw [Bool.and_eq_true] at hsx
        have hidx : 0 ≤ G[c].super ∧ G[c].super < G.length := of_decide_eq_true hsx.1
        rw [hsb, Bool.true_and] at HBS
        obtain ⟨c2, hc2⟩ : ∃ c2 : Nat, G[c].super = c2 := ⟨G[c].super.toNat, by omega⟩
        rw [hc2] at d6 hidx
        rw [hc2, Int.toNat_natCast] at HBS
        clear hS hsb hat hl hgc hSup hsx hc2
        by_cases he : c2 = k
        ·have HX := Lib.hid (firstNo_at (p := aboveNo G) (l := List.range G.length) (k := k) (by simpa using hlt) (by rw [List.take_range, Nat.min_eq_left hk]; exact HT.out) (by rw [List.getElem_range]; unfold aboveNo; rw [HBK.out, HBS.out, he]; simp))
         subst he
         go_wp2_with (first | (go_at_call 94; refine (unhide HS _).mono ?_; rintro e w4 ⟨rfl, rfl⟩))
         go_ret
         exact ⟨ret_int HX.out.symm, rfl⟩
        ·have hne : ((c2 : Int) == (k : Int)) = false := by simp; omega
         have HX := Lib.hid (show backIn G k G.length k = backIn G k (G.length - (m + 1)) c2 by
          have hb : (c2 == k) = false := by simpa using he
          rw [HBK.out, HBS.out, hb, Bool.false_or]; congr 1; omega)
         clear he
         go_wp2_with (first | (go_at_call 94; refine (unhide HS _).mono ?_; rintro e w4 ⟨rfl, rfl⟩))
         go_roundg (G.length - (m + 1))
         case measure => omega
         case rel => exact ⟨m + 1, c2, by omega, rfl, by omega, rfl, by go_num, rfl, HX⟩
     ·obtain rfl : m = G.length := by omega
      have HX := Lib.hid (show (List.range (k + 1)).all (aboveNo G) = true by rw [range_all, HT.out]; unfold aboveNo; rw [HBK.out, Nat.sub_self]; rfl)
      go_wp2
      go_roundg (G.length - (k + 1))
      case measure => omega
      case rel => exact ⟨k + 1, by omega, rfl, by go_num, rfl, HX⟩
   ·obtain rfl : k = G.length := by omega
    have HX := Lib.hid (firstNo_none (p := aboveNo G) (l := List.range G.length) HT.out)
    go_wp2
    go_ret
    exact ⟨ret_int HX.out.symm, rfl⟩
end Go.Proofs.YteaokkaidcbdlaaGreatDoor

namespace Go.Proofs.YteaokkaidcbdlaaGreatDoor
open Go Go.RowKit Go.Shelf
theorem flat_at {α β : Type} {f : α → List β} {n : Nat} (h : ∀ a, (f a).length = n) : ∀ (l : List α) (i : Nat) (a : α) (j : Nat), l[i]? = some a → j < n → (l.flatMap f)[i * n + j]? = (f a)[j]?
 | [], i, a, j, hi, hj => by simp at hi
 | b :: l, 0, a, j, hi, hj => by
   simp at hi
   subst hi
   rw [List.flatMap_cons, Nat.zero_mul, Nat.zero_add, List.getElem?_append_left (by rw [h]; exact hj)]
 | b :: l, i + 1, a, j, hi, hj => by
   have hi' : l[i]? = some a := by simpa using hi
   rw [List.flatMap_cons, List.getElem?_append_right (by rw [h, Nat.succ_mul]; omega), h, show (i + 1) * n + j - n = i * n + j by rw [Nat.succ_mul]; omega]
   exact flat_at h l i a j hi' hj
structure Ent where
 t : TyD
 p : Value
 m : Value
 o : Value
def Ent.cells (e : Ent) : List Value := tyC e.t e.p e.m e.o
theorem gr_of {w : World} {g cap : Nat} (es : List Ent) (hc : ∀ j u, (es.flatMap Ent.cells)[j]? = some u → w.cell? ⟨g, j, none⟩ = some u) (hl : ∀ e ∈ es, TyL w e.p e.m e.o e.t) (hlc : es.length ≤ cap) (hcm : cap ≤ maxLen) :
    GrAt w (.slice (some ⟨g, 0, none⟩) es.length cap) (es.map Ent.t) := by
  refine ⟨some ⟨g, 0, none⟩, cap, by simp, by simpa using hlc, hcm, fun i x hx => ⟨g, 0, rfl, ?_⟩⟩
  rw [List.getElem?_map] at hx
  cases he : es[i]? with
  | none => rw [he] at hx; cases hx
  | some e =>
    rw [he] at hx
    simp at hx
    subst hx
    have hf := fun j (hj : j < 10) => flat_at (f := Ent.cells) (n := 10) (fun a => rfl) es i e j he hj
    have hk : ∀ j (hj : j < 10) u, (tyC e.t e.p e.m e.o)[j]? = some u → w.cell? ⟨g, 0 + i * 10 + j, none⟩ = some u := fun j hj u hu => by
     rw [Nat.zero_add]; exact hc _ _ ((hf j hj).trans hu)
    exact ⟨e.p, e.m, e.o, hl e (List.mem_of_getElem? he), hk 0 (by decide) _ rfl, hk 1 (by decide) _ rfl, hk 2 (by decide) _ rfl, hk 3 (by decide) _ rfl, hk 4 (by decide) _ rfl, hk 5 (by decide) _ rfl, hk 6 (by decide) _ rfl, hk 7 (by decide) _ rfl, hk 8 (by decide) _ rfl, hk 9 (by decide) _ rfl⟩
def headS : ByteArray := ⟨#[104, 101, 97, 100]⟩
def tailS : ByteArray := ⟨#[116, 97, 105, 108]⟩
def emptyS : ByteArray := ⟨#[]⟩
def recT (h t : Int) : TyD := ⟨10, 0, 0, false, emptyS, emptyS, 0, [⟨headS, h⟩, ⟨tailS, t⟩], [], []⟩
set_option maxHeartbeats 4000000 in
theorem record_any (h t : Int) (w : World) : Calls Tryz.prog 90 #[.int .i64 h, .int .i64 t] w fun e w' => ∃ vp, e = .returned (.agg (tyC (recT h t) vp (.slice none 0 0) (.slice none 0 0)).toArray) ∧ TyL w' vp (.slice none 0 0) (.slice none 0 0) (recT h t) ∧ Below w.heap.size w w' := by
 go_enter Tryz.func90, Tryz.ntmps90
 go_wp2
 refine bodyPost_ret (v := .agg (tyC (recT h t) (.slice (some ⟨w.heap.size + 1, 0, none⟩) 2 2) (.slice none 0 0) (.slice none 0 0)).toArray) ?_ rfl ⟨_, rfl, ⟨?_, .none', .none'⟩, ((Below.refl _ _).alloc (Nat.le_refl _) _).alloc (by simp) _⟩
 ·simp [results, Tryz.results90, go_sem, tyC, recT, emptyS]
 ·refine ⟨_, _, rfl, Nat.le_refl _, by unfold maxLen; omega, fun i x hx => ⟨w.heap.size + 1, 0, rfl, ?_⟩⟩
  have hb := Blk.new (w.alloc (.cells #[.int .u8 10, .int .i64 0, .int .i64 0, .bool false, .string ⟨#[]⟩, .string ⟨#[]⟩, .int .i64 0, .slice (some ⟨w.heap.size + 1, 0, none⟩) 2 2, .slice none 0 0, .slice none 0 0] 62)) [.string ⟨#[104, 101, 97, 100]⟩, .int .i64 h, .string ⟨#[116, 97, 105, 108]⟩, .int .i64 t] 93
  rw [World.size_alloc] at hb
  match i with
  | 0 => simp [recT] at hx; subst hx; exact ⟨hb.cell 0, hb.cell 1⟩
  | 1 => simp [recT] at hx; subst hx; exact ⟨hb.cell 2, hb.cell 3⟩
  | i + 2 => simp [recT] at hx
def intT : TyD := ⟨1, 0, 0, false, emptyS, emptyS, 0, [], [], []⟩
def refT : TyD := ⟨9, 0, 0, false, emptyS, emptyS, 0, [⟨emptyS, 1⟩], [], []⟩
def rngT : TyD := ⟨3, 0, 9, false, emptyS, emptyS, 0, [], [], []⟩
def listsG : List TyD := [intT, recT 0 1, recT 0 3, recT 0 2, refT, rngT, recT 5 6]
set_option maxRecDepth 100000 in
set_option maxHeartbeats 8000000 in
theorem lists_any (w : World) : Calls Tryz.prog 53 #[] w fun e w' => ∃ gv, e = .returned gv ∧ GrAt w' gv listsG ∧ Below w.heap.size w w' := by
 have H1 := hide (fun w => record_any 0 1 w)
 have H2 := hide (fun w => record_any 0 3 w)
 have H3 := hide (fun w => record_any 0 2 w)
 have H4 := hide (fun w => record_any 5 6 w)
 unfold tyC recT emptyS at H1 H2 H3 H4
 go_enter Tryz.func53, Tryz.ntmps53
 go_wp2_with (first
  | (go_at_call 90; with_reducible refine (unhide H1 _).mono ?_; clear H1; rintro e w1 ⟨v1, rfl, l1, b1⟩)
  | (go_at_call 90; with_reducible refine (unhide H2 _).mono ?_; clear H2; rintro e w2 ⟨v2, rfl, l2, b2⟩)
  | (go_at_call 90; with_reducible refine (unhide H3 _).mono ?_; clear H3; rintro e w3 ⟨v3, rfl, l3, b3⟩)
  | (go_at_call 90; with_reducible refine (unhide H4 _).mono ?_; clear H4; rintro e w4 ⟨v4, rfl, l4, b4⟩))
 have hb3 : Below w3.heap.size w3 (w3.alloc (.cells #[.string ⟨#[]⟩, .int .i64 1] 93)) := (Below.refl _ _).alloc (Nat.le_refl _) _
 have r3 := Blk.new w3 [.string ⟨#[]⟩, .int .i64 1] 93
 change Blk (w3.alloc (.cells #[.string ⟨#[]⟩, .int .i64 1] 93)) _ _ _ at r3
 generalize w3.alloc (.cells #[.string ⟨#[]⟩, .int .i64 1] 93) = w3' at hb3 b4 r3
 have B34 := hb3.trans (b4.mono hb3.size)
 have B24 := b3.trans (B34.mono b3.size)
 have B14 := b2.trans (B24.mono b2.size)
 have B04 := b1.trans (B14.mono b1.size)
 have hx := (Below.refl w4.heap.size w4).alloc (Nat.le_refl _) (.cells (([⟨intT, .slice none 0 0, .slice none 0 0, .slice none 0 0⟩, ⟨recT 0 1, v1, .slice none 0 0, .slice none 0 0⟩, ⟨recT 0 3, v2, .slice none 0 0, .slice none 0 0⟩, ⟨recT 0 2, v3, .slice none 0 0, .slice none 0 0⟩, ⟨refT, .slice (some ⟨w3.heap.size, 0, none⟩) 1 1, .slice none 0 0, .slice none 0 0⟩, ⟨rngT, .slice none 0 0, .slice none 0 0, .slice none 0 0⟩, ⟨recT 5 6, v4, .slice none 0 0, .slice none 0 0⟩] : List Ent).flatMap Ent.cells).toArray 62)
 have hh := Holds.below hx
 have hnew := Blk.new w4 (([⟨intT, .slice none 0 0, .slice none 0 0, .slice none 0 0⟩, ⟨recT 0 1, v1, .slice none 0 0, .slice none 0 0⟩, ⟨recT 0 3, v2, .slice none 0 0, .slice none 0 0⟩, ⟨recT 0 2, v3, .slice none 0 0, .slice none 0 0⟩, ⟨refT, .slice (some ⟨w3.heap.size, 0, none⟩) 1 1, .slice none 0 0, .slice none 0 0⟩, ⟨rngT, .slice none 0 0, .slice none 0 0, .slice none 0 0⟩, ⟨recT 5 6, v4, .slice none 0 0, .slice none 0 0⟩] : List Ent).flatMap Ent.cells) 62
 have r4 := r3.below b4 r3.lt
 go_ret
 refine ⟨_, rfl, gr_of (g := w4.heap.size) [⟨intT, .slice none 0 0, .slice none 0 0, .slice none 0 0⟩, ⟨recT 0 1, v1, .slice none 0 0, .slice none 0 0⟩, ⟨recT 0 3, v2, .slice none 0 0, .slice none 0 0⟩, ⟨recT 0 2, v3, .slice none 0 0, .slice none 0 0⟩, ⟨refT, .slice (some ⟨w3.heap.size, 0, none⟩) 1 1, .slice none 0 0, .slice none 0 0⟩, ⟨rngT, .slice none 0 0, .slice none 0 0, .slice none 0 0⟩, ⟨recT 5 6, v4, .slice none 0 0, .slice none 0 0⟩] (fun j u h => (hnew.cell j).trans h) ?_ (Nat.le_refl _) (by unfold maxLen; decide), B04.trans (hx.mono B04.size)⟩
 intro e he
 simp only [List.mem_cons, List.not_mem_nil, or_false] at he
 rcases he with rfl | rfl | rfl | rfl | rfl | rfl | rfl
 ·exact ⟨.none', .none', .none'⟩
 ·exact (l1.go (.below B14)).go hh
 ·exact (l2.go (.below B24)).go hh
 ·exact (l3.go (.below B34)).go hh
 ·refine TyL.go hh ⟨⟨_, _, rfl, Nat.le_refl _, by unfold maxLen; decide, fun i x hx => ⟨w3.heap.size, 0, rfl, ?_⟩⟩, .none', .none'⟩
  match i with
  | 0 => simp [refT] at hx; subst hx; exact ⟨r4.cell 0, r4.cell 1⟩
  | i + 1 => simp [refT] at hx
 ·exact ⟨.none', .none', .none'⟩
 ·exact l4.go hh
end Go.Proofs.YteaokkaidcbdlaaGreatDoor

