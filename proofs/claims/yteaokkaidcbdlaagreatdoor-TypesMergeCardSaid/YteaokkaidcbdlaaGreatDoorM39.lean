/- Part 39 of 53: the texts Yi, one behind the other. -/
import Derived.Test.YteaokkaidcbdlaaGreatDoorM37
import Derived.Test.YteaokkaidcbdlaaGreatDoorM18
namespace Go.Proofs.YteaokkaidcbdlaaGreatDoor
open Go Go.RowKit Go.Shelf
set_option maxRecDepth 100000 in
theorem refAlike_any (vc va vb : Value) (c xs ys : List Int) (W : World) (hc : SliceOf 1 (IntAt W) vc c) (ha : SliceOf 1 (IntAt W) va xs) (hb : SliceOf 1 (IntAt W) vb ys) (hx : ∀ x ∈ xs, 0 ≤ x ∧ x < c.length) (hy : ∀ x ∈ ys, 0 ≤ x ∧ x < c.length) :
    Calls Tryz.prog 110 #[vc, va, vb] W fun e w' => e = .returned (.bool (eqF (sameB c) xs ys)) ∧ Below W.heap.size W w' := by
  obtain ⟨o, cap, rfl⟩ := ha.form
  obtain ⟨o3, cap3, rfl⟩ := hc.form
  obtain ⟨-, hm3, hl3, hat3⟩ := hc.at
  have h633 : c.length ≤ 9223372036854775807 := by unfold maxLen at hm3; omega
  clear hc hm3 hl3
  obtain ⟨o2, cap2, rfl⟩ := hb.form
  obtain ⟨-, hm, hl, hat⟩ := ha.at
  obtain ⟨-, hm2, hl2, hat2⟩ := hb.at
  have h63 : xs.length ≤ 9223372036854775807 := by unfold maxLen at hm; omega
  have h632 : ys.length ≤ 9223372036854775807 := by unfold maxLen at hm2; omega
  clear ha hb hm hm2 hl hl2
  obtain ⟨n, hn⟩ : ∃ n, xs.length = n := ⟨_, rfl⟩
  obtain ⟨n2, hn2⟩ : ∃ n2, ys.length = n2 := ⟨_, rfl⟩
  have HN := Lib.hid hn
  have HN2 := Lib.hid hn2
  rw [hn] at h63 ⊢
  rw [hn2] at h632 ⊢
  clear hn hn2
  by_cases hne : n = n2
  ·subst hne
   have HE := Lib.hid (eqF_at (f := (sameB c)) (l := xs) (m := ys) (by rw [HN.out, HN2.out]))
   go_enter Tryz.func110, Tryz.ntmps110
   go_wp2
   go_loopg [7] n (fun g i wr => ∃ k : Nat, k ≤ n ∧ g = n - k ∧ i = .int .i64 k ∧ Below W.heap.size W wr ∧ Hid (((xs.zip ys).take k).all (fun x => (sameB c) x.1 x.2) = true))
   case atStart => exact ⟨0, Nat.zero_le _, rfl, rfl, Below.refl _ _, Lib.hid rfl⟩
   case round =>
    obtain ⟨k, hk, hgk, rfl, hbw, HT⟩ := hrel
    by_cases hlt : k < n
    ·have h1 : k < xs.length := by rw [HN.out]; exact hlt
     have h2 : k < ys.length := by rw [HN2.out]; exact hlt
     obtain ⟨b, off, rfl, e0⟩ := hat k xs[k] (List.getElem?_eq_getElem h1)
     obtain ⟨b2, off2, rfl, f0⟩ := hat2 k ys[k] (List.getElem?_eq_getElem h2)
     replace e0 := e0.go (.below hbw)
     replace f0 := f0.go (.below hbw)
     have hBD := fun nq => below_drewN' hbw nq
     unfold IntAt at e0 f0
     simp only [Nat.mul_one] at e0 f0
     have HX := fun (h : (sameB c) xs[k] ys[k] = false) => Lib.hid (show eqF (sameB c) xs ys = false by rw [HE.out]; exact zip_all_no h1 h2 h)
     have HY := fun (h : (sameB c) xs[k] ys[k] = true) => Lib.hid (show ((xs.zip ys).take (k + 1)).all (fun x => (sameB c) x.1 x.2) = true by rw [zip_take_next (f := (sameB c)) h1 h2, HT.out, h]; rfl)
     have hxr := hx _ (List.getElem_mem h1)
     have hyr := hy _ (List.getElem_mem h2)
     generalize xs[k] = x at e0 HX HY hxr
     generalize ys[k] = y at f0 HX HY hyr
     have hlt' : (k : Int) < n := by omega
     clear hat hat2 HN HN2 h1 h2 HT
     have hs : (c.getD x.toNat 0 == c.getD y.toNat 0) = sameB c x y := by unfold sameB; rw [Bool.eq_iff_iff]; simp
     have hsn := bne_of hs
     obtain ⟨x', rfl⟩ := Int.eq_ofNat_of_zero_le hxr.1
     obtain ⟨y', rfl⟩ := Int.eq_ofNat_of_zero_le hyr.1
     have hxl : x' < c.length := by omega
     have hyl : y' < c.length := by omega
     obtain ⟨b3, off3, rfl, r0⟩ := hat3 x' c[x'] (List.getElem?_eq_getElem hxl)
     obtain ⟨b4, off4, he4, q0⟩ := hat3 y' c[y'] (List.getElem?_eq_getElem hyl)
     cases he4
     replace r0 := r0.go (.below hbw)
     replace q0 := q0.go (.below hbw)
     unfold IntAt at r0 q0
     rw [Nat.mul_one] at r0 q0
     rw [show c.getD (x' : Int).toNat 0 = c[x'] by simp [hxl], show c.getD (y' : Int).toNat 0 = c[y'] by simp [hyl]] at hs hsn
     have hxl' : (x' : Int) < c.length := by omega
     have hyl' : (y' : Int) < c.length := by omega
     generalize c[x'] = cx at r0 hs hsn
     generalize c[y'] = cy at q0 hs hsn
     obtain ⟨C, hC⟩ : ∃ C, c.length = C := ⟨_, rfl⟩
     rw [hC] at hxl' hyl' h633
     clear hat3 hxl hyl hxr hyr hx hy hbw
     generalize hzz : sameB c (x' : Int) (y' : Int) = zz at HX HY hs hsn
     cases zz
     ·have HZ := HX rfl
      simp only [Bool.not_false] at hsn
      clear HX HY
      go_wp2
      go_quiet (fail)
      go_wp2
      go_ret
      exact ⟨ret_bool HZ.out.symm, hBD _⟩
     ·have HZ := HY rfl
      simp only [Bool.not_true] at hsn
      clear HX HY
      go_wp2
      go_quiet (fail)
      go_wp2
      go_roundg (n - (k + 1))
      case measure => omega
      case rel => exact ⟨k + 1, by omega, rfl, by go_num, hBD nq, HZ⟩
    ·have hk2 : k = n := by omega
     have HZ := Lib.hid (show eqF (sameB c) xs ys = true by
      rw [HE.out]
      have h := HT.out
      rw [List.take_of_length_le (by rw [List.length_zip, HN.out, HN2.out]; omega)] at h
      exact h)
     have hlt' : ¬ (k : Int) < n := by omega
     clear hat hat2 HT hk2 hlt
     go_wp2
     go_ret
     exact ⟨ret_bool HZ.out.symm, hbw⟩
  ·have HZ := Lib.hid (show eqF (sameB c) xs ys = false by unfold eqF; rw [decide_eq_false (by rw [HN.out, HN2.out]; exact hne)]; rfl)
   have hne' : ((n : Int) == n2) = false := by simp; omega
   have hne2 : ((n : Int) != n2) = true := by unfold bne; rw [hne']; rfl
   clear hat hat2 hne
   go_enter Tryz.func110, Tryz.ntmps110
   go_wp2
   go_ret
   exact ⟨ret_bool HZ.out.symm, Below.refl _ _⟩
end Go.Proofs.YteaokkaidcbdlaaGreatDoor

