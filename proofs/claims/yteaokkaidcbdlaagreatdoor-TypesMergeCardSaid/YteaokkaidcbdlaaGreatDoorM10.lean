/- Part 10 of 53: the texts Em, one behind the other. -/
import Derived.Test.YteaokkaidcbdlaaGreatDoorM9
namespace Go.Proofs.YteaokkaidcbdlaaGreatDoor
open Go Go.RowKit Go.Shelf
set_option maxRecDepth 100000 in
set_option maxHeartbeats 8000000 in
theorem eqMeths_any (v u : Value) (l m : List MethD) (fb : Nat) (W0 W : World) (hf : W0.cell? ⟨fb, 0, none⟩ = some fitV) (hl : SliceOf 5 (MethAt W0) v l) (hm : SliceOf 5 (MethAt W0) u m) (hB : Below W0.heap.size W0 W) :
    Calls Tryz.prog 166 #[v, u, .func (.func 163) #[] #[.pointer (some ⟨fb, 0, none⟩)]] W fun e w' => e = .returned (.bool (eqF methFitB l m)) ∧ Below W.heap.size W w' := by
  obtain ⟨o, cap, rfl⟩ := hl.form
  obtain ⟨p, cup, rfl⟩ := hm.form
  obtain ⟨_, hcm, hlc, hat⟩ := hl.at
  obtain ⟨_, hcm2, hlc2, hat2⟩ := hm.at
  have hl63 : l.length ≤ 9223372036854775807 := by unfold maxLen at hcm; omega
  clear hl hm hcm hcm2 hlc hlc2
  by_cases hlen : l.length = m.length
  ·have hne : ((l.length : Int) != m.length) = false := by simp; omega
   go_enter Tryz.func166, Tryz.ntmps166
   go_wp2
   go_loopw [17] (fun i wr => ∃ k : Nat, k ≤ l.length ∧ i = .int .i64 k ∧ Below W.heap.size W wr ∧ Hid (((l.zip m).take k).all (fun x => methFitB x.1 x.2) = true)) (fun i _ => l.length - (intOf i).toNat)
   case atStart => exact ⟨0, Nat.zero_le _, rfl, Below.refl _ _, Lib.hid rfl⟩
   case round =>
    obtain ⟨k, hk, rfl, hbw, HT⟩ := hrel
    by_cases hlt : k < l.length
    ·have hlt2 : k < m.length := by omega
     have hlt' : (k : Int) < l.length := by omega
     have hlt2' : (k : Int) < m.length := by omega
     have hbel : Below W0.heap.size W0 wr := hB.trans (hbw.mono hB.size)
     have hh := Holds.below hbel
     obtain ⟨b, off, rfl, e0⟩ := hat k l[k] (List.getElem?_eq_getElem hlt)
     obtain ⟨b2, off2, rfl, e1⟩ := hat2 k m[k] (List.getElem?_eq_getElem hlt2)
     obtain ⟨va, vr, hv, x0, x1, x2, x3, x4⟩ := e0
     obtain ⟨ua, ur, hu, y0, y1, y2, y3, y4⟩ := e1
     obtain ⟨oa, ca, rfl⟩ := hv.args.form
     obtain ⟨orr, cr, rfl⟩ := hv.raises.form
     obtain ⟨pa, da, rfl⟩ := hu.args.form
     obtain ⟨pr, dr, rfl⟩ := hu.raises.form
     have r0 : wr.cell? ⟨b, off + k * 5, none⟩ = some (.string l[k].name) := hh _ _ x0
     have r1 : wr.cell? ⟨b, off + k * 5 + 1, none⟩ = some (.slice oa l[k].args.length ca) := hh _ _ x1
     have r2 : wr.cell? ⟨b, off + k * 5 + 2, none⟩ = some (.int .i64 l[k].result) := hh _ _ x2
     have r3 : wr.cell? ⟨b, off + k * 5 + 3, none⟩ = some (.slice orr l[k].raises.length cr) := hh _ _ x3
     have r4 : wr.cell? ⟨b, off + k * 5 + 4, none⟩ = some (.string l[k].proc) := hh _ _ x4
     skip
     have hb2 : Below wr.heap.size wr ((wr.alloc (.cells #[.string l[k].name, .slice oa l[k].args.length ca, .int .i64 l[k].result, .slice orr l[k].raises.length cr, .string l[k].proc] 74)).alloc (.cells #[.string m[k].name, .slice pa m[k].args.length da, .int .i64 m[k].result, .slice pr m[k].raises.length dr, .string m[k].proc] 74)) := ((Below.refl _ _).alloc (Nat.le_refl _) _).alloc (by simp) _
     have q0 : ∀ o1, (wr.alloc o1).cell? ⟨b2, off2 + k * 5, none⟩ = some (.string m[k].name) := fun o1 => (World.cell?_alloc_lt _ _ _ (cell_lt (hh _ _ y0))).trans (hh _ _ y0)
     have q1 : ∀ o1, (wr.alloc o1).cell? ⟨b2, off2 + k * 5 + 1, none⟩ = some (.slice pa m[k].args.length da) := fun o1 => (World.cell?_alloc_lt _ _ _ (cell_lt (hh _ _ y1))).trans (hh _ _ y1)
     have q2 : ∀ o1, (wr.alloc o1).cell? ⟨b2, off2 + k * 5 + 2, none⟩ = some (.int .i64 m[k].result) := fun o1 => (World.cell?_alloc_lt _ _ _ (cell_lt (hh _ _ y2))).trans (hh _ _ y2)
     have q3 : ∀ o1, (wr.alloc o1).cell? ⟨b2, off2 + k * 5 + 3, none⟩ = some (.slice pr m[k].raises.length dr) := fun o1 => (World.cell?_alloc_lt _ _ _ (cell_lt (hh _ _ y3))).trans (hh _ _ y3)
     have q4 : ∀ o1, (wr.alloc o1).cell? ⟨b2, off2 + k * 5 + 4, none⟩ = some (.string m[k].proc) := fun o1 => (World.cell?_alloc_lt _ _ _ (cell_lt (hh _ _ y4))).trans (hh _ _ y4)
     have hC := methFit_any l[k] m[k] _ _ _ _ fb ((wr.alloc (.cells #[.string l[k].name, .slice oa l[k].args.length ca, .int .i64 l[k].result, .slice orr l[k].raises.length cr, .string l[k].proc] 74)).alloc (.cells #[.string m[k].name, .slice pa m[k].args.length da, .int .i64 m[k].result, .slice pr m[k].raises.length dr, .string m[k].proc] 74)) (Holds.below hb2 _ _ (hh _ _ hf)) ((hv.go hh).below hb2) ((hu.go hh).below hb2)
     have BL : Below W.heap.size W ((wr.alloc (.cells #[.string l[k].name, .slice oa l[k].args.length ca, .int .i64 l[k].result, .slice orr l[k].raises.length cr, .string l[k].proc] 74)).alloc (.cells #[.string m[k].name, .slice pa m[k].args.length da, .int .i64 m[k].result, .slice pr m[k].raises.length dr, .string m[k].proc] 74)) := hbw.trans (hb2.mono hbw.size)
     clear x0 x1 x2 x3 x4 y0 y1 y2 y3 y4 hv hu hat hat2 hlen hne hh hbel
     cases hx : methFitB l[k] m[k] with
     | false =>
       rw [hx] at hC
       have HC := hide hC
       have HX := Lib.hid (eqF_no k hlt hlt2 hx)
       clear hC hx
       go_wp2_with (first | (go_at_call 163; refine (unhide HC).mono ?_; rintro e w4 ⟨rfl, hb4⟩))
       go_ret
       exact ⟨ret_bool HX.out.symm, BL.trans (hb4.mono BL.size)⟩
     | true =>
       rw [hx] at hC
       have HC := hide hC
       have HX := Lib.hid (show ((l.zip m).take (k + 1)).all (fun x => methFitB x.1 x.2) = true by rw [eqF_take k hlt hlt2, HT.out, hx]; rfl)
       clear hC hx
       go_wp2_with (first | (go_at_call 163; refine (unhide HC).mono ?_; rintro e w4 ⟨rfl, hb4⟩))
       go_roundw
       case rel => exact ⟨k + 1, by omega, by go_num, BL.trans (hb4.mono BL.size), HX⟩
       case measure => simp [intOf]; omega
    ·obtain rfl : k = l.length := by omega
     have HX := Lib.hid (eqF_yes hlen HT.out)
     go_wp2
     go_ret
     exact ⟨ret_bool HX.out.symm, hbw⟩
  ·have hne : ((l.length : Int) != m.length) = true := by simp; omega
   have HX := Lib.hid (eqF_len (f := methFitB) hlen)
   clear hlen hat hat2
   go_enter Tryz.func166, Tryz.ntmps166
   go_wp2
   go_ret
   exact ⟨ret_bool HX.out.symm, Below.refl _ _⟩
end Go.Proofs.YteaokkaidcbdlaaGreatDoor

