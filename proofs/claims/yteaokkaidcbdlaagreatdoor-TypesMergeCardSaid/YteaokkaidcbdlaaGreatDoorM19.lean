/- Part 19 of 53: the texts Fu, one behind the other. -/
import Derived.Test.YteaokkaidcbdlaaGreatDoorM7
namespace Go.Proofs.YteaokkaidcbdlaaGreatDoor
open Go Go.RowKit Go.Shelf
theorem nothing_own {W0 W : World} {gv : Value} {bc bt : Nat} {f : Bool} {cs : List Value} (h : Own2 W0 W gv bc bt f cs) :
    Calls Tryz.prog 148 #[.iface 125 (.pointer (some ⟨bc, 0, none⟩)), .pointer (some ⟨bt, 0, none⟩)] W fun e w' => e = .returned (.tuple #[]) ∧ Own2 W0 w' gv bc bt f cs :=
  (nothing_any _ _ W).mono fun _ _ ⟨he, hw⟩ => ⟨he, hw ▸ h⟩
theorem bounds_own {W0 W : World} {gv : Value} {bc bt : Nat} {t : TyD} {vp vm vo : Value} (h : Own2 W0 W gv bc bt true (tyC t vp vm vo)) :
    Calls Tryz.prog 262 #[.pointer (some ⟨bc, 0, none⟩), .pointer (some ⟨bt, 0, none⟩)] W fun e w' => e = .returned (.tuple #[]) ∧ Own2 W0 w' gv bc bt (boundsB t) (tyC { t with low := 0, high := 0 } vp vm vo) := by
  have := bounds_any h
  rwa [Bool.true_and] at this
theorem onePart_own {W0 W : World} {o : Option Addr} {n cap bc bt : Nat} {t : TyD} {vp vm vo : Value} (hz : TyZ t) (hl : TyL W0 vp vm vo t) (h : Own2 W0 W (.slice o n cap) bc bt true (tyC t vp vm vo)) :
    Calls Tryz.prog 149 #[.iface 125 (.pointer (some ⟨bc, 0, none⟩)), .pointer (some ⟨bt, 0, none⟩)] W fun e w' => e = .returned (.tuple #[]) ∧ Own2 W0 w' (.slice o n cap) bc bt (brandedB t && partB n t) (tyC { t with branded := false, brand := ⟨#[]⟩ } (.slice none 0 0) vm vo) := by
  have := onePart_chk hz hl h
  rwa [Bool.true_and] at this
theorem record_own {W0 W : World} {o : Option Addr} {n cap bc bt : Nat} {t : TyD} {vp vm vo : Value} (hz : TyZ t) (hl : TyL W0 vp vm vo t) (h : Own2 W0 W (.slice o n cap) bc bt true (tyC t vp vm vo)) :
    Calls Tryz.prog 150 #[.iface 125 (.pointer (some ⟨bc, 0, none⟩)), .pointer (some ⟨bt, 0, none⟩)] W fun e w' => e = .returned (.tuple #[]) ∧ Own2 W0 w' (.slice o n cap) bc bt (brandedB t && fieldsB n t) (tyC { t with branded := false, brand := ⟨#[]⟩ } (.slice none 0 0) vm vo) := by
  have := record_chk hz hl h
  rwa [Bool.true_and] at this
theorem object_own {W0 W : World} {o : Option Addr} {n cap bc bt : Nat} {G : List TyD} {t : TyD} {vp vm vo : Value} (hG : GrAt W0 (.slice o n cap) G) (hz : TyZ t) (hl : TyL W0 vp vm vo t) (h : Own2 W0 W (.slice o n cap) bc bt true (tyC t vp vm vo)) :
    Calls Tryz.prog 151 #[.iface 125 (.pointer (some ⟨bc, 0, none⟩)), .pointer (some ⟨bt, 0, none⟩)] W fun e w' => e = .returned (.tuple #[]) ∧ Own2 W0 w' (.slice o n cap) bc bt ((((brandedB t && superB G t) && fieldsB n t) && methsB n t) && oversB t) (tyC { t with branded := false, brand := ⟨#[]⟩, super := 0 } (.slice none 0 0) (.slice none 0 0) (.slice none 0 0)) := by
  have := object_chk hG hz hl h
  rwa [Bool.true_and] at this
theorem opaque_own {W0 W : World} {o : Option Addr} {n cap bc bt : Nat} {G : List TyD} {t : TyD} {vp vm vo : Value} (hG : GrAt W0 (.slice o n cap) G) (hz : TyZ t) (h : Own2 W0 W (.slice o n cap) bc bt true (tyC t vp vm vo)) :
    Calls Tryz.prog 152 #[.iface 125 (.pointer (some ⟨bc, 0, none⟩)), .pointer (some ⟨bt, 0, none⟩)] W fun e w' => e = .returned (.tuple #[]) ∧ Own2 W0 w' (.slice o n cap) bc bt (symB (bs t.opq) && superB G t) (tyC { t with opq := ⟨#[]⟩, super := 0 } vp vm vo) := by
  have := opaque_chk hG hz h
  rwa [Bool.true_and] at this
set_option maxRecDepth 100000 in
set_option maxHeartbeats 16000000 in
theorem firstUnfit_any (gv : Value) (G : List TyD) (W : World) (hG0 : GrAt W gv G) (hz : GrZ G) :
    Calls Tryz.prog 54 #[gv] W fun e w' => e = .returned (.int .i64 (firstNo (tyB G) G)) ∧ Below W.heap.size W w' := by
  obtain ⟨o, cap, rfl⟩ := hG0.form
  have hlen := hz.len
  have HTB := newTable_any
  unfold tabV at HTB
  have HTN := hide HTB
  clear HTB
  go_enter Tryz.func54, Tryz.ntmps54
  go_wp2_with (first | (go_at_call 91; refine (unhide HTN _).mono ?_; clear HTN; rintro e w1 ⟨rfl, hb1⟩))
  have hTab1 := Blk.new w1 tabV.toList 120
  have B1 := hb1.alloc hb1.size (.cells tabV.toList.toArray 120)
  change Blk (w1.alloc (.cells tabV 120)) w1.heap.size tabV.toList 120 at hTab1
  change Below W.heap.size W (w1.alloc (.cells tabV 120)) at B1
  unfold tabV at hTab1 B1
  revert hTab1 B1
  generalize w1.alloc _ = W1
  generalize w1.heap.size = tbl
  intro hTab1 B1
  have hG1 := hG0.below B1
  go_loopw [10] (fun i wr => ∃ k : Nat, k ≤ G.length ∧ i = .int .i64 k ∧ Hid ((G.take k).all (tyB G) = true) ∧ Below W1.heap.size W1 wr) (fun i _ => G.length - (intOf i).toNat)
  case atStart => exact ⟨0, Nat.zero_le _, rfl, Lib.hid rfl, Below.refl _ _⟩
  case round =>
   obtain ⟨k, hk, rfl, HT, hbw⟩ := hrel
   by_cases hlt : k < G.length
   ·obtain ⟨t, ht⟩ : ∃ t, G[k] = t := ⟨_, rfl⟩
    have hgk : G[k]? = some t := by rw [List.getElem?_eq_getElem hlt, ht]
    have hGr := hG1.below hbw
    obtain ⟨_, _, _, hat⟩ := hGr.at
    obtain ⟨b, off, rfl, vp, vm, vo, hl, d0, d1, d2, d3, d4, d5, d6, d7, d8, d9⟩ := hat k t hgk
    have hTab := hTab1.below hbw hTab1.lt
    obtain ⟨hzt, hp10, hm10, ho10, hk256⟩ := hz.tys t (by rw [← ht]; exact List.getElem_mem hlt)
    obtain ⟨op, cp, rfl⟩ := hl.parts.form
    obtain ⟨om, cm, rfl⟩ := hl.meths.form
    obtain ⟨oo, co, rfl⟩ := hl.overs.form
    have hlt' : (k : Int) < G.length := by omega
    have hK := isKind_any t.kind
    clear hgk hG0 hG1 hTab1 hk
    have hOwn : Own2 wr ((wr.alloc (.cells #[.int .u8 t.kind, .int .i64 t.low, .int .i64 t.high, .bool t.branded, .string t.brand, .string t.opq, .int .i64 t.super, .slice op t.parts.length cp, .slice om t.meths.length cm, .slice oo t.overs.length co] 62)).alloc (.cells #[.slice (some ⟨b, off, none⟩) G.length cap, .bool true] 124)) (.slice (some ⟨b, off, none⟩) G.length cap) (wr.heap.size + 1) wr.heap.size true (tyC t (.slice op t.parts.length cp) (.slice om t.meths.length cm) (.slice oo t.overs.length co)) := by
     have h1 := Blk.new (wr.alloc (.cells #[.int .u8 t.kind, .int .i64 t.low, .int .i64 t.high, .bool t.branded, .string t.brand, .string t.opq, .int .i64 t.super, .slice op t.parts.length cp, .slice om t.meths.length cm, .slice oo t.overs.length co] 62)) [.slice (some ⟨b, off, none⟩) G.length cap, .bool true] 124
     rw [World.size_alloc] at h1
     exact ⟨((Below.refl _ _).alloc (Nat.le_refl _) _).alloc (by simp) _, h1, (Blk.new wr (tyC t (.slice op t.parts.length cp) (.slice om t.meths.length cm) (.slice oo t.overs.length co)) 62).alloc _, Nat.le_succ _, Nat.le_refl _, by omega⟩
    by_cases hkk : 1 ≤ t.kind ∧ t.kind ≤ 13
    ·rw [show decide (1 ≤ (t.kind : Int) ∧ (t.kind : Int) ≤ 13) = true from decide_eq_true (by omega)] at hK
     have HK := hide hK
     have hk14 : (t.kind : Int) < 14 := by omega
     have hkz : t.kind = 1 ∨ t.kind = 2 ∨ t.kind = 4 ∨ t.kind = 5 ∨ t.kind = 6 ∨ t.kind = 7 ∨ t.kind = 8 ∨ t.kind = 3 ∨ t.kind = 9 ∨ t.kind = 11 ∨ t.kind = 10 ∨ t.kind = 12 ∨ t.kind = 13 := by omega
     clear hK hkk
     rcases (show (t.kind = 1 ∨ t.kind = 2 ∨ t.kind = 4 ∨ t.kind = 5 ∨ t.kind = 6 ∨ t.kind = 7 ∨ t.kind = 8) ∨ (t.kind = 3) ∨ (t.kind = 9 ∨ t.kind = 11) ∨ (t.kind = 10) ∨ (t.kind = 12) ∨ (t.kind = 13) by omega) with hk | hk | hk | hk | hk | hk
     all_goals clear hkz
     ·have HB := Lib.hid (show tyB G t = (true && bareB t (t.parts.length + t.meths.length + t.overs.length)) by
        unfold tyB
        rcases hk with hk | hk | hk | hk | hk | hk | hk <;> rw [hk] <;> first | rfl | (rw [Bool.true_and]))
      have tb : ∀ o1 o2, ((wr.alloc o1).alloc o2).cell? ⟨tbl, t.kind, none⟩ = some (.func (.func 148) #[] #[]) := fun o1 o2 => by
       rcases hk with hk | hk | hk | hk | hk | hk | hk <;> rw [hk] <;> exact ((hTab.alloc o1).alloc o2).cell _
      have HBare := hide (fun w => isBare_any t op om oo t.parts.length t.meths.length t.overs.length cp cm co (by omega) w)
      have HBv : ∀ c, bareB t (t.parts.length + t.meths.length + t.overs.length) = c → Hide (∀ w, Calls Tryz.prog 93 #[tyVal t (.slice op t.parts.length cp) (.slice om t.meths.length cm) (.slice oo t.overs.length co)] w fun e w' => e = .returned (.bool c) ∧ Below w.heap.size w w') := fun c hc => by rw [← hc]; exact HBare
      have HCall := hide (fun w (h : Own2 wr w (.slice (some ⟨b, off, none⟩) G.length cap) (wr.heap.size + 1) wr.heap.size true (tyC t (.slice op t.parts.length cp) (.slice om t.meths.length cm) (.slice oo t.overs.length co))) => nothing_own h)
      clear HBare hGr hl hTab hat hzt hk hz
      generalize bareB t (t.parts.length + t.meths.length + t.overs.length) = br at HB HBv
      cases br
      ·have HX := Lib.hid (firstNo_at (p := tyB G) hlt HT.out (by rw [ht, HB.out]; rfl))
       have HBB := HBv false rfl
       clear HB HT HBv
       go_wp2_with (first | (go_at_call 92; refine (unhide HK _).mono ?_; rintro e w4 ⟨rfl, rfl⟩) | (go_at_call 148; refine (unhide HCall _ hOwn).mono ?_; clear hOwn; rintro e w5 ⟨rfl, h5⟩; have r1 : w5.cell? ⟨wr.heap.size + 1, 1, none⟩ = some (.bool true) := h5.c.cell 1; have q0 : w5.cell? ⟨wr.heap.size, 0, none⟩ = some (.int .u8 t.kind) := h5.t.cell 0; have q1 : w5.cell? ⟨wr.heap.size, 1, none⟩ = some (.int .i64 t.low) := h5.t.cell 1; have q2 : w5.cell? ⟨wr.heap.size, 2, none⟩ = some (.int .i64 t.high) := h5.t.cell 2; have q3 : w5.cell? ⟨wr.heap.size, 3, none⟩ = some (.bool t.branded) := h5.t.cell 3; have q4 : w5.cell? ⟨wr.heap.size, 4, none⟩ = some (.string t.brand) := h5.t.cell 4; have q5 : w5.cell? ⟨wr.heap.size, 5, none⟩ = some (.string t.opq) := h5.t.cell 5; have q6 : w5.cell? ⟨wr.heap.size, 6, none⟩ = some (.int .i64 t.super) := h5.t.cell 6; have q7 : w5.cell? ⟨wr.heap.size, 7, none⟩ = some (.slice op t.parts.length cp) := h5.t.cell 7; have q8 : w5.cell? ⟨wr.heap.size, 8, none⟩ = some (.slice om t.meths.length cm) := h5.t.cell 8; have q9 : w5.cell? ⟨wr.heap.size, 9, none⟩ = some (.slice oo t.overs.length co) := h5.t.cell 9) | (go_at_call 93; refine (unhide HBB _).mono ?_; rintro e w6 ⟨rfl, hb6⟩))
       go_ret
       exact ⟨ret_int HX.out.symm, B1.trans (((hbw.trans (h5.bel.mono hbw.size)).trans (hb6.mono (Nat.le_trans hbw.size h5.bel.size))).mono B1.size)⟩
      ·have HX := Lib.hid (show (G.take (k + 1)).all (tyB G) = true by rw [all_take _ _ _ hlt, HT.out, ht, HB.out]; rfl)
       have HBB := HBv true rfl
       clear HB HT HBv
       go_wp2_with (first | (go_at_call 92; refine (unhide HK _).mono ?_; rintro e w4 ⟨rfl, rfl⟩) | (go_at_call 148; refine (unhide HCall _ hOwn).mono ?_; clear hOwn; rintro e w5 ⟨rfl, h5⟩; have r1 : w5.cell? ⟨wr.heap.size + 1, 1, none⟩ = some (.bool true) := h5.c.cell 1; have q0 : w5.cell? ⟨wr.heap.size, 0, none⟩ = some (.int .u8 t.kind) := h5.t.cell 0; have q1 : w5.cell? ⟨wr.heap.size, 1, none⟩ = some (.int .i64 t.low) := h5.t.cell 1; have q2 : w5.cell? ⟨wr.heap.size, 2, none⟩ = some (.int .i64 t.high) := h5.t.cell 2; have q3 : w5.cell? ⟨wr.heap.size, 3, none⟩ = some (.bool t.branded) := h5.t.cell 3; have q4 : w5.cell? ⟨wr.heap.size, 4, none⟩ = some (.string t.brand) := h5.t.cell 4; have q5 : w5.cell? ⟨wr.heap.size, 5, none⟩ = some (.string t.opq) := h5.t.cell 5; have q6 : w5.cell? ⟨wr.heap.size, 6, none⟩ = some (.int .i64 t.super) := h5.t.cell 6; have q7 : w5.cell? ⟨wr.heap.size, 7, none⟩ = some (.slice op t.parts.length cp) := h5.t.cell 7; have q8 : w5.cell? ⟨wr.heap.size, 8, none⟩ = some (.slice om t.meths.length cm) := h5.t.cell 8; have q9 : w5.cell? ⟨wr.heap.size, 9, none⟩ = some (.slice oo t.overs.length co) := h5.t.cell 9) | (go_at_call 93; refine (unhide HBB _).mono ?_; rintro e w6 ⟨rfl, hb6⟩))
       go_roundw
       case rel => exact ⟨k + 1, by omega, by go_num, HX, (hbw.trans (h5.bel.mono hbw.size)).trans (hb6.mono (Nat.le_trans hbw.size h5.bel.size))⟩
       case measure => simp [intOf]; omega
     ·have HB := Lib.hid (show tyB G t = (boundsB t && bareB { t with low := 0, high := 0 } (t.parts.length + t.meths.length + t.overs.length)) by
        unfold tyB
        rcases hk with hk <;> rw [hk] <;> first | rfl | (rw [Bool.true_and]))
      have tb : ∀ o1 o2, ((wr.alloc o1).alloc o2).cell? ⟨tbl, t.kind, none⟩ = some (.func (.methodOf 189 "trestle/types.bounds") #[] #[]) := fun o1 o2 => by
       rcases hk with hk <;> rw [hk] <;> exact ((hTab.alloc o1).alloc o2).cell _
      have HBare := hide (fun w => isBare_any { t with low := 0, high := 0 } op om oo t.parts.length t.meths.length t.overs.length cp cm co (by omega) w)
      have HBv : ∀ c, bareB { t with low := 0, high := 0 } (t.parts.length + t.meths.length + t.overs.length) = c → Hide (∀ w, Calls Tryz.prog 93 #[tyVal { t with low := 0, high := 0 } (.slice op t.parts.length cp) (.slice om t.meths.length cm) (.slice oo t.overs.length co)] w fun e w' => e = .returned (.bool c) ∧ Below w.heap.size w w') := fun c hc => by rw [← hc]; exact HBare
      have HCall := hide (fun w (h : Own2 wr w (.slice (some ⟨b, off, none⟩) G.length cap) (wr.heap.size + 1) wr.heap.size true (tyC t (.slice op t.parts.length cp) (.slice om t.meths.length cm) (.slice oo t.overs.length co))) => bounds_own h)
      clear HBare hGr hl hTab hat hzt hk hz
      generalize bareB { t with low := 0, high := 0 } (t.parts.length + t.meths.length + t.overs.length) = br at HB HBv
      generalize boundsB t = fr at HB HCall
      cases fr
      ·have HX := Lib.hid (firstNo_at (p := tyB G) hlt HT.out (by rw [ht, HB.out]; rfl))
       clear HB HT HBv
       go_wp2_with (first | (go_at_call 92; refine (unhide HK _).mono ?_; rintro e w4 ⟨rfl, rfl⟩) | (go_at_call 262; refine (unhide HCall _ hOwn).mono ?_; clear hOwn; rintro e w5 ⟨rfl, h5⟩; have q1 : w5.cell? ⟨wr.heap.size + 1, 1, none⟩ = some (.bool false) := h5.c.cell 1))
       go_ret
       exact ⟨ret_int HX.out.symm, B1.trans ((hbw.trans (h5.bel.mono hbw.size)).mono B1.size)⟩
      ·cases br
       ·have HX := Lib.hid (firstNo_at (p := tyB G) hlt HT.out (by rw [ht, HB.out]; rfl))
        have HBB := HBv false rfl
        clear HB HT HBv
        go_wp2_with (first | (go_at_call 92; refine (unhide HK _).mono ?_; rintro e w4 ⟨rfl, rfl⟩) | (go_at_call 262; refine (unhide HCall _ hOwn).mono ?_; clear hOwn; rintro e w5 ⟨rfl, h5⟩; have r1 : w5.cell? ⟨wr.heap.size + 1, 1, none⟩ = some (.bool true) := h5.c.cell 1; have q0 : w5.cell? ⟨wr.heap.size, 0, none⟩ = some (.int .u8 t.kind) := h5.t.cell 0; have q1 : w5.cell? ⟨wr.heap.size, 1, none⟩ = some (.int .i64 0) := h5.t.cell 1; have q2 : w5.cell? ⟨wr.heap.size, 2, none⟩ = some (.int .i64 0) := h5.t.cell 2; have q3 : w5.cell? ⟨wr.heap.size, 3, none⟩ = some (.bool t.branded) := h5.t.cell 3; have q4 : w5.cell? ⟨wr.heap.size, 4, none⟩ = some (.string t.brand) := h5.t.cell 4; have q5 : w5.cell? ⟨wr.heap.size, 5, none⟩ = some (.string t.opq) := h5.t.cell 5; have q6 : w5.cell? ⟨wr.heap.size, 6, none⟩ = some (.int .i64 t.super) := h5.t.cell 6; have q7 : w5.cell? ⟨wr.heap.size, 7, none⟩ = some (.slice op t.parts.length cp) := h5.t.cell 7; have q8 : w5.cell? ⟨wr.heap.size, 8, none⟩ = some (.slice om t.meths.length cm) := h5.t.cell 8; have q9 : w5.cell? ⟨wr.heap.size, 9, none⟩ = some (.slice oo t.overs.length co) := h5.t.cell 9) | (go_at_call 93; refine (unhide HBB _).mono ?_; rintro e w6 ⟨rfl, hb6⟩))
        go_ret
        exact ⟨ret_int HX.out.symm, B1.trans (((hbw.trans (h5.bel.mono hbw.size)).trans (hb6.mono (Nat.le_trans hbw.size h5.bel.size))).mono B1.size)⟩
       ·have HX := Lib.hid (show (G.take (k + 1)).all (tyB G) = true by rw [all_take _ _ _ hlt, HT.out, ht, HB.out]; rfl)
        have HBB := HBv true rfl
        clear HB HT HBv
        go_wp2_with (first | (go_at_call 92; refine (unhide HK _).mono ?_; rintro e w4 ⟨rfl, rfl⟩) | (go_at_call 262; refine (unhide HCall _ hOwn).mono ?_; clear hOwn; rintro e w5 ⟨rfl, h5⟩; have r1 : w5.cell? ⟨wr.heap.size + 1, 1, none⟩ = some (.bool true) := h5.c.cell 1; have q0 : w5.cell? ⟨wr.heap.size, 0, none⟩ = some (.int .u8 t.kind) := h5.t.cell 0; have q1 : w5.cell? ⟨wr.heap.size, 1, none⟩ = some (.int .i64 0) := h5.t.cell 1; have q2 : w5.cell? ⟨wr.heap.size, 2, none⟩ = some (.int .i64 0) := h5.t.cell 2; have q3 : w5.cell? ⟨wr.heap.size, 3, none⟩ = some (.bool t.branded) := h5.t.cell 3; have q4 : w5.cell? ⟨wr.heap.size, 4, none⟩ = some (.string t.brand) := h5.t.cell 4; have q5 : w5.cell? ⟨wr.heap.size, 5, none⟩ = some (.string t.opq) := h5.t.cell 5; have q6 : w5.cell? ⟨wr.heap.size, 6, none⟩ = some (.int .i64 t.super) := h5.t.cell 6; have q7 : w5.cell? ⟨wr.heap.size, 7, none⟩ = some (.slice op t.parts.length cp) := h5.t.cell 7; have q8 : w5.cell? ⟨wr.heap.size, 8, none⟩ = some (.slice om t.meths.length cm) := h5.t.cell 8; have q9 : w5.cell? ⟨wr.heap.size, 9, none⟩ = some (.slice oo t.overs.length co) := h5.t.cell 9) | (go_at_call 93; refine (unhide HBB _).mono ?_; rintro e w6 ⟨rfl, hb6⟩))
        go_roundw
        case rel => exact ⟨k + 1, by omega, by go_num, HX, (hbw.trans (h5.bel.mono hbw.size)).trans (hb6.mono (Nat.le_trans hbw.size h5.bel.size))⟩
        case measure => simp [intOf]; omega
     ·have HB := Lib.hid (show tyB G t = ((brandedB t && partB G.length t) && bareB { t with branded := false, brand := ⟨#[]⟩ } (0 + t.meths.length + t.overs.length)) by
        unfold tyB
        rcases hk with hk | hk <;> rw [hk] <;> first | rfl | (rw [Bool.true_and]))
      have tb : ∀ o1 o2, ((wr.alloc o1).alloc o2).cell? ⟨tbl, t.kind, none⟩ = some (.func (.func 149) #[] #[]) := fun o1 o2 => by
       rcases hk with hk | hk <;> rw [hk] <;> exact ((hTab.alloc o1).alloc o2).cell _
      have HBare := hide (fun w => isBare_any { t with branded := false, brand := ⟨#[]⟩ } none om oo 0 t.meths.length t.overs.length 0 cm co (by omega) w)
      have HBv : ∀ c, bareB { t with branded := false, brand := ⟨#[]⟩ } (0 + t.meths.length + t.overs.length) = c → Hide (∀ w, Calls Tryz.prog 93 #[tyVal { t with branded := false, brand := ⟨#[]⟩ } (.slice none 0 0) (.slice om t.meths.length cm) (.slice oo t.overs.length co)] w fun e w' => e = .returned (.bool c) ∧ Below w.heap.size w w') := fun c hc => by rw [← hc]; exact HBare
      have HCall := hide (fun w (h : Own2 wr w (.slice (some ⟨b, off, none⟩) G.length cap) (wr.heap.size + 1) wr.heap.size true (tyC t (.slice op t.parts.length cp) (.slice om t.meths.length cm) (.slice oo t.overs.length co))) => onePart_own hzt hl h)
      clear HBare hGr hl hTab hat hzt hk hz
      generalize bareB { t with branded := false, brand := ⟨#[]⟩ } (0 + t.meths.length + t.overs.length) = br at HB HBv
      generalize (brandedB t && partB G.length t) = fr at HB HCall
      cases fr
      ·have HX := Lib.hid (firstNo_at (p := tyB G) hlt HT.out (by rw [ht, HB.out]; rfl))
       clear HB HT HBv
       go_wp2_with (first | (go_at_call 92; refine (unhide HK _).mono ?_; rintro e w4 ⟨rfl, rfl⟩) | (go_at_call 149; refine (unhide HCall _ hOwn).mono ?_; clear hOwn; rintro e w5 ⟨rfl, h5⟩; have q1 : w5.cell? ⟨wr.heap.size + 1, 1, none⟩ = some (.bool false) := h5.c.cell 1))
       go_ret
       exact ⟨ret_int HX.out.symm, B1.trans ((hbw.trans (h5.bel.mono hbw.size)).mono B1.size)⟩
      ·cases br
       ·have HX := Lib.hid (firstNo_at (p := tyB G) hlt HT.out (by rw [ht, HB.out]; rfl))
        have HBB := HBv false rfl
        clear HB HT HBv
        go_wp2_with (first | (go_at_call 92; refine (unhide HK _).mono ?_; rintro e w4 ⟨rfl, rfl⟩) | (go_at_call 149; refine (unhide HCall _ hOwn).mono ?_; clear hOwn; rintro e w5 ⟨rfl, h5⟩; have r1 : w5.cell? ⟨wr.heap.size + 1, 1, none⟩ = some (.bool true) := h5.c.cell 1; have q0 : w5.cell? ⟨wr.heap.size, 0, none⟩ = some (.int .u8 t.kind) := h5.t.cell 0; have q1 : w5.cell? ⟨wr.heap.size, 1, none⟩ = some (.int .i64 t.low) := h5.t.cell 1; have q2 : w5.cell? ⟨wr.heap.size, 2, none⟩ = some (.int .i64 t.high) := h5.t.cell 2; have q3 : w5.cell? ⟨wr.heap.size, 3, none⟩ = some (.bool false) := h5.t.cell 3; have q4 : w5.cell? ⟨wr.heap.size, 4, none⟩ = some (.string ⟨#[]⟩) := h5.t.cell 4; have q5 : w5.cell? ⟨wr.heap.size, 5, none⟩ = some (.string t.opq) := h5.t.cell 5; have q6 : w5.cell? ⟨wr.heap.size, 6, none⟩ = some (.int .i64 t.super) := h5.t.cell 6; have q7 : w5.cell? ⟨wr.heap.size, 7, none⟩ = some (.slice none 0 0) := h5.t.cell 7; have q8 : w5.cell? ⟨wr.heap.size, 8, none⟩ = some (.slice om t.meths.length cm) := h5.t.cell 8; have q9 : w5.cell? ⟨wr.heap.size, 9, none⟩ = some (.slice oo t.overs.length co) := h5.t.cell 9) | (go_at_call 93; refine (unhide HBB _).mono ?_; rintro e w6 ⟨rfl, hb6⟩))
        go_ret
        exact ⟨ret_int HX.out.symm, B1.trans (((hbw.trans (h5.bel.mono hbw.size)).trans (hb6.mono (Nat.le_trans hbw.size h5.bel.size))).mono B1.size)⟩
       ·have HX := Lib.hid (show (G.take (k + 1)).all (tyB G) = true by rw [all_take _ _ _ hlt, HT.out, ht, HB.out]; rfl)
        have HBB := HBv true rfl
        clear HB HT HBv
        go_wp2_with (first | (go_at_call 92; refine (unhide HK _).mono ?_; rintro e w4 ⟨rfl, rfl⟩) | (go_at_call 149; refine (unhide HCall _ hOwn).mono ?_; clear hOwn; rintro e w5 ⟨rfl, h5⟩; have r1 : w5.cell? ⟨wr.heap.size + 1, 1, none⟩ = some (.bool true) := h5.c.cell 1; have q0 : w5.cell? ⟨wr.heap.size, 0, none⟩ = some (.int .u8 t.kind) := h5.t.cell 0; have q1 : w5.cell? ⟨wr.heap.size, 1, none⟩ = some (.int .i64 t.low) := h5.t.cell 1; have q2 : w5.cell? ⟨wr.heap.size, 2, none⟩ = some (.int .i64 t.high) := h5.t.cell 2; have q3 : w5.cell? ⟨wr.heap.size, 3, none⟩ = some (.bool false) := h5.t.cell 3; have q4 : w5.cell? ⟨wr.heap.size, 4, none⟩ = some (.string ⟨#[]⟩) := h5.t.cell 4; have q5 : w5.cell? ⟨wr.heap.size, 5, none⟩ = some (.string t.opq) := h5.t.cell 5; have q6 : w5.cell? ⟨wr.heap.size, 6, none⟩ = some (.int .i64 t.super) := h5.t.cell 6; have q7 : w5.cell? ⟨wr.heap.size, 7, none⟩ = some (.slice none 0 0) := h5.t.cell 7; have q8 : w5.cell? ⟨wr.heap.size, 8, none⟩ = some (.slice om t.meths.length cm) := h5.t.cell 8; have q9 : w5.cell? ⟨wr.heap.size, 9, none⟩ = some (.slice oo t.overs.length co) := h5.t.cell 9) | (go_at_call 93; refine (unhide HBB _).mono ?_; rintro e w6 ⟨rfl, hb6⟩))
        go_roundw
        case rel => exact ⟨k + 1, by omega, by go_num, HX, (hbw.trans (h5.bel.mono hbw.size)).trans (hb6.mono (Nat.le_trans hbw.size h5.bel.size))⟩
        case measure => simp [intOf]; omega
     ·have HB := Lib.hid (show tyB G t = ((brandedB t && fieldsB G.length t) && bareB { t with branded := false, brand := ⟨#[]⟩ } (0 + t.meths.length + t.overs.length)) by
        unfold tyB
        rcases hk with hk <;> rw [hk] <;> first | rfl | (rw [Bool.true_and]))
      have tb : ∀ o1 o2, ((wr.alloc o1).alloc o2).cell? ⟨tbl, t.kind, none⟩ = some (.func (.func 150) #[] #[]) := fun o1 o2 => by
       rcases hk with hk <;> rw [hk] <;> exact ((hTab.alloc o1).alloc o2).cell _
      have HBare := hide (fun w => isBare_any { t with branded := false, brand := ⟨#[]⟩ } none om oo 0 t.meths.length t.overs.length 0 cm co (by omega) w)
      have HBv : ∀ c, bareB { t with branded := false, brand := ⟨#[]⟩ } (0 + t.meths.length + t.overs.length) = c → Hide (∀ w, Calls Tryz.prog 93 #[tyVal { t with branded := false, brand := ⟨#[]⟩ } (.slice none 0 0) (.slice om t.meths.length cm) (.slice oo t.overs.length co)] w fun e w' => e = .returned (.bool c) ∧ Below w.heap.size w w') := fun c hc => by rw [← hc]; exact HBare
      have HCall := hide (fun w (h : Own2 wr w (.slice (some ⟨b, off, none⟩) G.length cap) (wr.heap.size + 1) wr.heap.size true (tyC t (.slice op t.parts.length cp) (.slice om t.meths.length cm) (.slice oo t.overs.length co))) => record_own hzt hl h)
      clear HBare hGr hl hTab hat hzt hk hz
      generalize bareB { t with branded := false, brand := ⟨#[]⟩ } (0 + t.meths.length + t.overs.length) = br at HB HBv
      generalize (brandedB t && fieldsB G.length t) = fr at HB HCall
      cases fr
      ·have HX := Lib.hid (firstNo_at (p := tyB G) hlt HT.out (by rw [ht, HB.out]; rfl))
       clear HB HT HBv
       go_wp2_with (first | (go_at_call 92; refine (unhide HK _).mono ?_; rintro e w4 ⟨rfl, rfl⟩) | (go_at_call 150; refine (unhide HCall _ hOwn).mono ?_; clear hOwn; rintro e w5 ⟨rfl, h5⟩; have q1 : w5.cell? ⟨wr.heap.size + 1, 1, none⟩ = some (.bool false) := h5.c.cell 1))
       go_ret
       exact ⟨ret_int HX.out.symm, B1.trans ((hbw.trans (h5.bel.mono hbw.size)).mono B1.size)⟩
      ·cases br
       ·have HX := Lib.hid (firstNo_at (p := tyB G) hlt HT.out (by rw [ht, HB.out]; rfl))
        have HBB := HBv false rfl
        clear HB HT HBv
        go_wp2_with (first | (go_at_call 92; refine (unhide HK _).mono ?_; rintro e w4 ⟨rfl, rfl⟩) | (go_at_call 150; refine (unhide HCall _ hOwn).mono ?_; clear hOwn; rintro e w5 ⟨rfl, h5⟩; have r1 : w5.cell? ⟨wr.heap.size + 1, 1, none⟩ = some (.bool true) := h5.c.cell 1; have q0 : w5.cell? ⟨wr.heap.size, 0, none⟩ = some (.int .u8 t.kind) := h5.t.cell 0; have q1 : w5.cell? ⟨wr.heap.size, 1, none⟩ = some (.int .i64 t.low) := h5.t.cell 1; have q2 : w5.cell? ⟨wr.heap.size, 2, none⟩ = some (.int .i64 t.high) := h5.t.cell 2; have q3 : w5.cell? ⟨wr.heap.size, 3, none⟩ = some (.bool false) := h5.t.cell 3; have q4 : w5.cell? ⟨wr.heap.size, 4, none⟩ = some (.string ⟨#[]⟩) := h5.t.cell 4; have q5 : w5.cell? ⟨wr.heap.size, 5, none⟩ = some (.string t.opq) := h5.t.cell 5; have q6 : w5.cell? ⟨wr.heap.size, 6, none⟩ = some (.int .i64 t.super) := h5.t.cell 6; have q7 : w5.cell? ⟨wr.heap.size, 7, none⟩ = some (.slice none 0 0) := h5.t.cell 7; have q8 : w5.cell? ⟨wr.heap.size, 8, none⟩ = some (.slice om t.meths.length cm) := h5.t.cell 8; have q9 : w5.cell? ⟨wr.heap.size, 9, none⟩ = some (.slice oo t.overs.length co) := h5.t.cell 9) | (go_at_call 93; refine (unhide HBB _).mono ?_; rintro e w6 ⟨rfl, hb6⟩))
        go_ret
        exact ⟨ret_int HX.out.symm, B1.trans (((hbw.trans (h5.bel.mono hbw.size)).trans (hb6.mono (Nat.le_trans hbw.size h5.bel.size))).mono B1.size)⟩
       ·have HX := Lib.hid (show (G.take (k + 1)).all (tyB G) = true by rw [all_take _ _ _ hlt, HT.out, ht, HB.out]; rfl)
        have HBB := HBv true rfl
        clear HB HT HBv
        go_wp2_with (first | (go_at_call 92; refine (unhide HK _).mono ?_; rintro e w4 ⟨rfl, rfl⟩) | (go_at_call 150; refine (unhide HCall _ hOwn).mono ?_; clear hOwn; rintro e w5 ⟨rfl, h5⟩; have r1 : w5.cell? ⟨wr.heap.size + 1, 1, none⟩ = some (.bool true) := h5.c.cell 1; have q0 : w5.cell? ⟨wr.heap.size, 0, none⟩ = some (.int .u8 t.kind) := h5.t.cell 0; have q1 : w5.cell? ⟨wr.heap.size, 1, none⟩ = some (.int .i64 t.low) := h5.t.cell 1; have q2 : w5.cell? ⟨wr.heap.size, 2, none⟩ = some (.int .i64 t.high) := h5.t.cell 2; have q3 : w5.cell? ⟨wr.heap.size, 3, none⟩ = some (.bool false) := h5.t.cell 3; have q4 : w5.cell? ⟨wr.heap.size, 4, none⟩ = some (.string ⟨#[]⟩) := h5.t.cell 4; have q5 : w5.cell? ⟨wr.heap.size, 5, none⟩ = some (.string t.opq) := h5.t.cell 5; have q6 : w5.cell? ⟨wr.heap.size, 6, none⟩ = some (.int .i64 t.super) := h5.t.cell 6; have q7 : w5.cell? ⟨wr.heap.size, 7, none⟩ = some (.slice none 0 0) := h5.t.cell 7; have q8 : w5.cell? ⟨wr.heap.size, 8, none⟩ = some (.slice om t.meths.length cm) := h5.t.cell 8; have q9 : w5.cell? ⟨wr.heap.size, 9, none⟩ = some (.slice oo t.overs.length co) := h5.t.cell 9) | (go_at_call 93; refine (unhide HBB _).mono ?_; rintro e w6 ⟨rfl, hb6⟩))
        go_roundw
        case rel => exact ⟨k + 1, by omega, by go_num, HX, (hbw.trans (h5.bel.mono hbw.size)).trans (hb6.mono (Nat.le_trans hbw.size h5.bel.size))⟩
        case measure => simp [intOf]; omega
     ·have HB := Lib.hid (show tyB G t = (((((brandedB t && superB G t) && fieldsB G.length t) && methsB G.length t) && oversB t) && bareB { t with branded := false, brand := ⟨#[]⟩, super := 0 } (0 + 0 + 0)) by
        unfold tyB
        rcases hk with hk <;> rw [hk] <;> first | rfl | (rw [Bool.true_and]))
      have tb : ∀ o1 o2, ((wr.alloc o1).alloc o2).cell? ⟨tbl, t.kind, none⟩ = some (.func (.func 151) #[] #[]) := fun o1 o2 => by
       rcases hk with hk <;> rw [hk] <;> exact ((hTab.alloc o1).alloc o2).cell _
      have HBare := hide (fun w => isBare_any { t with branded := false, brand := ⟨#[]⟩, super := 0 } none none none 0 0 0 0 0 0 (by omega) w)
      have HBv : ∀ c, bareB { t with branded := false, brand := ⟨#[]⟩, super := 0 } (0 + 0 + 0) = c → Hide (∀ w, Calls Tryz.prog 93 #[tyVal { t with branded := false, brand := ⟨#[]⟩, super := 0 } (.slice none 0 0) (.slice none 0 0) (.slice none 0 0)] w fun e w' => e = .returned (.bool c) ∧ Below w.heap.size w w') := fun c hc => by rw [← hc]; exact HBare
      have HCall := hide (fun w (h : Own2 wr w (.slice (some ⟨b, off, none⟩) G.length cap) (wr.heap.size + 1) wr.heap.size true (tyC t (.slice op t.parts.length cp) (.slice om t.meths.length cm) (.slice oo t.overs.length co))) => object_own hGr hzt hl h)
      clear HBare hGr hl hTab hat hzt hk hz
      generalize bareB { t with branded := false, brand := ⟨#[]⟩, super := 0 } (0 + 0 + 0) = br at HB HBv
      generalize ((((brandedB t && superB G t) && fieldsB G.length t) && methsB G.length t) && oversB t) = fr at HB HCall
      cases fr
      ·have HX := Lib.hid (firstNo_at (p := tyB G) hlt HT.out (by rw [ht, HB.out]; rfl))
       clear HB HT HBv
       go_wp2_with (first | (go_at_call 92; refine (unhide HK _).mono ?_; rintro e w4 ⟨rfl, rfl⟩) | (go_at_call 151; refine (unhide HCall _ hOwn).mono ?_; clear hOwn; rintro e w5 ⟨rfl, h5⟩; have q1 : w5.cell? ⟨wr.heap.size + 1, 1, none⟩ = some (.bool false) := h5.c.cell 1))
       go_ret
       exact ⟨ret_int HX.out.symm, B1.trans ((hbw.trans (h5.bel.mono hbw.size)).mono B1.size)⟩
      ·cases br
       ·have HX := Lib.hid (firstNo_at (p := tyB G) hlt HT.out (by rw [ht, HB.out]; rfl))
        have HBB := HBv false rfl
        clear HB HT HBv
        go_wp2_with (first | (go_at_call 92; refine (unhide HK _).mono ?_; rintro e w4 ⟨rfl, rfl⟩) | (go_at_call 151; refine (unhide HCall _ hOwn).mono ?_; clear hOwn; rintro e w5 ⟨rfl, h5⟩; have r1 : w5.cell? ⟨wr.heap.size + 1, 1, none⟩ = some (.bool true) := h5.c.cell 1; have q0 : w5.cell? ⟨wr.heap.size, 0, none⟩ = some (.int .u8 t.kind) := h5.t.cell 0; have q1 : w5.cell? ⟨wr.heap.size, 1, none⟩ = some (.int .i64 t.low) := h5.t.cell 1; have q2 : w5.cell? ⟨wr.heap.size, 2, none⟩ = some (.int .i64 t.high) := h5.t.cell 2; have q3 : w5.cell? ⟨wr.heap.size, 3, none⟩ = some (.bool false) := h5.t.cell 3; have q4 : w5.cell? ⟨wr.heap.size, 4, none⟩ = some (.string ⟨#[]⟩) := h5.t.cell 4; have q5 : w5.cell? ⟨wr.heap.size, 5, none⟩ = some (.string t.opq) := h5.t.cell 5; have q6 : w5.cell? ⟨wr.heap.size, 6, none⟩ = some (.int .i64 0) := h5.t.cell 6; have q7 : w5.cell? ⟨wr.heap.size, 7, none⟩ = some (.slice none 0 0) := h5.t.cell 7; have q8 : w5.cell? ⟨wr.heap.size, 8, none⟩ = some (.slice none 0 0) := h5.t.cell 8; have q9 : w5.cell? ⟨wr.heap.size, 9, none⟩ = some (.slice none 0 0) := h5.t.cell 9) | (go_at_call 93; refine (unhide HBB _).mono ?_; rintro e w6 ⟨rfl, hb6⟩))
        go_ret
        exact ⟨ret_int HX.out.symm, B1.trans (((hbw.trans (h5.bel.mono hbw.size)).trans (hb6.mono (Nat.le_trans hbw.size h5.bel.size))).mono B1.size)⟩
       ·have HX := Lib.hid (show (G.take (k + 1)).all (tyB G) = true by rw [all_take _ _ _ hlt, HT.out, ht, HB.out]; rfl)
        have HBB := HBv true rfl
        clear HB HT HBv
        go_wp2_with (first | (go_at_call 92; refine (unhide HK _).mono ?_; rintro e w4 ⟨rfl, rfl⟩) | (go_at_call 151; refine (unhide HCall _ hOwn).mono ?_; clear hOwn; rintro e w5 ⟨rfl, h5⟩; have r1 : w5.cell? ⟨wr.heap.size + 1, 1, none⟩ = some (.bool true) := h5.c.cell 1; have q0 : w5.cell? ⟨wr.heap.size, 0, none⟩ = some (.int .u8 t.kind) := h5.t.cell 0; have q1 : w5.cell? ⟨wr.heap.size, 1, none⟩ = some (.int .i64 t.low) := h5.t.cell 1; have q2 : w5.cell? ⟨wr.heap.size, 2, none⟩ = some (.int .i64 t.high) := h5.t.cell 2; have q3 : w5.cell? ⟨wr.heap.size, 3, none⟩ = some (.bool false) := h5.t.cell 3; have q4 : w5.cell? ⟨wr.heap.size, 4, none⟩ = some (.string ⟨#[]⟩) := h5.t.cell 4; have q5 : w5.cell? ⟨wr.heap.size, 5, none⟩ = some (.string t.opq) := h5.t.cell 5; have q6 : w5.cell? ⟨wr.heap.size, 6, none⟩ = some (.int .i64 0) := h5.t.cell 6; have q7 : w5.cell? ⟨wr.heap.size, 7, none⟩ = some (.slice none 0 0) := h5.t.cell 7; have q8 : w5.cell? ⟨wr.heap.size, 8, none⟩ = some (.slice none 0 0) := h5.t.cell 8; have q9 : w5.cell? ⟨wr.heap.size, 9, none⟩ = some (.slice none 0 0) := h5.t.cell 9) | (go_at_call 93; refine (unhide HBB _).mono ?_; rintro e w6 ⟨rfl, hb6⟩))
        go_roundw
        case rel => exact ⟨k + 1, by omega, by go_num, HX, (hbw.trans (h5.bel.mono hbw.size)).trans (hb6.mono (Nat.le_trans hbw.size h5.bel.size))⟩
        case measure => simp [intOf]; omega
     ·have HB := Lib.hid (show tyB G t = ((symB (bs t.opq) && superB G t) && bareB { t with opq := ⟨#[]⟩, super := 0 } (t.parts.length + t.meths.length + t.overs.length)) by
        unfold tyB
        rcases hk with hk <;> rw [hk] <;> first | rfl | (rw [Bool.true_and]))
      have tb : ∀ o1 o2, ((wr.alloc o1).alloc o2).cell? ⟨tbl, t.kind, none⟩ = some (.func (.func 152) #[] #[]) := fun o1 o2 => by
       rcases hk with hk <;> rw [hk] <;> exact ((hTab.alloc o1).alloc o2).cell _
      have HBare := hide (fun w => isBare_any { t with opq := ⟨#[]⟩, super := 0 } op om oo t.parts.length t.meths.length t.overs.length cp cm co (by omega) w)
      have HBv : ∀ c, bareB { t with opq := ⟨#[]⟩, super := 0 } (t.parts.length + t.meths.length + t.overs.length) = c → Hide (∀ w, Calls Tryz.prog 93 #[tyVal { t with opq := ⟨#[]⟩, super := 0 } (.slice op t.parts.length cp) (.slice om t.meths.length cm) (.slice oo t.overs.length co)] w fun e w' => e = .returned (.bool c) ∧ Below w.heap.size w w') := fun c hc => by rw [← hc]; exact HBare
      have HCall := hide (fun w (h : Own2 wr w (.slice (some ⟨b, off, none⟩) G.length cap) (wr.heap.size + 1) wr.heap.size true (tyC t (.slice op t.parts.length cp) (.slice om t.meths.length cm) (.slice oo t.overs.length co))) => opaque_own hGr hzt h)
      clear HBare hGr hl hTab hat hzt hk hz
      generalize bareB { t with opq := ⟨#[]⟩, super := 0 } (t.parts.length + t.meths.length + t.overs.length) = br at HB HBv
      generalize (symB (bs t.opq) && superB G t) = fr at HB HCall
      cases fr
      ·have HX := Lib.hid (firstNo_at (p := tyB G) hlt HT.out (by rw [ht, HB.out]; rfl))
       clear HB HT HBv
       go_wp2_with (first | (go_at_call 92; refine (unhide HK _).mono ?_; rintro e w4 ⟨rfl, rfl⟩) | (go_at_call 152; refine (unhide HCall _ hOwn).mono ?_; clear hOwn; rintro e w5 ⟨rfl, h5⟩; have q1 : w5.cell? ⟨wr.heap.size + 1, 1, none⟩ = some (.bool false) := h5.c.cell 1))
       go_ret
       exact ⟨ret_int HX.out.symm, B1.trans ((hbw.trans (h5.bel.mono hbw.size)).mono B1.size)⟩
      ·cases br
       ·have HX := Lib.hid (firstNo_at (p := tyB G) hlt HT.out (by rw [ht, HB.out]; rfl))
        have HBB := HBv false rfl
        clear HB HT HBv
        go_wp2_with (first | (go_at_call 92; refine (unhide HK _).mono ?_; rintro e w4 ⟨rfl, rfl⟩) | (go_at_call 152; refine (unhide HCall _ hOwn).mono ?_; clear hOwn; rintro e w5 ⟨rfl, h5⟩; have r1 : w5.cell? ⟨wr.heap.size + 1, 1, none⟩ = some (.bool true) := h5.c.cell 1; have q0 : w5.cell? ⟨wr.heap.size, 0, none⟩ = some (.int .u8 t.kind) := h5.t.cell 0; have q1 : w5.cell? ⟨wr.heap.size, 1, none⟩ = some (.int .i64 t.low) := h5.t.cell 1; have q2 : w5.cell? ⟨wr.heap.size, 2, none⟩ = some (.int .i64 t.high) := h5.t.cell 2; have q3 : w5.cell? ⟨wr.heap.size, 3, none⟩ = some (.bool t.branded) := h5.t.cell 3; have q4 : w5.cell? ⟨wr.heap.size, 4, none⟩ = some (.string t.brand) := h5.t.cell 4; have q5 : w5.cell? ⟨wr.heap.size, 5, none⟩ = some (.string ⟨#[]⟩) := h5.t.cell 5; have q6 : w5.cell? ⟨wr.heap.size, 6, none⟩ = some (.int .i64 0) := h5.t.cell 6; have q7 : w5.cell? ⟨wr.heap.size, 7, none⟩ = some (.slice op t.parts.length cp) := h5.t.cell 7; have q8 : w5.cell? ⟨wr.heap.size, 8, none⟩ = some (.slice om t.meths.length cm) := h5.t.cell 8; have q9 : w5.cell? ⟨wr.heap.size, 9, none⟩ = some (.slice oo t.overs.length co) := h5.t.cell 9) | (go_at_call 93; refine (unhide HBB _).mono ?_; rintro e w6 ⟨rfl, hb6⟩))
        go_ret
        exact ⟨ret_int HX.out.symm, B1.trans (((hbw.trans (h5.bel.mono hbw.size)).trans (hb6.mono (Nat.le_trans hbw.size h5.bel.size))).mono B1.size)⟩
       ·have HX := Lib.hid (show (G.take (k + 1)).all (tyB G) = true by rw [all_take _ _ _ hlt, HT.out, ht, HB.out]; rfl)
        have HBB := HBv true rfl
        clear HB HT HBv
        go_wp2_with (first | (go_at_call 92; refine (unhide HK _).mono ?_; rintro e w4 ⟨rfl, rfl⟩) | (go_at_call 152; refine (unhide HCall _ hOwn).mono ?_; clear hOwn; rintro e w5 ⟨rfl, h5⟩; have r1 : w5.cell? ⟨wr.heap.size + 1, 1, none⟩ = some (.bool true) := h5.c.cell 1; have q0 : w5.cell? ⟨wr.heap.size, 0, none⟩ = some (.int .u8 t.kind) := h5.t.cell 0; have q1 : w5.cell? ⟨wr.heap.size, 1, none⟩ = some (.int .i64 t.low) := h5.t.cell 1; have q2 : w5.cell? ⟨wr.heap.size, 2, none⟩ = some (.int .i64 t.high) := h5.t.cell 2; have q3 : w5.cell? ⟨wr.heap.size, 3, none⟩ = some (.bool t.branded) := h5.t.cell 3; have q4 : w5.cell? ⟨wr.heap.size, 4, none⟩ = some (.string t.brand) := h5.t.cell 4; have q5 : w5.cell? ⟨wr.heap.size, 5, none⟩ = some (.string ⟨#[]⟩) := h5.t.cell 5; have q6 : w5.cell? ⟨wr.heap.size, 6, none⟩ = some (.int .i64 0) := h5.t.cell 6; have q7 : w5.cell? ⟨wr.heap.size, 7, none⟩ = some (.slice op t.parts.length cp) := h5.t.cell 7; have q8 : w5.cell? ⟨wr.heap.size, 8, none⟩ = some (.slice om t.meths.length cm) := h5.t.cell 8; have q9 : w5.cell? ⟨wr.heap.size, 9, none⟩ = some (.slice oo t.overs.length co) := h5.t.cell 9) | (go_at_call 93; refine (unhide HBB _).mono ?_; rintro e w6 ⟨rfl, hb6⟩))
        go_roundw
        case rel => exact ⟨k + 1, by omega, by go_num, HX, (hbw.trans (h5.bel.mono hbw.size)).trans (hb6.mono (Nat.le_trans hbw.size h5.bel.size))⟩
        case measure => simp [intOf]; omega
    ·rw [show decide (1 ≤ (t.kind : Int) ∧ (t.kind : Int) ≤ 13) = false from decide_eq_false (by omega)] at hK
     have HK := hide hK
     have HX := Lib.hid (firstNo_at (p := tyB G) hlt HT.out (by rw [ht]; exact tyB_no hkk))
     clear hK hkk hat HT hOwn hGr hl
     go_wp2_with (first | (go_at_call 92; refine (unhide HK _).mono ?_; rintro e w4 ⟨rfl, rfl⟩))
     go_ret
     exact ⟨ret_int HX.out.symm, B1.trans ((hbw.alloc hbw.size _).mono B1.size)⟩
   ·obtain rfl : k = G.length := by omega
    have HX := Lib.hid (firstNo_none (p := tyB G) (l := G) (by have := HT.out; rwa [List.take_length] at this))
    go_wp2
    go_ret
    exact ⟨ret_int HX.out.symm, B1.trans (hbw.mono B1.size)⟩
end Go.Proofs.YteaokkaidcbdlaaGreatDoor

