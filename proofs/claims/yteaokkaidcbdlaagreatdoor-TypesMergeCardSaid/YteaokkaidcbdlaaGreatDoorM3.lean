/- Part 3 of 53: the texts No, Fl, one behind the other. -/
import Derived.Test.YteaokkaidcbdlaaGreatDoorM2
namespace Go.Proofs.YteaokkaidcbdlaaGreatDoor
open Go Go.RowKit Go.Shelf
theorem clo279 {x y : ByteArray} (w : World) : Calls Tryz.prog 279 #[.agg #[.string x, .string y]] w fun e w' => e = .returned (.string x) ∧ w' = w.alloc (.cells #[.string x, .string y] 116) := by
 go_enter Tryz.func279, Tryz.ntmps279
 go_wp2
 go_ret
 exact ⟨rfl, rfl⟩
set_option maxRecDepth 100000 in
set_option maxHeartbeats 4000000 in
theorem namedO_any (v : Value) (ps : List OverD) (W0 : World) (hP : SliceOf 2 (OverAt W0) v ps) (hz : ∀ p ∈ ps, p.name.size ≤ maxLen) (W : World) (hB0 : Below W0.heap.size W0 W) :
    Calls Tryz.prog 278 #[v, .func (.func 279) #[] #[]] W fun e w' => e = .returned (.bool (namedB (ps.map (·.name)))) ∧ Below W.heap.size W w' := by
  obtain ⟨o, cap, rfl⟩ := hP.form
  obtain ⟨_, hcm, hlc, hat⟩ := hP.at
  by_cases h8 : ps.length ≤ 8
  ·have HN := Lib.hid (show namedB (ps.map (·.name)) = namedFrom [] (ps.map (·.name)) by unfold namedB; simp [h8])
   have hlm : ps.length ≤ 9223372036854775807 := by omega
   clear hP hcm hlc
   go_enter Tryz.func278, Tryz.ntmps278
   go_wp2
   go_loopw [5, 14] (fun vn i wr => ∃ k : Nat, k ≤ ps.length ∧ i = .int .i64 k ∧ wr.ownsRow W.heap.size 9 1 vn k ((ps.take k).map fun p => .string p.name) ∧ Below W.heap.size W wr ∧
    Hid (namedFrom [] (ps.map (·.name)) = namedFrom ((ps.take k).map (·.name)) ((ps.drop k).map (·.name)))) (fun _ i _ => ps.length - (intOf i).toNat)
   case atStart => exact ⟨0, Nat.zero_le _, rfl, World.ownsRow_nil _ _ _ _, Below.refl _ _, Lib.hid rfl⟩
   case round =>
    obtain ⟨k, hk, rfl, hown, hbw, HF⟩ := hrel
    by_cases hlt : k < ps.length
    ·have hpk : ps[k]? = some ps[k] := List.getElem?_eq_getElem hlt
     obtain ⟨b, off, rfl, hcell⟩ := hat k ps[k] hpk
     have hbel : Below W0.heap.size W0 wr := hB0.trans (hbw.mono hB0.size)
     have hhold := Holds.below hbel
     have HP := Lib.hid (show (ps.drop k).map (·.name) = ps[k].name :: (ps.drop (k + 1)).map (·.name) by rw [List.drop_eq_getElem_cons hlt]; rfl)
     have HT := Lib.hid (List.take_succ_eq_append_getElem hlt)
     have hsz := hz ps[k] (List.getElem_mem hlt)
     have hlt' : (k : Int) < ps.length := by omega
     have hbs := hbw.size
     skip
     have d0 : wr.cell? ⟨b, off + k * 2, none⟩ = some (.string ps[k].name) := hhold _ _ hcell.1
     have d1 : wr.cell? ⟨b, off + k * 2 + 1, none⟩ = some (.string ps[k].proc) := hhold _ _ hcell.2
     have hnm := isName_any ps[k].name hsz
     clear hat hcell hbel hpk hhold hz hsz
     have BL := (hbw.alloc hbs (.cells #[.string ps[k].name, .string ps[k].proc] 116)).alloc (Nat.le_trans hbs (by simp)) (.cells #[.string ps[k].name, .string ps[k].proc] 116)
     have RO := (hown.alloc (.cells #[.string ps[k].name, .string ps[k].proc] 116)).alloc (.cells #[.string ps[k].name, .string ps[k].proc] 116)
     have hlen : ((ps.take k).map fun p => (Value.string p.name)).length = k := by simp; omega
     have hlen2 : ((ps.take k).map (·.name)).length = k := by simp; omega
     have hmap : ((ps.take k).map fun p => (Value.string p.name)) = ((ps.take k).map (·.name)).map Value.string := by rw [List.map_map]; rfl
     cases hnb : nameB (bs ps[k].name) with
     | false =>
       rw [hnb] at hnm
       have HM := hide hnm
       have HX := Lib.hid (show namedFrom [] (ps.map (·.name)) = false by rw [HF.out, HP.out]; rw [namedFrom_cons, hnb]; rfl)
       clear hnm hnb hown HF HP HT RO hmap hlen hlen2
       go_wp2_with (first | (go_at_call 279; refine (clo279 _).mono ?_; rintro e w4 ⟨rfl, rfl⟩) | (go_at_call 19; refine (unhide HM _).mono ?_; rintro e w4 ⟨rfl, rfl⟩))
       go_ret
       exact ⟨ret_bool (by rw [HN.out, HX.out]), BL⟩
     | true =>
       rw [hnb] at hnm
       have HM := hide hnm
       have HX := Lib.hid (show namedFrom [] (ps.map (·.name)) = (!Lib.containsS ((ps.take k).map (·.name)) ps[k].name && namedFrom ((ps.take k).map (·.name) ++ [ps[k].name]) ((ps.drop (k + 1)).map (·.name))) by
        rw [HF.out, HP.out]; rw [namedFrom_cons, hnb]; rfl)
       have HC : Hide (∀ w', w' = ((wr.alloc (.cells #[.string ps[k].name, .string ps[k].proc] 116)).alloc (.cells #[.string ps[k].name, .string ps[k].proc] 116)) → Calls Tryz.prog 281 #[u5, .string ps[k].name] w' fun e w2 => e = .returned (.bool (Lib.containsS ((ps.take k).map (·.name)) ps[k].name)) ∧ w2 = w') := by
        rintro w' rfl
        rcases hown.2 with ⟨rfl, hk0⟩ | ⟨g, cap2, cur, rfl, hg⟩
        ·subst hk0
         exact Tryz.slices_Contains_string_empty none 0 _ _
        ·have := Tryz.slices_Contains_string g 0 k cap2 ((ps.take k).map (·.name)) ps[k].name ((wr.alloc (.cells #[.string ps[k].name, .string ps[k].proc] 116)).alloc (.cells #[.string ps[k].name, .string ps[k].proc] 116)) (by omega) (by omega) (fun j hj => by
           rw [Nat.zero_add, Row1.cells RO j (by omega), hmap]; exact strs_get _ _ hj)
         rwa [List.take_of_length_le (by omega)] at this
       clear hnm hnb HF HP hmap
       generalize hcb : Lib.containsS ((ps.take k).map (·.name)) ps[k].name = cb at HX HC
       clear hcb
       cases cb with
       | true =>
         clear hown RO hlen hlen2 HT
         go_wp2_with (first | (go_at_call 279; refine (clo279 _).mono ?_; rintro e w4 ⟨rfl, rfl⟩) | (go_at_call 19; refine (unhide HM _).mono ?_; rintro e w4 ⟨rfl, rfl⟩) | (go_at_call 281; refine (unhide HC _ rfl).mono ?_; rintro e w4 ⟨rfl, rfl⟩))
         go_ret
         exact ⟨ret_bool (by rw [HN.out, HX.out]; rfl), BL⟩
       | false =>
         have RO2 := RO.alloc (.cells #[.string ps[k].name] 9)
         have BL2 := BL.alloc BL.size (.cells #[.string ps[k].name] 9)
         have HL := Lib.hid hlen
         clear hown RO BL hlen2 hlen
         go_wp2_with (first | (go_at_call 279; refine (clo279 _).mono ?_; rintro e w4 ⟨rfl, rfl⟩) | (go_at_call 19; refine (unhide HM _).mono ?_; rintro e w4 ⟨rfl, rfl⟩) | (go_at_call 281; refine (unhide HC _ rfl).mono ?_; rintro e w4 ⟨rfl, rfl⟩) | (at_builtin; refine app_one _ _ 70 9 (.string ⟨#[]⟩) 16 info9 Tryz.underlying70 rfl (by decide) rfl rfl W.heap.size _ ((ps.take k).map fun p => .string p.name) rfl (by rw [HL.out]; exact RO2) _ (.string ps[k].name) rfl ?c1 rfl (by rw [HL.out]; omega) BL2.size ?_))
         case c1 =>
          have hb := (Blk.new ((wr.alloc (.cells #[.string ps[k].name, .string ps[k].proc] 116)).alloc (.cells #[.string ps[k].name, .string ps[k].proc] 116)) [.string ps[k].name] 9).cell 0
          rw [World.size_alloc, World.size_alloc] at hb
          exact hb
         intro g cap2 w5 hown' _ hbl
         have BL3 := hbl _ _ BL2 (Nat.le_refl _)
         clear BL2 RO2 hbl
         go_wp2
         go_roundw
         case rel => exact ⟨k + 1, by omega, by go_num, by rw [HT.out, List.map_append, List.map_take]; exact hown', BL3, Lib.hid (by rw [HX.out, HT.out, List.map_append]; rfl)⟩
         case measure => simp [intOf]; omega
    ·obtain rfl : k = ps.length := by omega
     have HX := Lib.hid (show namedFrom [] (ps.map (·.name)) = true by rw [HF.out, List.drop_length]; rfl)
     go_wp2
     go_ret
     exact ⟨ret_bool (by rw [HN.out, HX.out]), hbw⟩
  ·have HN := Lib.hid (show namedB (ps.map (·.name)) = false by unfold namedB; simp [h8])
   have h8' : (8 : Int) < ps.length := by omega
   clear hP hat
   go_enter Tryz.func278, Tryz.ntmps278
   go_wp2
   go_ret
   exact ⟨ret_bool (by rw [HN.out]), Below.refl _ _⟩
end Go.Proofs.YteaokkaidcbdlaaGreatDoor

namespace Go.Proofs.YteaokkaidcbdlaaGreatDoor
open Go Go.RowKit Go.Shelf
def fieldsB (n : Nat) (t : TyD) : Bool := (decide (0 < t.parts.length) || !decide (t.kind = 10)) && (namedB (t.parts.map (·.name)) && t.parts.all fun p => idxB n p.type)
theorem Own2.below {W0 W W' : World} {gv : Value} {bc bt : Nat} {f : Bool} {cs : List Value} (h : Own2 W0 W gv bc bt f cs) (hb : Below W.heap.size W W') : Own2 W0 W' gv bc bt f cs :=
 ⟨h.bel.trans (hb.mono h.bel.size), h.c.below hb h.c.lt, h.t.below hb h.t.lt, h.hc, h.ht, h.ne⟩
theorem Own2.alloc {W0 W : World} {gv : Value} {bc bt : Nat} {f : Bool} {cs : List Value} (h : Own2 W0 W gv bc bt f cs) (o : Obj) : Own2 W0 (W.alloc o) gv bc bt f cs :=
 h.below ((Below.refl _ _).alloc (Nat.le_refl _) o)
theorem all_take {α : Type} (p : α → Bool) (l : List α) (k : Nat) (h : k < l.length) : (l.take (k + 1)).all p = ((l.take k).all p && p l[k]) := by
 rw [List.take_succ_eq_append_getElem h, List.all_append]; simp
set_option maxRecDepth 100000 in
set_option maxHeartbeats 4000000 in
theorem fields_any {W0 W : World} {o : Option Addr} {n cap : Nat} {bc bt : Nat} {f : Bool} {t : TyD} {vp vm vo : Value} (hl : TyL W0 vp vm vo t) (hz : ∀ p ∈ t.parts, p.name.size ≤ maxLen) (h : Own2 W0 W (.slice o n cap) bc bt f (tyC t vp vm vo)) :
    Calls Tryz.prog 264 #[.pointer (some ⟨bc, 0, none⟩), .pointer (some ⟨bt, 0, none⟩)] W fun e w' => e = .returned (.tuple #[]) ∧
     Own2 W0 w' (.slice o n cap) bc bt (f && fieldsB n t) (tyC t (.slice none 0 0) vm vo) := by
  have hP0 := hl.parts
  obtain ⟨op, cp, rfl⟩ := hP0.form
  obtain ⟨_, hm, hlc, hat⟩ := hP0.at
  have t0 : W.cell? ⟨bt, 0, none⟩ = some (.int .u8 t.kind) := h.t.cell 0
  have t7 : W.cell? ⟨bt, 7, none⟩ = some (.slice op t.parts.length cp) := h.t.cell 7
  have hlm : t.parts.length ≤ 9223372036854775807 := by unfold maxLen at hm; omega
  have HNM := hide (namedP_any _ t.parts W0 hP0 hz)
  obtain ⟨N, hN⟩ : ∃ N, t.parts.length = N := ⟨_, rfl⟩
  obtain ⟨x, HB, hx⟩ : ∃ x, Hid (fieldsB n t = (x && (namedB (t.parts.map (·.name)) && t.parts.all fun p => idxB n p.type))) ∧
      ((x = true ∧ (0 : Int) < N) ∨ (x = !decide (t.kind = 10) ∧ decide ((0 : Int) < N) = false ∧ ((t.kind : Int) != 10) = x)) := by
    refine ⟨_, Lib.hid rfl, ?_⟩
    by_cases h0 : 0 < t.parts.length
    ·exact .inl ⟨by simp [h0], by omega⟩
    ·refine .inr ⟨by simp [h0], decide_eq_false (by omega), ?_⟩
     have : ((t.kind : Int) != 10) = !decide (t.kind = 10) := by
      rw [Bool.eq_iff_iff]; simp; omega
     rw [this]; simp [h0]
  rw [hN] at t7 HNM hlm h
  clear hl hP0 hm hlc hz
  generalize namedB (t.parts.map (·.name)) = nb at HB HNM
  have HN := Lib.hid hN
  clear hN
  rcases hx with ⟨rfl, hx1⟩ | ⟨hxx, hx1, hx2⟩
  rotate_left
  clear hxx
  rotate_left
  ·go_enter Tryz.func264, Tryz.ntmps264
   go_wp2_with (first | (go_at_call 271; refine (need_own h _).mono ?_; clear h t0 t7; rintro e w1 ⟨rfl, h1⟩; have c7 : w1.cell? ⟨bt, 7, none⟩ = some (.slice op N cp) := h1.t.cell 7) | (go_at_call 273; refine (unhide HNM _ h1.bel).mono ?_; rintro e w2 ⟨rfl, hb2⟩; have h2 := h1.below hb2; clear h1 c7 hb2) | (go_at_call 271; refine (need_own h2 _).mono ?_; clear h2; rintro e w3 ⟨rfl, h3⟩; have c7 : w3.cell? ⟨bt, 7, none⟩ = some (.slice op N cp) := h3.t.cell 7))
   go_loopw [5, 33] (fun u i wr => ∃ k : Nat, k ≤ N ∧ i = .int .i64 k ∧ Own2 W0 wr (.slice o n cap) bc bt (((f && true) && nb) && (t.parts.take k).all fun p => idxB n p.type) (tyC t (.slice op N cp) vm vo)) (fun _ i _ => N - (intOf i).toNat)
   case atStart => exact ⟨0, Nat.zero_le _, rfl, by simpa using h3⟩
   case round =>
    obtain ⟨k, hk, rfl, h4⟩ := hrel
    by_cases hlt : k < N
    ·have hltp : k < t.parts.length := by rw [HN.out]; exact hlt
     obtain ⟨b, off, rfl, e0, e1⟩ := hat k t.parts[k] (List.getElem?_eq_getElem hltp)
     have d0 : wr.cell? ⟨b, off + k * 2, none⟩ = some (.string t.parts[k].name) := Holds.below h4.bel _ _ e0
     have d1 : wr.cell? ⟨b, off + k * 2 + 1, none⟩ = some (.int .i64 t.parts[k].type) := Holds.below h4.bel _ _ e1
     have HA := Lib.hid (all_take (fun p => idxB n p.type) t.parts k hltp)
     have hlt' : (k : Int) < N := by omega
     generalize t.parts[k].name = nm at d0
     generalize t.parts[k].type = ty at d1 HA
     clear hat e0 e1
     go_wp2_with (first | (go_at_call 265; refine (index_own (h4.alloc _) _).mono ?_; clear h4 d0 d1; rintro e w5 ⟨rfl, h5⟩))
     go_roundw
     case rel => exact ⟨k + 1, by omega, by go_num, by rw [HA.out, ← Bool.and_assoc]; exact h5⟩
     case measure => simp [intOf]; omega
    ·obtain rfl : k = N := by omega
     have HA := Lib.hid (show (t.parts.take k).all (fun p => idxB n p.type) = t.parts.all fun p => idxB n p.type by rw [List.take_of_length_le (by rw [HN.out]; exact Nat.le_refl _)])
     rw [HA.out] at h4
     have c7 : wr.cell? ⟨bt, 7, none⟩ = some (.slice op k cp) := h4.t.cell 7
     have z7 := h4.t.frozen 7
     clear hat
     go_wp2
     go_end0
     exact ⟨rfl, by rw [HB.out, ← Bool.and_assoc, ← Bool.and_assoc]; exact h4.setT 7 (.slice none 0 0)⟩
  ·have hN0 : N = 0 := by
     have := of_decide_eq_false hx1
     omega
   subst hN0
   clear hx1 hat
   have HA := Lib.hid (show (t.parts.all fun p => idxB n p.type) = true by rw [List.length_eq_zero_iff.1 HN.out]; rfl)
   go_enter Tryz.func264, Tryz.ntmps264
   go_wp2_with (first | (go_at_call 271; refine (need_own h _).mono ?_; clear h t0 t7; rintro e w1 ⟨rfl, h1⟩; have c7 : w1.cell? ⟨bt, 7, none⟩ = some (.slice op 0 cp) := h1.t.cell 7) | (go_at_call 273; refine (unhide HNM _ h1.bel).mono ?_; rintro e w2 ⟨rfl, hb2⟩; have h2 := h1.below hb2; clear h1 c7 hb2) | (go_at_call 271; refine (need_own h2 _).mono ?_; clear h2; rintro e w3 ⟨rfl, h3⟩; have c7 : w3.cell? ⟨bt, 7, none⟩ = some (.slice op 0 cp) := h3.t.cell 7))
   go_loopw [5, 33] (fun u i wr => i = .int .i64 0 ∧ Own2 W0 wr (.slice o n cap) bc bt ((f && x) && nb) (tyC t (.slice op 0 cp) vm vo)) (fun _ i _ => 0)
   case atStart => exact ⟨rfl, by simpa using h3⟩
   case round =>
    obtain ⟨rfl, h4⟩ := hrel
    have c7 : wr.cell? ⟨bt, 7, none⟩ = some (.slice op 0 cp) := h4.t.cell 7
    have z7 := h4.t.frozen 7
    go_wp2
    go_end0
    exact ⟨rfl, by rw [HB.out, HA.out, Bool.and_true, ← Bool.and_assoc]; exact h4.setT 7 (.slice none 0 0)⟩
def oversB (t : TyD) : Bool := namedB (t.overs.map (·.name)) && t.overs.all fun p => symB (bs p.proc)
set_option maxRecDepth 100000 in
set_option maxHeartbeats 4000000 in
theorem overs_any {W0 W : World} {gv : Value} {bc bt : Nat} {f : Bool} {t : TyD} {vp vm vo : Value} (hl : TyL W0 vp vm vo t) (hz : ∀ p ∈ t.overs, p.name.size ≤ maxLen ∧ p.proc.size ≤ maxLen) (h : Own2 W0 W gv bc bt f (tyC t vp vm vo)) :
    Calls Tryz.prog 268 #[.pointer (some ⟨bc, 0, none⟩), .pointer (some ⟨bt, 0, none⟩)] W fun e w' => e = .returned (.tuple #[]) ∧
     Own2 W0 w' gv bc bt (f && oversB t) (tyC t vp vm (.slice none 0 0)) := by
  have hP0 := hl.overs
  obtain ⟨op, cp, rfl⟩ := hP0.form
  obtain ⟨_, hm, hlc, hat⟩ := hP0.at
  have t9 : W.cell? ⟨bt, 9, none⟩ = some (.slice op t.overs.length cp) := h.t.cell 9
  have hlm : t.overs.length ≤ 9223372036854775807 := by unfold maxLen at hm; omega
  have HNM := hide (namedO_any _ t.overs W0 hP0 (fun p hp => (hz p hp).1))
  obtain ⟨N, hN⟩ : ∃ N, t.overs.length = N := ⟨_, rfl⟩
  have HB := Lib.hid (show oversB t = (namedB (t.overs.map (·.name)) && t.overs.all fun p => symB (bs p.proc)) from rfl)
  rw [hN] at t9 HNM hlm h
  clear hl hP0 hm hlc
  generalize namedB (t.overs.map (·.name)) = nb at HB HNM
  have HN := Lib.hid hN
  clear hN
  go_enter Tryz.func268, Tryz.ntmps268
  go_wp2_with (first | (go_at_call 278; refine (unhide HNM _ h.bel).mono ?_; rintro e w2 ⟨rfl, hb2⟩; have h2 := h.below hb2; clear h t9 hb2) | (go_at_call 271; refine (need_own h2 _).mono ?_; clear h2; rintro e w3 ⟨rfl, h3⟩; have c9 : w3.cell? ⟨bt, 9, none⟩ = some (.slice op N cp) := h3.t.cell 9))
  go_loopw [5, 18] (fun u i wr => ∃ k : Nat, k ≤ N ∧ i = .int .i64 k ∧ Own2 W0 wr gv bc bt ((f && nb) && (t.overs.take k).all fun p => symB (bs p.proc)) (tyC t vp vm (.slice op N cp))) (fun _ i _ => N - (intOf i).toNat)
  case atStart => exact ⟨0, Nat.zero_le _, rfl, by simpa using h3⟩
  case round =>
   obtain ⟨k, hk, rfl, h4⟩ := hrel
   by_cases hlt : k < N
   ·have hltp : k < t.overs.length := by rw [HN.out]; exact hlt
    obtain ⟨b, off, rfl, e0, e1⟩ := hat k t.overs[k] (List.getElem?_eq_getElem hltp)
    have d0 : wr.cell? ⟨b, off + k * 2, none⟩ = some (.string t.overs[k].name) := Holds.below h4.bel _ _ e0
    have d1 : wr.cell? ⟨b, off + k * 2 + 1, none⟩ = some (.string t.overs[k].proc) := Holds.below h4.bel _ _ e1
    have HA := Lib.hid (all_take (fun p => symB (bs p.proc)) t.overs k hltp)
    have hlt' : (k : Int) < N := by omega
    have hsz := (hz t.overs[k] (List.getElem_mem hltp)).2
    generalize t.overs[k].name = nm at d0
    generalize t.overs[k].proc = ty at d1 HA hsz
    clear hat e0 e1 hz
    go_wp2_with (first | (go_at_call 21; refine (isSymbol_any _ hsz _).mono ?_; rintro e w5 ⟨rfl, nq, rfl⟩) | (go_at_call 271; refine (need_own ((h4.alloc _).drewN nq) _).mono ?_; clear h4 d0 d1; rintro e w5 ⟨rfl, h5⟩))
    go_roundw
    case rel => exact ⟨k + 1, by omega, by go_num, by rw [HA.out, ← Bool.and_assoc]; exact h5⟩
    case measure => simp [intOf]; omega
   ·obtain rfl : k = N := by omega
    have HA := Lib.hid (show (t.overs.take k).all (fun p => symB (bs p.proc)) = t.overs.all fun p => symB (bs p.proc) by rw [List.take_of_length_le (by rw [HN.out]; exact Nat.le_refl _)])
    rw [HA.out] at h4
    have c9 : wr.cell? ⟨bt, 9, none⟩ = some (.slice op k cp) := h4.t.cell 9
    have z9 := h4.t.frozen 9
    clear hat
    go_wp2
    go_end0
    exact ⟨rfl, by rw [HB.out, ← Bool.and_assoc]; exact h4.setT 9 (.slice none 0 0)⟩
end Go.Proofs.YteaokkaidcbdlaaGreatDoor

