/- Part 52 of 53: the texts Wc, Wh, Wp, Wu, one behind the other. -/
import Derived.Test.YteaokkaidcbdlaaGreatDoorM47
import Derived.Test.YteaokkaidcbdlaaGreatDoorM28
import Derived.Test.YteaokkaidcbdlaaGreatDoorM51
import Derived.Test.YteaokkaidcbdlaaGreatDoorM31
import Derived.Test.YteaokkaidcbdlaaGreatDoorM30
namespace Go.Proofs.YteaokkaidcbdlaaGreatDoor
open Go Go.RowKit Go.Shelf
def mN (G : List TyD) (k q : Nat) : Nat := (mergeS (clF G) k).2.getD q 0
theorem mN_old {G : List TyD} {k q : Nat} (h : q < k) : mN G (k + 1) q = mN G k q := by
 have hl := (mergeS_len (clF G) k).1
 unfold mN
 rw [mergeS]
 split <;> simp only [List.getD_eq_getElem?_getD] <;> rw [List.getElem?_append_left (by omega)]
theorem mN_new {G : List TyD} {k : Nat} : mN G (k + 1) k = if clF G k = k then (mergeS (clF G) k).1.length else mN G k (clF G k) := by
 have hl := (mergeS_len (clF G) k).1
 unfold mN
 rw [mergeS]
 split <;> simp only [List.getD_eq_getElem?_getD] <;> rw [List.getElem?_append_right (by omega), hl, Nat.sub_self] <;> rfl
theorem mL_new {G : List TyD} {k : Nat} : (mergeS (clF G) (k + 1)).1.length = if clF G k = k then (mergeS (clF G) k).1.length + 1 else (mergeS (clF G) k).1.length := by
 rw [mergeS]
 split <;> simp
def TurnedLaw : Prop := ∀ (t : TyD) (vp vm vo vt : Value) (tt : List Int) (W : World), TyL W vp vm vo t → SliceOf 1 (IntAt W) vt tt → t.parts.length ≤ 1000 → t.meths.length ≤ 1000 → t.overs.length ≤ 1000 → (∀ m ∈ t.meths, m.args.length ≤ 1000 ∧ m.raises.length ≤ 1000 ∧ (m.result = -1 ∨ 0 ≤ m.result)) →
 (∀ x ∈ refsOf t, 0 ≤ x ∧ x < (tt.length : Int)) →
 Calls Tryz.prog 52 #[tyVal t vp vm vo, vt] W fun e w' => ∃ u1 u2 u3, e = .returned (tyVal (mapTy (toF tt) t) u1 u2 u3) ∧ Far W.heap.size w'.heap.size w' u1 u2 u3 (mapTy (toF tt) t) ∧ Below W.heap.size W w'
theorem GrOwn.low {b b' : Nat} {w : World} {v : Value} {es : List Ent} (h : GrOwn b w v es) (hb : b' ≤ b) : GrOwn b' w v es :=
 ⟨Row.mono h.row hb, fun e he => by
  obtain ⟨S, E, h1, h2, h3, h4⟩ := h.far e he
  exact ⟨S, E, by omega, h2, h3, h4⟩⟩
theorem mS_new {G : List TyD} {k : Nat} : (mergeS (clF G) (k + 1)).1 = if clF G k = k then (mergeS (clF G) k).1 ++ [k] else (mergeS (clF G) k).1 := by
 rw [mergeS]
 split <;> rfl
set_option maxRecDepth 100000 in
set_option maxHeartbeats 16000000 in
theorem refMerge_some (HT : TurnedLaw) (gv : Value) (G : List TyD) (W : World) (hG0 : GrAt W gv G) (hz : GrZ G) (h0 : checkedR G [] = 0) :
    Calls Tryz.prog 35 #[gv] W fun e w' => ∃ v es g, e = .returned (.tuple #[v, .slice (some ⟨g, 0, none⟩) G.length G.length, .int .i64 0]) ∧ es.map Ent.t = mergeT G ∧ GrOwn W.heap.size w' v es ∧ rowN w' g G.length (mN G G.length) ∧ Below W.heap.size W w' := by
  have hc := (checkedR_zero.1 h0).1
  obtain ⟨hlen, hR, hzz⟩ := check_fit hz hc
  obtain ⟨o, cap, rfl⟩ := hG0.form
  have HC := hide (refChecked_none _ G W hG0 hz)
  rw [h0] at HC
  have HK := hide (fun (w1 : World) (h : Below W.heap.size W w1) => refClasses_any _ G w1 (hG0.below h) hz hc)
  have HLE := hide (fun i (hi : i < G.length) => clF_le G i hi)
  have HMT := Lib.hid (show mergeT G = (mergeS (clF G) G.length).1.map fun i => mapTy (toF ((mergeL G).2.map Int.ofNat)) (G.getD i default) from rfl)
  obtain ⟨tt, htt⟩ : ∃ tt, (mergeL G).2.map Int.ofNat = tt := ⟨_, rfl⟩
  have httl : tt.length = G.length := by rw [← htt, List.length_map]; exact (mergeS_len (clF G) G.length).1
  have HRT := hide (fun w g (h : rowN w g G.length (mN G G.length)) (hn : G.length ≤ maxLen) => rowN.sl (l := (mergeL G).2) h (mergeS_len (clF G) G.length).1 hn (fun q _ => rfl))
  rw [htt] at HMT HRT
  clear htt
  have HCELLS := hide (fun i (hi : i < G.length) => hG0.cells hi)
  have HTY := hide (fun i hi => check_ty hc i hi)
  have HNUM := hide (fun i (hi : i < G.length) => ty_nums hz hc hi)
  have HREF := hide (fun i (hi : i < G.length) => hzz _ (at_mem hi))
  have HSZ := hide (fun i (hi : i < G.length) => hz.tys _ (at_mem hi))
  obtain ⟨i0, hi0, hz0, hz1, hz2⟩ := info_parts info3
  obtain ⟨j0, hj0, hj1, hj2, hj3⟩ := info_parts info62
  have hSG := check_sigs hc
  obtain ⟨n, hn⟩ : ∃ n, G.length = n := ⟨_, rfl⟩
  have HN := Lib.hid hn
  rw [hn] at hlen HC HK HLE HMT httl HRT HREF ⊢
  have HLT := hide (fun i (h : i < n) => (show i < G.length by rw [hn]; exact h))
  clear hn hG0 h0
  go_enter Tryz.func35, Tryz.ntmps35
  go_wp2_with (first | (go_at_call 58; refine (unhide HC).mono ?_; clear HC; rintro e w1 ⟨rfl, hb1⟩) | (go_at_call 65; refine (unhide HK w1 hb1).mono ?_; clear HK; rintro e w3 ⟨g3, rfl, hr3, hb3⟩; have hb13 := hb1.trans (hb3.mono hb1.size); clear hb1 hb3) | (at_make; refine wpList_make_row _ rfl _ _ 37 rfl 3 i0 (.int .i64 0) Tryz.underlying37 hi0 hz0 hz1 rfl .i64 .i64 n (by simp [Act.eval]) (by simp [Act.eval]) (by rw [hz2]; omega) (by omega) ?_))
  have hr0 : rowN (w3.alloc (.cells (madeCells #[.int .i64 0] n) 3)) w3.heap.size n (fun _ => 0) := (World.rowIs_made w3 (.int .i64 0) n 3).congr (fun _ _ => rfl)
  have hr4 : rowN (w3.alloc (.cells (madeCells #[.int .i64 0] n) 3)) g3 n (clF G) := hr3.below ((Below.refl _ _).alloc (Nat.le_refl _) _)
  have hb0 : Below W.heap.size W (w3.alloc (.cells (madeCells #[.int .i64 0] n) 3)) := hb13.alloc hb13.size _
  have hne : g3 ≠ w3.heap.size := Nat.ne_of_lt hr3.lt
  have hsz := hb13.size
  generalize w3.alloc (.cells (madeCells #[.int .i64 0] n) 3) = A1 at hr0 hr4 hb0 ⊢
  generalize w3.heap.size = g0 at hr0 hne hsz ⊢
  clear hr3 hb13
  go_loopg [8, 9] n (fun g x i wr => ∃ (k : Nat) (c : Nat → Nat), k ≤ n ∧ g = n - k ∧ x = .int .i64 ((mergeS (clF G) k).1.length : Nat) ∧ i = .int .i64 k ∧ Below W.heap.size W wr ∧ rowN wr g0 n c ∧ rowN wr g3 n (clF G) ∧ Hid (∀ q, q < k → c q = mN G k q))
  case atStart => exact ⟨0, _, Nat.zero_le _, rfl, rfl, rfl, hb0, hr0, hr4, Lib.hid (fun q hq => absurd hq (by omega))⟩
  case round =>
   clear hr0 hr4 hb0
   obtain ⟨k, c, hk, hgk, rfl, rfl, hbw, hr, hcl, HI⟩ := hrel
   by_cases hlt : k < n
   ·have hlt' : (k : Int) < n := by omega
    have hcn := unhide HLE k hlt
    have hcn' : clF G k < n := by omega
    have hck := hcl.at hlt
    have hcc := hr.at hcn'
    have hk0 := hr.at hlt
    have hfk := hr.fz k
    have HNW := Lib.hid (mN_new (G := G) (k := k))
    have HLW := Lib.hid (mL_new (G := G) (k := k))
    have HOLD := Lib.hid (fun q (h : q < k) => mN_old (G := G) h)
    have hlm : (mergeS (clF G) k).1.length ≤ k := (mergeS_len (clF G) k).2.1
    generalize (mergeS (clF G) k).1.length = nx at HNW HLW hlm ⊢
    obtain ⟨ck, hckk⟩ : ∃ x, clF G k = x := ⟨_, rfl⟩
    have HCK := Lib.hid hckk
    rw [hckk] at hcn hcn' hck hcc HNW HLW
    clear hckk
    have hck' : (ck : Int) < n := by omega
    obtain ⟨v, hv⟩ : ∃ v, c ck = v := ⟨_, rfl⟩
    have HVV := Lib.hid (show ck < k → v = mN G k ck from fun h => by rw [← hv]; exact HI.out ck h)
    rw [hv] at hcc
    clear hv
    go_upto_region 11 with fail
    have hrA := hr.set k v
    have hclA := hcl.other k (.int .i64 v) hne
    have hbA := below_set hbw (Nat.le_refl _) hsz (g := g0) k (.int .i64 v)
    generalize wr.setCell ⟨g0, k, none⟩ (.int .i64 v) = A2 at hrA hclA hbA ⊢
    clear hr hcl hbw hck hcc hfk hk0
    have hck := hclA.at hlt
    rw [HCK.out] at hck
    by_cases hck2 : ck = k
    ·have hb : ((ck : Int) == k) = true := by simp; omega
     rw [if_pos hck2] at HNW HLW
     have hfk := hrA.fz k
     have hkk := hrA.at hlt
     clear HVV
     go_wp2
     have hrB := hrA.set k nx
     have hclB := hclA.other k (.int .i64 nx) hne
     have hbB := below_set hbA (Nat.le_refl _) hsz (g := g0) k (.int .i64 nx)
     go_roundg (n - (k + 1))
     case measure => omega
     case rel => exact ⟨k + 1, _, by omega, rfl, by rw [HLW.out]; go_num, by go_num, hbB, hrB, hclB, Lib.hid (fun q hq => by
      by_cases e : q = k
      ·subst e; rw [if_pos rfl, HNW.out]
      ·rw [if_neg e, if_neg e, HOLD.out q (by omega)]; exact HI.out q (by omega))⟩
    ·have hb : ((ck : Int) == k) = false := by simp; omega
     rw [if_neg hck2] at HNW HLW
     have HV2 := Lib.hid (HVV.out (by omega))
     go_wp2
     go_roundg (n - (k + 1))
     case measure => omega
     case rel => exact ⟨k + 1, _, by omega, rfl, by rw [HLW.out], by go_num, hbA, hrA, hclA, Lib.hid (fun q hq => by
      by_cases e : q = k
      ·subst e; rw [if_pos rfl, HNW.out, HV2.out]
      ·rw [if_neg e, HOLD.out q (by omega)]; exact HI.out q (by omega))⟩
   ·obtain rfl : n = k := by omega
    have hr' := hr.congr (fun q hq => HI.out q hq)
    clear hr HI hgk
    have hge : ¬ ((n : Int) < n) := by omega
    go_wp2
    clear hge
    obtain ⟨B1, rfl⟩ : ∃ B1, B1 = wr := ⟨_, rfl⟩
    go_loopw [10, 11] (fun v i wx => ∃ (m : Nat) (es : List Ent), m ≤ n ∧ i = .int .i64 m ∧ es.map Ent.t = (mergeS (clF G) m).1.map (fun i => mapTy (toF tt) (G.getD i default)) ∧ GrOwn B1.heap.size wx v es ∧ Below B1.heap.size B1 wx) (fun _ i _ => n - (intOf i).toNat)
    case atStart => exact ⟨0, [], Nat.zero_le _, rfl, rfl, ⟨World.ownsRow_nil _ _ _ _, fun e he => by simp at he⟩, Below.refl _ _⟩
    case round =>
     obtain ⟨m, es, hm, rfl, hes, hO, hB⟩ := hrel
     by_cases hlt2 : m < n
     ·have hlt' : (m : Int) < n := by omega
      have hck := (hcl.below hB).at hlt2
      have hmG := unhide HLT m hlt2
      have HS := Lib.hid (mS_new (G := G) (k := m))
      obtain ⟨ck, hckk⟩ : ∃ x, clF G m = x := ⟨_, rfl⟩
      rw [hckk] at hck HS
      clear hckk
      by_cases hck2 : ck = m
      ·have hb : ((ck : Int) == m) = true := by simp; omega
       rw [if_pos hck2] at HS
       obtain ⟨b, off, u1, u2, u3, rfl, gl1, hc1⟩ := unhide HCELLS m hmG
       have hvt := HRT wr g0 (hr'.below hB) (by unfold maxLen; omega)
       have hTY := unhide HTY m hmG
       have hNU := (unhide HNUM m hmG).2.2
       have hRF := unhide HREF m hlt2
       obtain ⟨-, q1, q2, q3, -⟩ := unhide HSZ m hmG
       have hgd : G.getD m default = G[m] := by simp [List.getD_eq_getElem?_getD, hmG]
       rw [hgd] at hNU hRF hTY q1 q2 q3
       have hgl := gl1.go (.below (hbw.trans (hB.mono hbw.size)))
       have hTR := HT G[m] u1 u2 u3 (.slice (some ⟨g0, 0, none⟩) n n) tt wr hgl hvt (by omega) (by omega) (by omega) (fun mm hmm => ⟨(hSG _ (List.getElem_mem hmG) mm hmm).1, (hSG _ (List.getElem_mem hmG) mm hmm).2, by
        by_cases e : mm.result = -1
        ·exact .inl e
        ·exact .inr ((hNU mm hmm).2 e).1⟩) (fun x hx => by have := hRF x hx; omega)
       have hcs := hc1 wr (Holds.below (hbw.trans (hB.mono hbw.size)))
       have e0 := hcs 0 _ rfl
       have e1 := hcs 1 _ rfl
       have e2 := hcs 2 _ rfl
       have e3 := hcs 3 _ rfl
       have e4 := hcs 4 _ rfl
       have e5 := hcs 5 _ rfl
       have e6 := hcs 6 _ rfl
       have e7 := hcs 7 _ rfl
       have e8 := hcs 8 _ rfl
       have e9 := hcs 9 _ rfl
       rw [Nat.add_zero] at e0
       have hrow := hO.row
       obtain ⟨o1, c1, rfl⟩ := row_form hrow
       have hesl : es.length ≤ m := by
        have := congrArg List.length hes
        rw [List.length_map, List.length_map] at this
        have := (mergeS_len (clF G) m).2.1
        omega
       have HGD := Lib.hid hgd
       clear hcs hc1 gl1 hgl hvt hTY hNU hRF q1 q2 q3 hgd
       generalize hgm : G[m] = tm at hTR e0 e1 e2 e3 e4 e5 e6 e7 e8 e9 HGD
       clear hgm
       obtain ⟨U, hU⟩ : ∃ U, mapTy (toF tt) tm = U := ⟨_, rfl⟩
       rw [hU] at hTR
       have HU := Lib.hid hU
       clear hU
       unfold tyVal at hTR
       have HR := hide hTR
       clear hTR
       go_wp2_with (first
        | (go_at_call 52; refine (unhide HR).mono ?_; clear HR; rintro e w1 ⟨x1, x2, x3, rfl, hfar, hbw1⟩)
        | (at_builtin; refine wpList_append_own_at _ rfl _ _ 23 rfl B1.heap.size 62 j0 (.agg #[.int .u8 0, .int .i64 0, .int .i64 0, .bool false, .string ⟨#[]⟩, .string ⟨#[]⟩, .int .i64 0, .slice none 0 0, .slice none 0 0, .slice none 0 0]) 10 144 Tryz.underlying23 hj0 hj1 hj2 hj3 rfl (by decide) _ es.length (es.flatMap Ent.cells) rfl (World.ownsRow.alloc (Row.below hrow hbw1) _) ⟨_, 0, none⟩ 1 1 (tyC U x1 x2 x3) rfl rfl ?c1 ?c2 ?c3 ?c4 ?c5 ?_))
       case c1 => intro j u hj; rw [add_zero_addr]; exact (Blk.new w1 (tyC U x1 x2 x3) 62).cell j |>.trans hj
       case c2 =>
        intro u hu
        have hs := hfar.self
        obtain ⟨_, _, rfl⟩ := hs.parts.form
        obtain ⟨_, _, rfl⟩ := hs.meths.form
        obtain ⟨_, _, rfl⟩ := hs.overs.form
        simp [tyC] at hu
        rcases hu with rfl | rfl | rfl | rfl | rfl | rfl | rfl | rfl | rfl | rfl <;> rfl
       case c3 => unfold maxLen; omega
       case c4 => omega
       case c5 => have := hB.size; have := hbw1.size; simp; omega
       intro v' w2 hown' hgrow _ hv'
       have hO2 := hO.more (e := ⟨U, x1, x2, x3⟩) hB.size hbw1 hfar hown' hgrow (by simpa using hv')
       have hB2 : Below B1.heap.size B1 w2 := ((hB.trans (hbw1.mono hB.size)).alloc (by have := hB.size; have := hbw1.size; omega) _).grown hgrow (by have := hB.size; have := hbw1.size; simp; omega) (fun j e => (hrow.lt j e).1)
       have hes2 : (es ++ [(⟨U, x1, x2, x3⟩ : Ent)]).map Ent.t = (mergeS (clF G) (m + 1)).1.map (fun i => mapTy (toF tt) (G.getD i default)) := by
        rw [HS.out, List.map_append, List.map_append, hes]
        simp only [List.map_cons, List.map_nil]
        rw [HGD.out, HU.out]
       clear hown' hgrow hrow hO hes hfar hbw1
       go_wp2
       go_roundw
       case rel => exact ⟨m + 1, es ++ [⟨U, x1, x2, x3⟩], by omega, by go_num, hes2, hO2, hB2⟩
       case measure => simp [intOf]; omega
      ·have hb : ((ck : Int) == m) = false := by simp; omega
       rw [if_neg hck2] at HS
       go_wp2
       go_roundw
       case rel => exact ⟨m + 1, es, by omega, by go_num, by rw [HS.out]; exact hes, hO, hB⟩
       case measure => simp [intOf]; omega
     ·obtain rfl : n = m := by omega
      have hge : ¬ ((n : Int) < n) := by omega
      go_wp2
      go_ret3
      exact ⟨_, es, g0, rfl, by rw [HMT.out]; exact hes, hO.low hbw.size, hr'.below hB, hbw.trans (hB.mono hbw.size)⟩
set_option maxRecDepth 100000 in
set_option maxHeartbeats 8000000 in
theorem refMerge_any (HT : TurnedLaw) (gv : Value) (G : List TyD) (W : World) (hG0 : GrAt W gv G) (hz : GrZ G) :
    Calls Tryz.prog 35 #[gv] W fun e w' => ∃ v m, e = .returned (.tuple #[v, m, .int .i64 (checkedR G [])]) ∧ Below W.heap.size W w' ∧
     (if checkedR G [] = 0 then ∃ es g, es.map Ent.t = mergeT G ∧ GrOwn W.heap.size w' v es ∧ m = .slice (some ⟨g, 0, none⟩) G.length G.length ∧ rowN w' g G.length (mN G G.length) else v = .slice none 0 0 ∧ m = .slice none 0 0) := by
  by_cases h0 : checkedR G [] = 0
  ·refine (refMerge_some HT gv G W hG0 hz h0).mono ?_
   rintro e w' ⟨v, es, g, rfl, h1, h2, h3, h4⟩
   rw [h0]
   exact ⟨v, _, rfl, h4, by rw [if_pos rfl]; exact ⟨es, g, h1, h2, rfl, h3⟩⟩
  ·obtain ⟨o, cap, rfl⟩ := hG0.form
   have HC := hide (refChecked_none _ G W hG0 hz)
   clear hz hG0
   generalize checkedR G [] = ck at h0 HC
   go_enter Tryz.func35, Tryz.ntmps35
   go_wp2_with (first | (go_at_call 58; refine (unhide HC).mono ?_; clear HC; rintro e w1 ⟨rfl, hb1⟩))
   go_ret3
   first
    | exact ⟨_, _, rfl, hb1, rfl, rfl⟩
    | exact ⟨_, _, rfl, hb1, by rw [if_neg h0]; exact ⟨rfl, rfl⟩⟩
    | (refine ⟨.slice none 0 0, .slice none 0 0, rfl, hb1, ?_⟩; try rw [if_neg h0]
       exact ⟨rfl, rfl⟩)
end Go.Proofs.YteaokkaidcbdlaaGreatDoor

namespace Go.Proofs.YteaokkaidcbdlaaGreatDoor
open Go Go.RowKit Go.Shelf
theorem nil_ints (w : World) : SliceOf 1 (IntAt w) (.slice none 0 0) [] := ⟨none, 0, rfl, Nat.le_refl _, by decide, fun i x hx => by simp at hx⟩
theorem nil_gr (w : World) : GrAt w (.slice none 0 0) [] := ⟨none, 0, rfl, Nat.le_refl _, by decide, fun i x hx => by simp at hx⟩
theorem law6_cls {G : List TyD} {gv : Value} {w : World} (hG : GrAt w gv G) (hz : GrZ G) (L : List Int) (hL : L = if checkedR G [] = 0 then (classesL G).map Int.ofNat else []) :
    Calls Tryz.prog 32 #[gv] w fun e w' => ∃ v, e = .returned (.tuple #[v, .int .i64 (checkedR G [])]) ∧ Below w.heap.size w w' ∧ SliceOf 1 (IntAt w') v L := by
  refine (classes_all gv G w hG hz).mono ?_
  rintro e w' ⟨v, rfl, hb, h⟩
  refine ⟨v, rfl, hb, ?_⟩
  subst hL
  split at h
  ·rename_i h0; rw [if_pos h0]
   have hl := classesL_len G
   rw [← hl] at h
   exact row_nats h
  ·rename_i h0; rw [if_neg h0, h]; exact nil_ints _
theorem law6_rcls {G : List TyD} {gv : Value} {w : World} (hG : GrAt w gv G) (hz : GrZ G) (L : List Int) (hL : L = if checkedR G [] = 0 then (classesL G).map Int.ofNat else []) :
    Calls Tryz.prog 33 #[gv] w fun e w' => ∃ v, e = .returned (.tuple #[v, .int .i64 (checkedR G [])]) ∧ Below w.heap.size w w' ∧ SliceOf 1 (IntAt w') v L := by
  have hlen := hz.len
  refine (refClassesCall_any gv G w hG hz).mono ?_
  rintro e w' ⟨v, rfl, hb, h⟩
  refine ⟨v, rfl, hb, ?_⟩
  subst hL
  split at h
  ·rename_i h0; rw [if_pos h0]
   obtain ⟨g, rfl, hr⟩ := h
   exact hr.sl (classesL_len G) (by unfold maxLen; omega) (fun q _ => rfl)
  ·rename_i h0; rw [if_neg h0, h]; exact nil_ints _
theorem law6_mrg {G : List TyD} {gv : Value} {w : World} (hG : GrAt w gv G) (hz : GrZ G) (L : List Int) (T : List TyD) (hL : L = if checkedR G [] = 0 then (mergeL G).2.map Int.ofNat else []) (hT : T = if checkedR G [] = 0 then mergeT G else []) :
    Calls Tryz.prog 34 #[gv] w fun e w' => ∃ v m, e = .returned (.tuple #[v, m, .int .i64 (checkedR G [])]) ∧ Below w.heap.size w w' ∧ GrAt w' v T ∧ SliceOf 1 (IntAt w') m L := by
  refine (merge_any gv G w hG hz).mono ?_
  rintro e w' ⟨v, m, rfl, hb, h⟩
  refine ⟨v, m, rfl, hb, ?_⟩
  subst hL hT
  split at h
  ·rename_i h0; rw [if_pos h0, if_pos h0]
   obtain ⟨⟨es, hes, ho⟩, hr⟩ := h
   have hg := ho.gr
   rw [hes] at hg
   have hl : (mergeL G).2.length = G.length := (mergeS_len (clF G) G.length).1
   rw [← hl] at hr
   exact ⟨hg, row_nats hr⟩
  ·rename_i h0; rw [if_neg h0, if_neg h0]
   obtain ⟨rfl, rfl⟩ := h
   exact ⟨nil_gr _, nil_ints _⟩
theorem law6_rmrg (HT : TurnedLaw) {G : List TyD} {gv : Value} {w : World} (hG : GrAt w gv G) (hz : GrZ G) (L : List Int) (T : List TyD) (hL : L = if checkedR G [] = 0 then (mergeL G).2.map Int.ofNat else []) (hT : T = if checkedR G [] = 0 then mergeT G else []) :
    Calls Tryz.prog 35 #[gv] w fun e w' => ∃ v m, e = .returned (.tuple #[v, m, .int .i64 (checkedR G [])]) ∧ Below w.heap.size w w' ∧ GrAt w' v T ∧ SliceOf 1 (IntAt w') m L := by
  have hlen := hz.len
  refine (refMerge_any HT gv G w hG hz).mono ?_
  rintro e w' ⟨v, m, rfl, hb, h⟩
  refine ⟨v, m, rfl, hb, ?_⟩
  subst hL hT
  split at h
  ·rename_i h0; rw [if_pos h0, if_pos h0]
   obtain ⟨es, g, hes, ho, rfl, hr⟩ := h
   have hg := ho.gr
   rw [hes] at hg
   have hl : (mergeL G).2.length = G.length := (mergeS_len (clF G) G.length).1
   exact ⟨hg, hr.sl hl (by unfold maxLen; omega) (fun q _ => rfl)⟩
  ·rename_i h0; rw [if_neg h0, if_neg h0]
   obtain ⟨rfl, rfl⟩ := h
   exact ⟨nil_gr _, nil_ints _⟩
set_option maxRecDepth 100000 in
set_option maxHeartbeats 16000000 in
theorem merge_law (HT : TurnedLaw) (gv : Value) (G : List TyD) (W : World) (hG : GrAt W gv G) (hq : ∀ t ∈ G, TyZ t ∧ t.kind < 256) (hP : P10 W.heap.size W) :
    Calls Tryz.prog 6 #[gv] W fun e w' => e = .returned (.bool true) ∧ Below W.heap.size W w' := by
  have HL := hide (light_any gv G W hG)
  have HAl := hide (fun w (h : Below W.heap.size W w) => alive_any w (hP.more h))
  cases hlt : lightB G with
  | false =>
    rw [hlt] at HL
    obtain ⟨o, cap, rfl⟩ := hG.form
    clear hG hP hq
    go_enter Tryz.func6, Tryz.ntmps6
    go_wp2_with (first | (go_at_call 13; refine (unhide HL).mono ?_; rintro e w1 ⟨rfl, hb1⟩) | (go_at_call 14; refine (unhide HAl _ hb1).mono ?_; rintro e w2 ⟨rfl, hb2⟩))
    go_ret
    exact ⟨rfl, hb1.trans (hb2.mono hb1.size)⟩
  | true =>
    rw [hlt] at HL
    have hz := light_z hq hlt
    obtain ⟨L, hL⟩ : ∃ L, L = if checkedR G [] = 0 then (classesL G).map Int.ofNat else [] := ⟨_, rfl⟩
    obtain ⟨M, hM⟩ : ∃ M, M = if checkedR G [] = 0 then (mergeL G).2.map Int.ofNat else [] := ⟨_, rfl⟩
    obtain ⟨T, hT⟩ : ∃ T, T = if checkedR G [] = 0 then mergeT G else [] := ⟨_, rfl⟩
    have H32 := hide (fun w (h : Below W.heap.size W w) => law6_cls (hG.below h) hz L hL)
    have H33 := hide (fun w (h : Below W.heap.size W w) => law6_rcls (hG.below h) hz L hL)
    have H34 := hide (fun w (h : Below W.heap.size W w) => law6_mrg (hG.below h) hz M T hM hT)
    have H35 := hide (fun w (h : Below W.heap.size W w) => law6_rmrg HT (hG.below h) hz M T hM hT)
    have H31 := hide (fun (u v : Value) (l : List Int) (w : World) (h1 : SliceOf 1 (IntAt w) u l) (h2 : SliceOf 1 (IntAt w) v l) => sameInts_any u v l l w h1 h2)
    have H36 := hide (fun (u v : Value) (w : World) (h1 : GrAt w u T) (h2 : GrAt w v T) => same_any u v T T w h1 h2)
    have H37 := hide (fun (u v : Value) (w : World) (h1 : GrAt w u T) (h2 : GrAt w v T) => refSame_any u v T T w h1 h2)
    rw [eqF_refl alikeB_refl] at H36
    rw [eqF_refl tyR_refl] at H37
    simp only [decide_true] at H31
    clear hL hM hT hz
    obtain ⟨o, cap, rfl⟩ := hG.form
    obtain ⟨ck, hck⟩ : ∃ ck, checkedR G [] = ck := ⟨_, rfl⟩
    rw [hck] at H32 H33 H34 H35
    have hcc : (ck == ck) = true := by simp
    clear hG hP hq hck hlt
    go_enter Tryz.func6, Tryz.ntmps6
    go_wp2_with fail
    refine (unhide HL).mono ?_
    rintro e w1 ⟨rfl, hb1⟩
    go_wp2_with fail
    refine (unhide H32 _ hb1).mono ?_
    rintro e w2 ⟨v2, rfl, hb2, s2⟩
    have L2 := hb1.trans (hb2.mono hb1.size)
    obtain ⟨o2, c2, rfl⟩ := s2.form
    have S2 := hide s2
    clear hb1 hb2 s2
    go_wp2_with fail
    refine (unhide H33 _ L2).mono ?_
    rintro e w3 ⟨v3, rfl, hb3, s3⟩
    have L3 := L2.trans (hb3.mono L2.size)
    obtain ⟨o3, c3, rfl⟩ := s3.form
    have S23 := hide ((unhide S2).mono fun _ _ _ _ => IntAt.go (.below hb3))
    have S3 := hide s3
    clear L2 hb3 s3 S2
    go_wp2_with fail
    refine (unhide H34 _ L3).mono ?_
    rintro e w4 ⟨v4, m4, rfl, hb4, g4, s4⟩
    have L4 := L3.trans (hb4.mono L3.size)
    obtain ⟨o4, c4, rfl⟩ := g4.form
    obtain ⟨o5, c5, rfl⟩ := s4.form
    have S24 := hide ((unhide S23).mono fun _ _ _ _ => IntAt.go (.below hb4))
    have S34 := hide ((unhide S3).mono fun _ _ _ _ => IntAt.go (.below hb4))
    have G4 := hide g4
    have S4 := hide s4
    clear L3 hb4 g4 s4 S23 S3
    go_wp2_with fail
    refine (unhide H35 _ L4).mono ?_
    rintro e w5 ⟨v6, m6, rfl, hb5, g5, s5⟩
    have L5 := L4.trans (hb5.mono L4.size)
    obtain ⟨o6, c6, rfl⟩ := g5.form
    obtain ⟨o7, c7, rfl⟩ := s5.form
    have S25 := hide ((unhide S24).mono fun _ _ _ _ => IntAt.go (.below hb5))
    have S35 := hide ((unhide S34).mono fun _ _ _ _ => IntAt.go (.below hb5))
    have G45 := hide ((unhide G4).below hb5)
    have S45 := hide ((unhide S4).mono fun _ _ _ _ => IntAt.go (.below hb5))
    have G5 := hide g5
    have S5 := hide s5
    clear L4 hb5 g5 s5 S24 S34 G4 S4
    go_wp2_with fail
    refine (unhide HAl _ L5).mono ?_
    rintro e w6 ⟨rfl, hb6⟩
    have L6 := L5.trans (hb6.mono L5.size)
    have B6 := hide hb6
    clear L5 hb6
    go_wp2_with fail
    refine (unhide H31 _ _ _ _ ((unhide S25).mono fun _ _ _ _ => IntAt.go (.below (unhide B6))) ((unhide S35).mono fun _ _ _ _ => IntAt.go (.below (unhide B6)))).mono ?_
    rintro e w7 ⟨rfl, hb7⟩
    have L7 := L6.trans (hb7.mono L6.size)
    have B7 := hide ((unhide B6).trans (hb7.mono (unhide B6).size))
    clear L6 hb7 B6
    go_wp2_with fail
    refine (unhide H36 _ _ _ ((unhide G45).below (unhide B7)) ((unhide G5).below (unhide B7))).mono ?_
    rintro e w8 ⟨rfl, hb8⟩
    have L8 := L7.trans (hb8.mono L7.size)
    have B8 := hide ((unhide B7).trans (hb8.mono (unhide B7).size))
    clear L7 hb8 B7
    go_wp2_with fail
    refine (unhide H37 _ _ _ ((unhide G45).below (unhide B8)) ((unhide G5).below (unhide B8))).mono ?_
    rintro e w9 ⟨rfl, hb9⟩
    have L9 := L8.trans (hb9.mono L8.size)
    have B9 := hide ((unhide B8).trans (hb9.mono (unhide B8).size))
    clear L8 hb9 B8
    go_wp2_with fail
    refine (unhide H31 _ _ _ _ ((unhide S45).mono fun _ _ _ _ => IntAt.go (.below (unhide B9))) ((unhide S5).mono fun _ _ _ _ => IntAt.go (.below (unhide B9)))).mono ?_
    rintro e w10 ⟨rfl, hb10⟩
    have L10 := L9.trans (hb10.mono L9.size)
    clear L9 hb10 B9
    go_wp2
    go_ret
    exact ⟨rfl, L10⟩
end Go.Proofs.YteaokkaidcbdlaaGreatDoor

namespace Go.Proofs.YteaokkaidcbdlaaGreatDoor
open Go Go.RowKit Go.Shelf
theorem turned_law : TurnedLaw := fun t vp vm vo vt tt W ht htt h1 h2 h3 h4 h5 => refTurned_any t vp vm vo vt tt W ht htt h1 h2 h3 h4 h5
theorem typesMerge_law (gv : Value) (G : List TyD) (W : World) (hG : GrAt W gv G) (hq : ∀ t ∈ G, TyZ t ∧ t.kind < 256) (hP : P10 W.heap.size W) :
 Calls Tryz.prog 6 #[gv] W fun e w' => e = .returned (.bool true) ∧ Below W.heap.size W w' := merge_law turned_law gv G W hG hq hP
end Go.Proofs.YteaokkaidcbdlaaGreatDoor

namespace Go.Proofs.YteaokkaidcbdlaaGreatDoor
open Go Go.RowKit Go.Shelf
open Go.ChangeShapes Go.WideShapes Go.ChangeAt
open Go.ChangeMaps (open_string shut_string)
set_option maxRecDepth 100000
theorem typesMerge_lifted (os : Os) (started : os.Started) (H : Type) (enc : TypeId × Value → H) :
    ReturnsInHanded {} Tryz.checked os 6 .any (fun w args => (Rows.typesMergeSpec.pre enc Tryz.prog Tryz.f6 Rows.typesMergeRow.domain false w args ∧ laidMetH Tryz.prog Rows.typesMergeRow.laid w) ∧ sizedMet enc Tryz.prog Tryz.f6 (OpenSpec.ofChange Rows.typesMergeSpec) false w args)
     (Rows.typesMergeSpec.post enc Tryz.prog Tryz.f6 false true false false) := by
  refine handed_both (C := Tryz.checked) (X := fun w _ => laidMetH Tryz.prog Rows.typesMergeRow.laid w) (fun _ _ _ hh h => h.of_heap hh) own started (by kernel_rfl) Tryz.func6
   (ChangeSpec.witness_shaped (enc := enc) (C := Tryz.checked) (os := os) (X := fun w _ => laidMetH Tryz.prog Rows.typesMergeRow.laid w) false (World.laidAll Tryz.prog os Rows.typesMergeRow.laid) #[.slice none 0 0] 8 (World.laidAll_os _ _ _)
    (World.shaped_of_ZipB (by kernel_rfl) (by kernel_rfl)) (by kernel_rfl) (by kernel_rfl) (by kernel_rfl)
    (by rw [MakeChecks.laidMetH_plain _ _ _ (by kernel_rfl)]; exact laidMet_laidAll _ (by kernel_rfl) (by kernel_rfl))) ?_
  intro W base args ds gs before hval0 hW hL hsh
  have hval : ∀ (j : Nat) t v, Tryz.f6.params[j]? = some t → args[j]? = some v → Value.okWide Tryz.prog W .any base t v := hval0
  have hW' := hW
  obtain ⟨p, q, hA0, hV, rfl, _, _⟩ := hW
  have hA : DataW.TrodAll enc Tryz.prog W 0 (fun _ => true) true Tryz.f6.params.toList args.toList ds p := hA0
  rw [Tryz.params6] at hA hval
  obtain ⟨v0, d0, rfl, rfl, h0⟩ := trodAll_one hA
  obtain ⟨rfl, rfl⟩ := trodVars_none hV
  obtain ⟨a0, l0, k0, rfl⟩ := okWide_slice Tryz.underlying23 (hval 0 23 v0 rfl rfl)
  simp only [List.append_nil] at hW'
  have hlt0 : ∀ x ∈ p, x.block < W.heap.size := fun x hx => hW'.lt x (by simp [hx])
  rw [MakeChecks.laidMetH_plain _ _ _ (by kernel_rfl)] at hL
  have hP := p10_of hL (by simp [Rows.typesMergeRow])
  obtain ⟨G0, hG0, hq0⟩ := graph_arg h0
  refine (typesMerge_law _ G0 W hG0 hq0 hP).mono fun e W' ⟨he, hb⟩ => ?_
  subst he
  exact ⟨_, rfl, _, _, _, [], p, [], hW', trodAll_mk1 (shut_bool Tryz.underlying4 _), by
   have := trodAll_mk1 (graph_again h0 hb hlt0)
   (try simp only [List.nil_append] at this)
   (try simp only [List.append_nil] at this)
   exact this, rfl, hb.frame _, fun h => by cases h⟩
end Go.Proofs.YteaokkaidcbdlaaGreatDoor

