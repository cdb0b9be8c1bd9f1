/- Part 17 of 53: the texts Lt, one behind the other. -/
import Derived.Test.YteaokkaidcbdlaaGreatDoorJ16
import Derived.Tactics
import Derived.Tactics2
import Derived.WalkKit
import Derived.LoopTactic
import Derived.Outline
import Derived.Lib.Hide
import Derived.Handy
import Derived.KernelRfl
import Derived.Deep.LoopGhost
import Derived.CallsIn
import Derived.Deep.QuietTactic
import Derived.BigQuiet
import Derived.Deep.Draws
import Derived.WalkSpells
import Derived.Lib.Walk
import Derived.Lib.Strings
import Derived.Maps.OwnOps
import Derived.Maps.OwnSet
import Derived.Deep.RegionWith
import Derived.StillTailTactics
import Derived.WalkMore
import Derived.RangeFuncNested
import Derived.RangeFuncBound
import Derived.RangeFuncCalls
import Derived.RangeFuncLeaves
import Derived.RangeFuncBox
import Derived.Shelf.Abstract
import Derived.OwnWalkIn
import Derived.TacticsInMore
import Derived.LoopNIn
import Derived.LoopIn
import Derived.RecoverIn
import Derived.Maps.AppendAt
import Derived.RegionTactic
import Derived.ChangeAlike
import Derived.OwnWalk
import Derived.Deep.AppendLies
import Derived.Deep.DeepCutAuto
import Derived.Deep.RegionLaw
import Derived.Deep.RegionHeld3
import Derived.Laws.EntriesVeiled
namespace Go.Proofs.YteaokkaidcbdlaaGreatDoor
open Go Go.RowKit Go.Shelf
theorem Row.below {w w' : World} {base : Nat} {e : TypeId} {sz : Nat} {v : Value} {n : Nat} {xs : List Value} (h : w.ownsRow base e sz v n xs) (hb : Below w.heap.size w w') : w'.ownsRow base e sz v n xs := by
  refine ⟨h.1, ?_⟩
  rcases h.2 with h0 | ⟨g, cap, cur, rfl, hg, hc, hr⟩
  · exact .inl h0
  · exact .inr ⟨g, cap, cur, rfl, hg, (hb.block g (Array.getElem?_eq_some_iff.1 hc).1).trans hc, hr⟩
theorem Row.mono {w : World} {base base' : Nat} {e : TypeId} {sz : Nat} {v : Value} {n : Nat} {xs : List Value} (h : w.ownsRow base e sz v n xs) (hb : base' ≤ base) : w.ownsRow base' e sz v n xs := by
  refine ⟨h.1, ?_⟩
  rcases h.2 with h0 | ⟨g, cap, cur, rfl, hg, hr⟩
  · exact .inl h0
  · exact .inr ⟨g, cap, cur, rfl, Nat.le_trans hb hg, hr⟩
theorem app_lies {ops : Array Oper} {rest : List Oper} {o : Oper} {a : Act} {Q : Exit → Act → World → Prop} {w : World} (s x : Operand) (t e : TypeId) (z : Value) (by_ : Nat)
    (hinfo : (Tryz.prog.info? e).map (fun i => (i.zero, i.size, i.bytes)) = some (some z, 1, by_)) (ht : Tryz.prog.underlying t = some (.slice e)) (hzs : z.cells.size = 1) (hby : by_ ≤ 24)
    (hgd : o.guard = none) (ho : o.op = .call { callee := .builtin .append, args := #[s, x], argTypes := #[t, t] }) (base : Nat) (v : Value) (xs : List Value) (hs : a.eval s = v) (hown : w.ownsRow base e 1 v xs.length xs)
    (h : Nat) (u : Value) (hx : a.eval x = .slice (some ⟨h, 0, none⟩) 1 1) (hc : w.cell? ⟨h, 0, none⟩ = some u) (hu : u.oneCell' = true) (hl : xs.length ≤ 1000000000) (hbase : base ≤ w.heap.size)
    (K : ∀ g cap w', w'.ownsRow base e 1 (.slice (some ⟨g, 0, none⟩) (xs.length + 1) cap) (xs.length + 1) (xs ++ [u]) → w.grownBy w' v.ownBlock → (v.ownBlock = some g ∨ g = w.heap.size) → (∀ B w0, Below B w0 w → B ≤ base → Below B w0 w') →
      wpList Tryz.prog ops Q rest (a.put o.dst (.slice (some ⟨g, 0, none⟩) (xs.length + 1) cap)) w') : wpList Tryz.prog ops Q (o :: rest) a w := by
  obtain ⟨i0, hi, hz0, hz1, hz2⟩ := info_parts hinfo
  refine wpList_append_lies w hgd s x t ho base e i0 z 1 by_ ht hi hz0 hz1 hz2 hzs (by decide) v xs.length xs hs hown ⟨h, 0, none⟩ 1 1 [u] hx rfl ?_ ?_ (by decide) (by unfold maxLen; omega) ?_ hbase w.heap.size rfl ?_
  · intro j u' hj
    match j with
    | 0 => simp at hj; subst hj; rw [add_zero_addr]; exact hc
    | j + 1 => simp at hj
  · intro u' hu'; simp at hu'; subst hu'; exact hu
  · refine Nat.le_trans (Nat.mul_le_mul (show xs.length + 1 ≤ 1000000001 by omega) hby) (by decide)
  · intro g cap w' hown' hgrow hg _
    refine K g cap w' hown' hgrow hg (fun B w0 hB hle => hB.grown hgrow (Nat.le_trans hle hbase) (fun j hj => ?_))
    have := (hown.lt j hj).1
    omega
def Apt (v u : Value) : Prop := ∀ g, v.ownBlock = some g → u.ownBlock ≠ some g
theorem Apt.symm {v u : Value} (h : Apt v u) : Apt u v := fun g hg hv => h g hv hg
theorem Apt.kept {w w' : World} {base : Nat} {e : TypeId} {sz : Nat} {v u : Value} {n : Nat} {xs : List Value} (h : w.ownsRow base e sz u n xs) (hg : w.grownBy w' v.ownBlock) (ha : Apt v u) : w'.ownsRow base e sz u n xs := by
  refine h.kept hg ?_
  cases hu : u.ownBlock with
  | none => exact .inl rfl
  | some g => exact .inr fun hq => ha g hq.symm hu
theorem natsV_snoc (l : List Nat) (n : Nat) : natsV (l ++ [n]) = natsV l ++ [natI n] := by unfold natsV; rw [List.map_append]; rfl
theorem natsV_len (l : List Nat) : (natsV l).length = l.length := by unfold natsV; simp
theorem findIdx_lt {p : Nat → Bool} {l : List Nat} {j : Nat} (h : l.findIdx? p = some j) : j < l.length := by
  rw [List.findIdx?_eq_some_iff_getElem] at h
  exact h.1
set_option maxRecDepth 100000 in
set_option maxHeartbeats 16000000 in
theorem leastsTy_any (gv : Value) (G : List TyD) (W : World) (hG0 : GrAt W gv G) (hlen : G.length ≤ 410) :
    Calls Tryz.prog 102 #[gv, .func (.func 103) #[] #[]] W fun e w' => ∃ v, e = .returned v ∧ w'.ownsRow W.heap.size 3 1 v G.length (natsV (leastsS (fun f i => agreeB (G.getD f default) (G.getD i default)) G.length).2) ∧ Below W.heap.size W w' := by
  obtain ⟨o, cap, rfl⟩ := hG0.form
  obtain ⟨same, hsame⟩ : ∃ same : Nat → Nat → Bool, same = fun f i => agreeB (G.getD f default) (G.getD i default) := ⟨_, rfl⟩
  rw [← hsame]
  have HSM := Lib.hid hsame
  clear hsame
  go_enter Tryz.func102, Tryz.ntmps102
  go_wp2
  have hW2 : Below W.heap.size W ((W.alloc (.cells #[.slice o G.length cap] 22)).alloc (.cells #[.func (.func 103) #[] #[]] 63)) := ((Below.refl _ _).alloc (Nat.le_refl _) _).alloc (by simp) _
  have g1 := (Blk.new W [.slice o G.length cap] 22).alloc (.cells #[.func (.func 103) #[] #[]] 63)
  have g2 := Blk.new (W.alloc (.cells #[.slice o G.length cap] 22)) [.func (.func 103) #[] #[]] 63
  rw [World.size_alloc] at g2
  change Blk ((W.alloc (.cells #[.slice o G.length cap] 22)).alloc (.cells #[.func (.func 103) #[] #[]] 63)) _ _ _ at g1
  change Blk ((W.alloc (.cells #[.slice o G.length cap] 22)).alloc (.cells #[.func (.func 103) #[] #[]] 63)) _ _ _ at g2
  generalize (W.alloc (.cells #[.slice o G.length cap] 22)).alloc (.cells #[.func (.func 103) #[] #[]] 63) = W2 at hW2 g1 g2 ⊢
  have hG2 := hG0.below hW2
  have hWs := hW2.size
  clear hG0
  go_loopw [5, 6, 12] (fun vF vN i wr => ∃ k : Nat, k ≤ G.length ∧ i = .int .i64 k ∧ Below W2.heap.size W2 wr ∧ wr.ownsRow W2.heap.size 3 1 vF (leastsS same k).1.length (natsV (leastsS same k).1) ∧ wr.ownsRow W2.heap.size 3 1 vN k (natsV (leastsS same k).2) ∧ Apt vF vN) (fun _ _ i _ => G.length - (intOf i).toNat)
  case atStart => exact ⟨0, Nat.zero_le _, rfl, Below.refl _ _, World.ownsRow_nil _ _ _ _, World.ownsRow_nil _ _ _ _, fun g h => by simp [Value.ownBlock] at h⟩
  case round =>
    obtain ⟨k, hk, rfl, hbw, rF, rN, hapt⟩ := hrel
    obtain ⟨hl1, hl2, hl3⟩ := leastsS_len same k
    have HST := Lib.hid (leastsS_succ same k)
    by_cases hlt : k < G.length
    · have hlt' : (k : Int) < G.length := by omega
      have hGr := hG2.below hbw
      obtain ⟨_, _, _, hat⟩ := hGr.at
      have hgk := List.getElem?_eq_getElem hlt
      have hgd : G.getD k default = G[k] := by rw [List.getD, hgk]; rfl
      obtain ⟨b, off, rfl, v1, v2, v3, gl, k0, k1, k2, k3, k4, k5, k6, k7, k8, k9⟩ := hat k G[k] hgk
      have hAsk : Ask157 (wr.alloc (.cells (tyC G[k] v1 v2 v3).toArray 62)) (W.heap.size + 1) W.heap.size wr.heap.size (some ⟨b, off, none⟩) cap G G[k] := by
        have hb := (Below.refl wr.heap.size wr).alloc (Nat.le_refl _) (.cells (tyC G[k] v1 v2 v3).toArray 62)
        have hh := Holds.below hb
        exact ⟨hh _ _ ((g2.below hbw g2.lt).cell 0), hh _ _ ((g1.below hbw g1.lt).cell 0), hGr.go hh, v1, v2, v3, gl.go hh, fun j u hu => by rw [(Blk.new wr (tyC G[k] v1 v2 v3) 62).cell j]; exact hu⟩
      obtain ⟨q1, q2, q3, q4⟩ : (∃ oF cF, u5 = .slice oF (leastsS same k).1.length cF) ∧ (∃ oN cN, u6 = .slice oN k cN) ∧ True ∧ True := by
        refine ⟨?_, ?_, trivial, trivial⟩
        · rcases rF.2 with ⟨rfl, h0⟩ | ⟨g, c2, cur, rfl, _⟩
          · exact ⟨_, _, by rw [h0]⟩
          · exact ⟨_, _, rfl⟩
        · rcases rN.2 with ⟨rfl, h0⟩ | ⟨g, c2, cur, rfl, _⟩
          · exact ⟨_, _, by rw [h0]⟩
          · exact ⟨_, _, rfl⟩
      clear q3 q4
      obtain ⟨oF, cF, rfl⟩ := q1
      obtain ⟨oN, cN, rfl⟩ := q2
      obtain ⟨t, ht⟩ : ∃ t, G[k] = t := ⟨_, rfl⟩
      rw [ht] at hAsk gl k0 k1 k2 k3 k4 k5 k6 hgd
      obtain ⟨ob, cb, rfl⟩ := gl.parts.form
      obtain ⟨oc, cc, rfl⟩ := gl.meths.form
      obtain ⟨od, cd, rfl⟩ := gl.overs.form
      generalize hF : (leastsS same k).1 = F at rF hl2 hl3 HST hapt ⊢
      have HIX := hide (index157_any (W.heap.size + 1) W.heap.size wr.heap.size (some ⟨b, off, none⟩) cap G t F (fun f hf => Nat.lt_trans (hl3 f hf) hlt) (by omega) (.slice oF F.length cF) W2.heap.size _ _ (Below.refl _ _) hAsk (rF.alloc _))
      have hpe : (fun f => agreeB (G.getD f default) t) = fun f => same f k := by
        funext f
        rw [HSM.out]
        show _ = agreeB (G.getD f default) (G.getD k default)
        rw [hgd]
      rw [hpe] at HIX
      have hbA := hbw.alloc hbw.size (.cells (tyC t (.slice ob t.parts.length cb) (.slice oc t.meths.length cc) (.slice od t.overs.length cd)).toArray 62)
      have rFA := rF.alloc (.cells (tyC t (.slice ob t.parts.length cb) (.slice oc t.meths.length cc) (.slice od t.overs.length cd)).toArray 62)
      have rNA := rN.alloc (.cells (tyC t (.slice ob t.parts.length cb) (.slice oc t.meths.length cc) (.slice od t.overs.length cd)).toArray 62)
      clear hAsk gl hat hgk hgd hpe hGr rF rN hG2 g1 g2 ht hl3
      have hN63 := hl1
      cases hfi : F.findIdx? (fun f => same f k) with
      | none =>
        have hI : idxI (fun f => same f k) F = -1 := by unfold idxI; rw [hfi]
        rw [hI] at HIX
        have HS2 := Lib.hid (show leastsS same (k + 1) = (F ++ [k], (leastsS same k).2 ++ [k]) by rw [HST.out]; unfold stepL; rw [hF, hfi])
        clear hI hfi hF HST
        go_wp2_with (first | (go_at_call 156; refine (unhide HIX).mono ?_; clear HIX; rintro e w1 ⟨rfl, hb1⟩) | (at_builtin; refine app_lies _ _ 37 3 (.int .i64 0) 8 info3 Tryz.underlying37 rfl (by decide) rfl rfl W2.heap.size _ (natsV F) rfl (by rw [natsV_len]; exact (Row.below rFA hb1).alloc _) _ (natI k) rfl ?c1 rfl (by rw [natsV_len]; omega) ?c2 ?_))
        case c1 => exact (Blk.new w1 [natI k] 3).cell 0
        case c2 => exact ((hbA.trans (hb1.mono hbA.size)).alloc (hbA.trans (hb1.mono hbA.size)).size _).size
        intro g cap2 w2 hown' hgrow hg hbl
        have hB1 := (hbA.trans (hb1.mono hbA.size)).alloc (hbA.trans (hb1.mono hbA.size)).size (.cells #[.int .i64 k] 3)
        have hB2 := hbl _ _ hB1 (Nat.le_refl _)
        have rNb := (Row.below rNA hb1)
        have rN2 := Apt.kept (rNb.alloc (.cells #[.int .i64 k] 3)) hgrow hapt
        rw [natsV_len] at hown' ⊢
        have hcell : w2.cell? ⟨g, F.length, none⟩ = some (.int .i64 k) := by
          rw [Row1.cells hown' F.length (by omega), List.getElem?_append_right (by rw [natsV_len]; exact Nat.le_refl _), natsV_len, Nat.sub_self]; rfl
        have hapt2 : Apt (.slice (some ⟨g, 0, none⟩) (F.length + 1) cap2) (.slice oN k cN) := by
          intro g0 hg0 hn
          obtain rfl : g = g0 := by simpa [Value.ownBlock] using hg0
          rcases hg with hg | hg
          · exact hapt g hg hn
          · have := (rNb.lt g hn).2
            omega
        have hfk : (F.length : Int) < (F.length : Int) + 1 := by omega
        clear hb1 hgrow hg hbl rNb rNA rFA hbA hapt hB1
        go_wp2_with (first | (at_builtin; refine app_lies _ _ 37 3 (.int .i64 0) 8 info3 Tryz.underlying37 rfl (by decide) rfl rfl W2.heap.size _ (natsV (leastsS same k).2) rfl (by rw [natsV_len, hl1]; exact rN2.alloc _) _ (natI k) rfl ?c1 rfl (by rw [natsV_len]; omega) ?c2 ?_))
        case c1 => exact (Blk.new w2 [natI k] 3).cell 0
        case c2 => exact (hB2.alloc hB2.size _).size
        intro g2 cap3 w3 hown2 hgrow2 hg2 hbl2
        have rFn := hown'
        rw [natsV_len, hl1] at hown2 ⊢
        have hB3 := hbl2 _ _ (hB2.alloc hB2.size (.cells #[.int .i64 k] 3)) (Nat.le_refl _)
        have rF3 := Apt.kept (rFn.alloc (.cells #[.int .i64 k] 3)) hgrow2 hapt2.symm
        have hapt3 : Apt (.slice (some ⟨g, 0, none⟩) (F.length + 1) cap2) (.slice (some ⟨g2, 0, none⟩) (k + 1) cap3) := by
          intro g0 hg0 hn
          obtain rfl : g2 = g0 := by simpa [Value.ownBlock] using hn
          rcases hg2 with hg2 | hg2
          · exact hapt2.symm g2 hg2 hg0
          · have := (rFn.lt g2 hg0).2
            omega
        clear hgrow2 hg2 hbl2
        go_wp2
        go_roundw
        case rel =>
          refine ⟨k + 1, by omega, by go_num, hB3, ?_, ?_, ?_⟩
          · rw [HS2.out]; simp only [natsV_snoc, List.length_append, List.length_singleton]; exact rF3
          · rw [HS2.out]; simp only [natsV_snoc]; exact hown2
          · exact hapt3
        case measure => simp [intOf]; omega
      | some j =>
        have hI : idxI (fun f => same f k) F = j := by unfold idxI; rw [hfi]
        rw [hI] at HIX
        have hj := findIdx_lt hfi
        obtain ⟨fj, hfj⟩ : ∃ fj, F[j] = fj := ⟨_, rfl⟩
        have HS2 := Lib.hid (show leastsS same (k + 1) = (F, (leastsS same k).2 ++ [fj]) by
          rw [HST.out]; unfold stepL; rw [hF, hfi]; simp only [List.getD, List.getElem?_eq_getElem hj, hfj]; rfl)
        have hj' : (j : Int) < F.length := by omega
        obtain ⟨gF, rfl⟩ : ∃ gF, oF = some ⟨gF, 0, none⟩ := by
          rcases rFA.2 with ⟨h0, h1⟩ | ⟨g, c2, cur, h0, _⟩
          · omega
          · injection h0 with h0; exact ⟨g, h0⟩
        have rFb := fun w1 (hb1 : Below _ _ w1) => Row.below rFA hb1
        have hcell := hide (fun w1 (hb1 : Below _ _ w1) => show w1.cell? ⟨gF, j, none⟩ = some (.int .i64 fj) by
          rw [Row1.cells (Row.below rFA hb1) j hj]
          unfold natsV
          rw [List.getElem?_map, List.getElem?_eq_getElem hj, hfj]; rfl)
        clear hI hfi hF HST hfj rFb
        go_wp2_with (first | (go_at_call 156; refine (unhide HIX).mono ?_; clear HIX; rintro e w1 ⟨rfl, hb1⟩; have hcl := unhide hcell w1 hb1; clear hcell) | (at_builtin; refine app_lies _ _ 37 3 (.int .i64 0) 8 info3 Tryz.underlying37 rfl (by decide) rfl rfl W2.heap.size _ (natsV (leastsS same k).2) rfl (by rw [natsV_len, hl1]; exact (Row.below rNA hb1).alloc _) _ (natI fj) rfl ?c1 rfl (by rw [natsV_len]; omega) ?c2 ?_))
        case c1 => exact (Blk.new w1 [natI fj] 3).cell 0
        case c2 => exact ((hbA.trans (hb1.mono hbA.size)).alloc (hbA.trans (hb1.mono hbA.size)).size _).size
        intro g2 cap3 w3 hown2 hgrow2 hg2 hbl2
        have hB2 := hbA.trans (hb1.mono hbA.size)
        have rFn := Row.below rFA hb1
        rw [natsV_len, hl1] at hown2 ⊢
        have hB3 := hbl2 _ _ (hB2.alloc hB2.size (.cells #[.int .i64 fj] 3)) (Nat.le_refl _)
        have rF3 := Apt.kept (rFn.alloc (.cells #[.int .i64 fj] 3)) hgrow2 hapt.symm
        have hapt3 : Apt (.slice (some ⟨gF, 0, none⟩) F.length cF) (.slice (some ⟨g2, 0, none⟩) (k + 1) cap3) := by
          intro g0 hg0 hn
          obtain rfl : g2 = g0 := by simpa [Value.ownBlock] using hn
          rcases hg2 with hg2 | hg2
          · exact hapt.symm g2 hg2 hg0
          · have := (rFn.lt g2 hg0).2
            omega
        clear hgrow2 hg2 hbl2
        go_wp2
        go_roundw
        case rel =>
          refine ⟨k + 1, by omega, by go_num, hB3, ?_, ?_, ?_⟩
          · rw [HS2.out]; exact rF3
          · rw [HS2.out]; simp only [natsV_snoc]; exact hown2
          · exact hapt3
        case measure => simp [intOf]; omega
    · obtain rfl : k = G.length := by omega
      go_wp2
      go_ret
      exact ⟨_, rfl, (Row.mono rN hWs), hW2.trans (hbw.mono hWs)⟩
end Go.Proofs.YteaokkaidcbdlaaGreatDoor

