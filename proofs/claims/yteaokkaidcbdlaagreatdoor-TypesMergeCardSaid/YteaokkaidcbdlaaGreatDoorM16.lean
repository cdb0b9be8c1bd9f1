/- Part 16 of 53: the texts Sd, Se, Ro, Mp, one behind the other. -/
import Derived.Test.YteaokkaidcbdlaaGreatDoorM15
import Derived.Test.YteaokkaidcbdlaaGreatDoorM14
namespace Go.Proofs.YteaokkaidcbdlaaGreatDoor
open Go Go.RowKit Go.Shelf
def natsI (n : Nat) : List Int := (List.range n).map Int.ofNat
theorem natsI_at {n i : Nat} (h : i < n) : (natsI n)[i]? = some (i : Int) := by simp [natsI, h]
structure Ask159 (W : World) (fb ib tb sb bb cb : Nat) (o : Option Addr) (cap : Nat) (va vb : Value) (xs : List Int) (B : List (List Int)) (t : Nat) : Prop where
 f : W.cell? ⟨fb, 0, none⟩ = some (.func (.func 107) #[] #[.pointer (some ⟨sb, 0, none⟩), .pointer (some ⟨bb, 0, none⟩)])
 i : W.cell? ⟨ib, 0, none⟩ = some (.slice o xs.length cap)
 g : SliceOf 1 (IntAt W) (.slice o xs.length cap) (natsI xs.length)
 t : W.cell? ⟨tb, 0, none⟩ = some (.int .i64 t)
 q : Ask107 W sb bb cb va vb xs B
theorem Ask159.below {W W' : World} {fb ib tb sb bb cb : Nat} {o : Option Addr} {cap : Nat} {va vb : Value} {xs : List Int} {B : List (List Int)} {t : Nat} (h : Ask159 W fb ib tb sb bb cb o cap va vb xs B t) (hb : Below W.heap.size W W') :
    Ask159 W' fb ib tb sb bb cb o cap va vb xs B t :=
  ⟨Holds.below hb _ _ h.f, Holds.below hb _ _ h.i, h.g.mono fun _ _ _ _ => IntAt.go (.below hb), Holds.below hb _ _ h.t, h.q.below hb⟩
set_option maxRecDepth 100000 in
set_option maxHeartbeats 8000000 in
theorem ask159_any (fb ib tb sb bb cb : Nat) (o : Option Addr) (cap : Nat) (va vb : Value) (xs : List Int) (B : List (List Int)) (t k : Nat) (hk : k < xs.length) (ht : t < xs.length) (hB : B.length = xs.length) (hz : ∀ l ∈ B, ∀ x ∈ l, 0 ≤ x ∧ x < xs.length)
    (W : World) (h : Ask159 W fb ib tb sb bb cb o cap va vb xs B t) :
    Calls Tryz.prog 159 #[.int .i64 k, .pointer (some ⟨fb, 0, none⟩), .pointer (some ⟨ib, 0, none⟩), .pointer (some ⟨tb, 0, none⟩)] W fun e w' => e = .returned (.bool (finerB xs B k t)) ∧ Below W.heap.size W w' := by
  obtain ⟨-, -, -, hat⟩ := h.g.at
  obtain ⟨b, off, rfl, e0⟩ := hat k k (natsI_at hk)
  unfold IntAt at e0
  simp only [Nat.mul_one] at e0
  have hA := hide (fun W' (hb : Below W.heap.size W W') => ask107_any sb bb cb va vb xs B k t hk ht hB hz W' (h.q.below hb))
  have hF : ∀ W', Below W.heap.size W W' → W'.cell? ⟨fb, 0, none⟩ = some (.func (.func 107) #[] #[.pointer (some ⟨sb, 0, none⟩), .pointer (some ⟨bb, 0, none⟩)]) := fun W' hb => Holds.below hb _ _ h.f
  have hI : ∀ W', Below W.heap.size W W' → W'.cell? ⟨ib, 0, none⟩ = some (.slice (some ⟨b, off, none⟩) xs.length cap) := fun W' hb => Holds.below hb _ _ h.i
  have hT : ∀ W', Below W.heap.size W W' → W'.cell? ⟨tb, 0, none⟩ = some (.int .i64 t) := fun W' hb => Holds.below hb _ _ h.t
  have hK : ∀ W', Below W.heap.size W W' → W'.cell? ⟨b, off + k, none⟩ = some (.int .i64 k) := fun W' hb => Holds.below hb _ _ e0
  have hk' : (k : Int) < xs.length := by omega
  clear hat e0 h
  generalize finerB xs B k t = x at hA ⊢
  go_enter Tryz.func159, Tryz.ntmps159
  go_wp2_with fail
  refine wp_region_quiet (C := fun w' => Below W.heap.size W w') (by kernel_rfl) (by kernel_rfl) (below_drewN' (Below.refl _ _) 1) ?_
  simp only []
  repeat (first
   | go_big_quiet_skip
   | (go_big_quiet_want; go_big_quiet_op; first
     | go_big_quiet_on
     | (refine ⟨_, fun _ _ => rfl, ?_⟩; go_big_quiet_on)
     | (refine ⟨.func (.func 107) #[] #[.pointer (some ⟨sb, 0, none⟩), .pointer (some ⟨bb, 0, none⟩)], ?_, ?_⟩
        ·intro w1 hb
         have e := hF w1 hb
         simp [e, go_sem]
         done
        go_big_quiet_on)
     | (refine ⟨.slice (some ⟨b, off, none⟩) xs.length cap, ?_, ?_⟩
        ·intro w1 hb
         have e := hI w1 hb
         simp [e, go_sem]
         done
        go_big_quiet_on)
     | (refine ⟨.int .i64 k, ?_, ?_⟩
        ·intro w1 hb
         have e := hK w1 hb
         simp [e, go_sem]
         done
        go_big_quiet_on)
     | (refine ⟨.int .i64 t, ?_, ?_⟩
        ·intro w1 hb
         have e := hT w1 hb
         simp [e, go_sem]
         done
        go_big_quiet_on)
     | (apply Exists.intro
        refine ⟨fun w1 hb => ?_, ?_⟩
        ·with_reducible refine (unhide hA w1 hb).mono ?_
         rintro e w2 ⟨rfl, hb2⟩
         exact ⟨rfl, hb.trans (hb2.mono hb.size)⟩
        go_big_quiet_on)))
  refine wpQuiet_nil ?_
  rintro w1 hb
  go_wp2
  go_ret
  exact ⟨rfl, hb⟩
theorem index159_any (fb ib tb sb bb cb : Nat) (o : Option Addr) (cap : Nat) (va vb : Value) (xs : List Int) (B : List (List Int)) (t : Nat) (ht : t < xs.length) (hLB : B.length = xs.length) (hz : ∀ l ∈ B, ∀ x ∈ l, 0 ≤ x ∧ x < xs.length)
    (F : List Nat) (hF : ∀ f ∈ F, f < xs.length) (hl : F.length ≤ 1000000) (v : Value) (base : Nat) (W0 W : World) (hB : Below W0.heap.size W0 W)
    (h : Ask159 W0 fb ib tb sb bb cb o cap va vb xs B t) (hv : W0.ownsRow base 3 1 v F.length (natsV F)) :
    Calls Tryz.prog 156 #[v, .func (.func 159) #[] #[.pointer (some ⟨fb, 0, none⟩), .pointer (some ⟨ib, 0, none⟩), .pointer (some ⟨tb, 0, none⟩)]] W fun e w' => e = .returned (.int .i64 (idxI (fun f => finerB xs B f t) F)) ∧ Below W.heap.size W w' := by
  obtain ⟨oa, ca, rfl, hrow⟩ : ∃ oa ca, v = .slice oa F.length ca ∧ ∀ k (h : k < F.length), ∃ g, oa = some ⟨g, 0, none⟩ ∧ W0.cell? ⟨g, k, none⟩ = some (natI F[k]) := by
   have hv' := hv
   rcases hv.2 with ⟨rfl, h0⟩ | ⟨g, cap2, cur, rfl, _⟩
   ·exact ⟨none, 0, by rw [h0], fun k hk => by omega⟩
   ·refine ⟨_, _, rfl, fun k hk => ⟨g, rfl, ?_⟩⟩
    rw [Row1.cells hv' k hk]
    unfold natsV
    rw [List.getElem?_map, List.getElem?_eq_getElem hk]; rfl
  clear hv
  go_enter Tryz.func156, Tryz.ntmps156
  go_wp2
  go_loopw [8] (fun i wr => ∃ k : Nat, k ≤ F.length ∧ i = .int .i64 k ∧ Below W.heap.size W wr ∧ Hid ((F.take k).all (fun f => !finerB xs B f t) = true)) (fun i _ => F.length - (intOf i).toNat)
  case atStart => exact ⟨0, Nat.zero_le _, rfl, Below.refl _ _, Lib.hid rfl⟩
  case round =>
   obtain ⟨k, hk, rfl, hbw, HT⟩ := hrel
   by_cases hlt : k < F.length
   ·have hlt' : (k : Int) < F.length := by omega
    have hbel := hB.trans (hbw.mono hB.size)
    obtain ⟨g, rfl, hc⟩ := hrow k hlt
    have r0 : wr.cell? ⟨g, k, none⟩ = some (.int .i64 F[k]) := Holds.below hbel _ _ hc
    have hfl := hF F[k] (List.getElem_mem hlt)
    have hA := ask159_any fb ib tb sb bb cb o cap va vb xs B t F[k] hfl ht hLB hz wr (h.below hbel)
    clear hrow hc hbel hF h hLB hz ht
    cases hx : finerB xs B F[k] t with
    | true =>
      rw [hx] at hA
      have HA := hide hA
      have HX := Lib.hid (idxI_at (p := fun f => finerB xs B f t) hlt HT.out hx)
      clear hA hx
      go_wp2_with (first | (go_at_call 159; refine (unhide HA).mono ?_; rintro e w4 ⟨rfl, hb4⟩))
      go_ret
      exact ⟨ret_int HX.out.symm, hbw.trans (hb4.mono hbw.size)⟩
    | false =>
      rw [hx] at hA
      have HA := hide hA
      have HX := Lib.hid (show (F.take (k + 1)).all (fun f => !finerB xs B f t) = true by rw [all_take _ _ _ hlt, HT.out, hx]; rfl)
      clear hA hx
      go_wp2_with (first | (go_at_call 159; refine (unhide HA).mono ?_; rintro e w4 ⟨rfl, hb4⟩))
      go_roundw
      case rel => exact ⟨k + 1, by omega, by go_num, hbw.trans (hb4.mono hbw.size), HX⟩
      case measure => simp [intOf]; omega
   ·obtain rfl : k = F.length := by omega
    have HX := Lib.hid (idxI_none (p := fun f => finerB xs B f t) (l := F) (by have := HT.out; rwa [List.take_length] at this))
    clear hLB ht
    go_wp2
    go_ret
    exact ⟨ret_int HX.out.symm, hbw⟩
end Go.Proofs.YteaokkaidcbdlaaGreatDoor

namespace Go.Proofs.YteaokkaidcbdlaaGreatDoor
open Go Go.RowKit Go.Shelf
set_option maxRecDepth 100000 in
set_option maxHeartbeats 16000000 in
theorem leastsInt_any (sb bb cb : Nat) (o : Option Addr) (cap : Nat) (va vb : Value) (xs : List Int) (B : List (List Int)) (hLB : B.length = xs.length) (hz : ∀ l ∈ B, ∀ x ∈ l, 0 ≤ x ∧ x < xs.length) (hlen : xs.length ≤ 410)
    (W : World) (hG0 : SliceOf 1 (IntAt W) (.slice o xs.length cap) (natsI xs.length)) (hq : Ask107 W sb bb cb va vb xs B) :
    Calls Tryz.prog 106 #[.slice o xs.length cap, .func (.func 107) #[] #[.pointer (some ⟨sb, 0, none⟩), .pointer (some ⟨bb, 0, none⟩)]] W fun e w' => ∃ v, e = .returned v ∧ w'.ownsRow W.heap.size 3 1 v xs.length (natsV (leastsS (finerB xs B) xs.length).2) ∧ Below W.heap.size W w' := by
  obtain ⟨same, hsame⟩ : ∃ same : Nat → Nat → Bool, same = finerB xs B := ⟨_, rfl⟩
  rw [← hsame]
  have HSM := Lib.hid hsame
  clear hsame
  obtain ⟨N, hN⟩ : ∃ N, xs.length = N := ⟨_, rfl⟩
  have HN := Lib.hid hN
  have HLB := Lib.hid hLB
  rw [hN] at hlen hG0 ⊢
  clear hN hLB
  have HZ := hide hz
  clear hz
  go_enter Tryz.func106, Tryz.ntmps106
  go_wp2
  have hW2 : Below W.heap.size W ((W.alloc (.cells #[.slice o N cap] 37)).alloc (.cells #[.func (.func 107) #[] #[.pointer (some ⟨sb, 0, none⟩), .pointer (some ⟨bb, 0, none⟩)]] 132)) := ((Below.refl _ _).alloc (Nat.le_refl _) _).alloc (by simp) _
  have g1 := (Blk.new W [.slice o N cap] 37).alloc (.cells #[.func (.func 107) #[] #[.pointer (some ⟨sb, 0, none⟩), .pointer (some ⟨bb, 0, none⟩)]] 132)
  have g2 := Blk.new (W.alloc (.cells #[.slice o N cap] 37)) [.func (.func 107) #[] #[.pointer (some ⟨sb, 0, none⟩), .pointer (some ⟨bb, 0, none⟩)]] 132
  rw [World.size_alloc] at g2
  change Blk ((W.alloc (.cells #[.slice o N cap] 37)).alloc (.cells #[.func (.func 107) #[] #[.pointer (some ⟨sb, 0, none⟩), .pointer (some ⟨bb, 0, none⟩)]] 132)) _ _ _ at g1
  change Blk ((W.alloc (.cells #[.slice o N cap] 37)).alloc (.cells #[.func (.func 107) #[] #[.pointer (some ⟨sb, 0, none⟩), .pointer (some ⟨bb, 0, none⟩)]] 132)) _ _ _ at g2
  generalize (W.alloc (.cells #[.slice o N cap] 37)).alloc (.cells #[.func (.func 107) #[] #[.pointer (some ⟨sb, 0, none⟩), .pointer (some ⟨bb, 0, none⟩)]] 132) = W2 at hW2 g1 g2 ⊢
  have hG2 := hG0.mono fun _ _ _ _ => IntAt.go (.below hW2)
  have hq2 := hq.below hW2
  have hWs := hW2.size
  clear hG0 hq
  go_loopw [5, 6, 12] (fun vF vN i wr => ∃ k : Nat, k ≤ N ∧ i = .int .i64 k ∧ Below W2.heap.size W2 wr ∧ wr.ownsRow W2.heap.size 3 1 vF (leastsS same k).1.length (natsV (leastsS same k).1) ∧ wr.ownsRow W2.heap.size 3 1 vN k (natsV (leastsS same k).2) ∧ Apt vF vN) (fun _ _ i _ => N - (intOf i).toNat)
  case atStart => exact ⟨0, Nat.zero_le _, rfl, Below.refl _ _, World.ownsRow_nil _ _ _ _, World.ownsRow_nil _ _ _ _, fun g h => by simp [Value.ownBlock] at h⟩
  case round =>
   obtain ⟨k, hk, rfl, hbw, rF, rN, hapt⟩ := hrel
   obtain ⟨hl1, hl2, hl3⟩ := leastsS_len same k
   have HST := Lib.hid (leastsS_succ same k)
   by_cases hlt : k < N
   ·have hlt' : (k : Int) < N := by omega
    have hGr := hG2.mono fun _ _ _ _ => IntAt.go (.below hbw)
    obtain ⟨-, -, -, hat⟩ := hGr.at
    obtain ⟨b, off, rfl, k0⟩ := hat k k (natsI_at hlt)
    unfold IntAt at k0
    simp only [Nat.mul_one] at k0
    have hAsk : Ask159 (wr.alloc (.cells #[.int .i64 k] 3)) (W.heap.size + 1) W.heap.size wr.heap.size sb bb cb (some ⟨b, off, none⟩) cap va vb xs B k := by
     have hb := (Below.refl wr.heap.size wr).alloc (Nat.le_refl _) (.cells #[.int .i64 k] 3)
     have hh := Holds.below hb
     exact ⟨hh _ _ ((g2.below hbw g2.lt).cell 0), by rw [HN.out]; exact hh _ _ ((g1.below hbw g1.lt).cell 0), by rw [HN.out]; exact hGr.mono fun _ _ _ _ => IntAt.go hh, (Blk.new wr [.int .i64 k] 3).cell 0, (hq2.below hbw).below hb⟩
    obtain ⟨q1, q2, q3, q4⟩ : (∃ oF cF, u5 = .slice oF (leastsS same k).1.length cF) ∧ (∃ oN cN, u6 = .slice oN k cN) ∧ True ∧ True := by
     refine ⟨?_, ?_, trivial, trivial⟩
     ·rcases rF.2 with ⟨rfl, h0⟩ | ⟨g, c2, cur, rfl, _⟩
      ·exact ⟨_, _, by rw [h0]⟩
      ·exact ⟨_, _, rfl⟩
     ·rcases rN.2 with ⟨rfl, h0⟩ | ⟨g, c2, cur, rfl, _⟩
      ·exact ⟨_, _, by rw [h0]⟩
      ·exact ⟨_, _, rfl⟩
    clear q3 q4
    obtain ⟨oF, cF, rfl⟩ := q1
    obtain ⟨oN, cN, rfl⟩ := q2
    generalize hF : (leastsS same k).1 = F at rF hl2 hl3 HST hapt ⊢
    have HIX := hide (index159_any (W.heap.size + 1) W.heap.size wr.heap.size sb bb cb (some ⟨b, off, none⟩) cap va vb xs B k (by rw [HN.out]; exact hlt) HLB.out (unhide HZ) F (fun f hf => by rw [HN.out]; exact Nat.lt_trans (hl3 f hf) hlt) (by omega) (.slice oF F.length cF) W2.heap.size _ _ (Below.refl _ _) hAsk (rF.alloc _))
    have hpe : (fun f => finerB xs B f k) = fun f => same f k := by
     funext f
     rw [HSM.out]
    rw [hpe] at HIX
    have hbA := hbw.alloc hbw.size (.cells #[.int .i64 k] 3)
    have rFA := rF.alloc (.cells #[.int .i64 k] 3)
    have rNA := rN.alloc (.cells #[.int .i64 k] 3)
    clear hAsk hat hpe hGr rF rN hG2 g1 g2 hq2 hl3
    have hN63 := hl1
    cases hfi : F.findIdx? (fun f => same f k) with
    | none =>
      have hI : idxI (fun f => same f k) F = -1 := by unfold idxI; rw [hfi]
      rw [hI] at HIX
      have HS2 := Lib.hid (show leastsS same (k + 1) = (F ++ [k], (leastsS same k).2 ++ [k]) by rw [HST.out]; unfold stepL; rw [hF, hfi])
      clear hI hfi hF HST
      go_wp2_with (first | (go_at_call 156; refine (unhide HIX).mono ?_; clear HIX; rintro e w1 ⟨rfl, hb1⟩) | (at_builtin; refine app_lies _ _ 37 3 (.int .i64 0) 8 info3 Tryz.underlying37 rfl (by decide) rfl rfl W2.heap.size _ (natsV F) rfl (by rw [natsV_len]; exact (Row.below rFA hb1).alloc _) _ (natI k) rfl ?c1 rfl (by rw [natsV_len]; omega) ?c2 ?_))
      case c1 => exact (Blk.new w1 [natI k] 3).cell 0
      case c2 => exact ((hbA.trans (hb1.mono hbA.size)).alloc (hbA.trans (hb1.mono hbA.size)).size _).size
      intro g cap2 w2 hown' hgrow hg hbl
      have hB1 := (hbA.trans (hb1.mono hbA.size)).alloc (hbA.trans (hb1.mono hbA.size)).size (.cells #[.int .i64 k] 3)
      have hB2 := hbl _ _ hB1 (Nat.le_refl _)
      have rNb := (Row.below rNA hb1)
      have rN2 := Apt.kept (rNb.alloc (.cells #[.int .i64 k] 3)) hgrow hapt
      rw [natsV_len] at hown' ⊢
      have hcell : w2.cell? ⟨g, F.length, none⟩ = some (.int .i64 k) := by
       rw [Row1.cells hown' F.length (by omega), List.getElem?_append_right (by rw [natsV_len]; exact Nat.le_refl _), natsV_len, Nat.sub_self]; rfl
      have hapt2 : Apt (.slice (some ⟨g, 0, none⟩) (F.length + 1) cap2) (.slice oN k cN) := by
       intro g0 hg0 hn
       obtain rfl : g = g0 := by simpa [Value.ownBlock] using hg0
       rcases hg with hg | hg
       ·exact hapt g hg hn
       ·have := (rNb.lt g hn).2
        omega
      have hfk : (F.length : Int) < (F.length : Int) + 1 := by omega
      clear hb1 hgrow hg hbl rNb rNA rFA hbA hapt hB1
      go_wp2_with (first | (at_builtin; refine app_lies _ _ 37 3 (.int .i64 0) 8 info3 Tryz.underlying37 rfl (by decide) rfl rfl W2.heap.size _ (natsV (leastsS same k).2) rfl (by rw [natsV_len, hl1]; exact rN2.alloc _) _ (natI k) rfl ?c1 rfl (by rw [natsV_len]; omega) ?c2 ?_))
      case c1 => exact (Blk.new w2 [natI k] 3).cell 0
      case c2 => exact (hB2.alloc hB2.size _).size
      intro g2 cap3 w3 hown2 hgrow2 hg2 hbl2
      have rFn := hown'
      rw [natsV_len, hl1] at hown2 ⊢
      have hB3 := hbl2 _ _ (hB2.alloc hB2.size (.cells #[.int .i64 k] 3)) (Nat.le_refl _)
      have rF3 := Apt.kept (rFn.alloc (.cells #[.int .i64 k] 3)) hgrow2 hapt2.symm
      have hapt3 : Apt (.slice (some ⟨g, 0, none⟩) (F.length + 1) cap2) (.slice (some ⟨g2, 0, none⟩) (k + 1) cap3) := by
       intro g0 hg0 hn
       obtain rfl : g2 = g0 := by simpa [Value.ownBlock] using hn
       rcases hg2 with hg2 | hg2
       ·exact hapt2.symm g2 hg2 hg0
       ·have := (rFn.lt g2 hg0).2
        omega
      clear hgrow2 hg2 hbl2
      go_wp2
      go_roundw
      case rel =>
       refine ⟨k + 1, by omega, by go_num, hB3, ?_, ?_, ?_⟩
       ·rw [HS2.out]; simp only [natsV_snoc, List.length_append, List.length_singleton]; exact rF3
       ·rw [HS2.out]; simp only [natsV_snoc]; exact hown2
       ·exact hapt3
      case measure => simp [intOf]; omega
    | some j =>
      have hI : idxI (fun f => same f k) F = j := by unfold idxI; rw [hfi]
      rw [hI] at HIX
      have hj := findIdx_lt hfi
      obtain ⟨fj, hfj⟩ : ∃ fj, F[j] = fj := ⟨_, rfl⟩
      have HS2 := Lib.hid (show leastsS same (k + 1) = (F, (leastsS same k).2 ++ [fj]) by
       rw [HST.out]; unfold stepL; rw [hF, hfi]; simp only [List.getD, List.getElem?_eq_getElem hj, hfj]; rfl)
      have hj' : (j : Int) < F.length := by omega
      obtain ⟨gF, rfl⟩ : ∃ gF, oF = some ⟨gF, 0, none⟩ := by
       rcases rFA.2 with ⟨h0, h1⟩ | ⟨g, c2, cur, h0, _⟩
       ·omega
       ·injection h0 with h0; exact ⟨g, h0⟩
      have rFb := fun w1 (hb1 : Below _ _ w1) => Row.below rFA hb1
      have hcell := hide (fun w1 (hb1 : Below _ _ w1) => show w1.cell? ⟨gF, j, none⟩ = some (.int .i64 fj) by
       rw [Row1.cells (Row.below rFA hb1) j hj]
       unfold natsV
       rw [List.getElem?_map, List.getElem?_eq_getElem hj, hfj]; rfl)
      clear hI hfi hF HST hfj rFb
      go_wp2_with (first | (go_at_call 156; refine (unhide HIX).mono ?_; clear HIX; rintro e w1 ⟨rfl, hb1⟩; have hcl := unhide hcell w1 hb1; clear hcell) | (at_builtin; refine app_lies _ _ 37 3 (.int .i64 0) 8 info3 Tryz.underlying37 rfl (by decide) rfl rfl W2.heap.size _ (natsV (leastsS same k).2) rfl (by rw [natsV_len, hl1]; exact (Row.below rNA hb1).alloc _) _ (natI fj) rfl ?c1 rfl (by rw [natsV_len]; omega) ?c2 ?_))
      case c1 => exact (Blk.new w1 [natI fj] 3).cell 0
      case c2 => exact ((hbA.trans (hb1.mono hbA.size)).alloc (hbA.trans (hb1.mono hbA.size)).size _).size
      intro g2 cap3 w3 hown2 hgrow2 hg2 hbl2
      have hB2 := hbA.trans (hb1.mono hbA.size)
      have rFn := Row.below rFA hb1
      rw [natsV_len, hl1] at hown2 ⊢
      have hB3 := hbl2 _ _ (hB2.alloc hB2.size (.cells #[.int .i64 fj] 3)) (Nat.le_refl _)
      have rF3 := Apt.kept (rFn.alloc (.cells #[.int .i64 fj] 3)) hgrow2 hapt.symm
      have hapt3 : Apt (.slice (some ⟨gF, 0, none⟩) F.length cF) (.slice (some ⟨g2, 0, none⟩) (k + 1) cap3) := by
       intro g0 hg0 hn
       obtain rfl : g2 = g0 := by simpa [Value.ownBlock] using hn
       rcases hg2 with hg2 | hg2
       ·exact hapt.symm g2 hg2 hg0
       ·have := (rFn.lt g2 hg0).2
        omega
      clear hgrow2 hg2 hbl2
      go_wp2
      go_roundw
      case rel =>
       refine ⟨k + 1, by omega, by go_num, hB3, ?_, ?_, ?_⟩
       ·rw [HS2.out]; exact rF3
       ·rw [HS2.out]; simp only [natsV_snoc]; exact hown2
       ·exact hapt3
      case measure => simp [intOf]; omega
   ·obtain rfl : k = N := by omega
    go_wp2
    go_ret
    exact ⟨_, rfl, (Row.mono rN hWs), hW2.trans (hbw.mono hWs)⟩
end Go.Proofs.YteaokkaidcbdlaaGreatDoor

namespace Go.Proofs.YteaokkaidcbdlaaGreatDoor
open Go Go.RowKit Go.Shelf
theorem row_ints {w : World} {base : Nat} {v : Value} {l : List Int} (h : w.ownsRow base 3 1 v l.length (l.map (.int .i64))) : SliceOf 1 (IntAt w) v l := by
 have h' := h
 rcases h.2 with ⟨rfl, h0⟩ | ⟨g, cap, cur, rfl, hg, hgb, hr⟩
 ·obtain rfl := List.eq_nil_of_length_eq_zero h0
  exact ⟨none, 0, rfl, Nat.le_refl _, by decide, fun i x hx => by simp at hx⟩
 ·refine ⟨some ⟨g, 0, none⟩, cap, rfl, hr.1, hr.2.1, fun i x hx => ⟨g, 0, rfl, ?_⟩⟩
  unfold IntAt
  obtain ⟨hi, rfl⟩ := List.getElem?_eq_some_iff.1 hx
  have := Row1.cells (xs := l.map (Value.int .i64)) h' i hi
  simpa [List.getElem?_eq_getElem hi] using this
theorem natsV_ints (l : List Nat) : natsV l = (l.map Int.ofNat).map (.int .i64) := by
 unfold natsV; rw [List.map_map]; rfl
theorem row_nats {w : World} {base : Nat} {v : Value} {l : List Nat} (h : w.ownsRow base 3 1 v l.length (natsV l)) : SliceOf 1 (IntAt w) v (l.map Int.ofNat) := by
 refine row_ints (base := base) ?_
 rw [natsV_ints] at h
 simpa using h
theorem row_rows {w : World} {base base' : Nat} {v : Value} {vs : List Value} {B : List (List Int)} (h : w.ownsRow base 37 1 v vs.length vs) (hl : vs.length = B.length)
    (hB : ∀ i (h1 : i < vs.length) (h2 : i < B.length), w.ownsRow base' 3 1 vs[i] B[i].length (B[i].map (.int .i64))) : SliceOf 1 (RowAt w) v B := by
  have h' := h
  rcases h.2 with ⟨rfl, h0⟩ | ⟨g, cap, cur, rfl, hg, hgb, hr⟩
  ·obtain rfl := List.eq_nil_of_length_eq_zero (show B.length = 0 by omega)
   exact ⟨none, 0, rfl, Nat.le_refl _, by decide, fun i x hx => by simp at hx⟩
  ·rw [hl]
   refine ⟨some ⟨g, 0, none⟩, cap, rfl, by omega, hr.2.1, fun i x hx => ⟨g, 0, rfl, ?_⟩⟩
   obtain ⟨hi, rfl⟩ := List.getElem?_eq_some_iff.1 hx
   have hi' : i < vs.length := by omega
   refine ⟨vs[i], ?_, row_ints (hB i hi' hi)⟩
   have := Row1.cells (xs := vs) h' i hi'
   simpa [List.getElem?_eq_getElem hi'] using this
end Go.Proofs.YteaokkaidcbdlaaGreatDoor

namespace Go.Proofs.YteaokkaidcbdlaaGreatDoor
open Go Go.RowKit Go.Shelf
theorem getD_snoc_lt {l : List Nat} {a i : Nat} (h : i < l.length) : (l ++ [a]).getD i 0 = l.getD i 0 := by
 simp [List.getD_eq_getElem?_getD, List.getElem?_append_left h]
theorem getD_snoc_len {l : List Nat} {a n : Nat} (h : l.length = n) : (l ++ [a]).getD n 0 = a := by
 subst h; simp [List.getD_eq_getElem?_getD]
theorem leasts_spec (same : Nat → Nat → Bool) : ∀ n, (leastsS same n).2.length = n ∧
    (∀ i, i < n → (leastsS same n).2.getD i 0 ≤ i ∧ ((leastsS same n).2.getD i 0 = i ∨ same ((leastsS same n).2.getD i 0) i = true) ∧ (leastsS same n).2.getD ((leastsS same n).2.getD i 0) 0 = (leastsS same n).2.getD i 0) ∧
    (∀ f ∈ (leastsS same n).1, f < n ∧ (leastsS same n).2.getD f 0 = f)
  | 0 => ⟨rfl, fun i h => by omega, fun f h => by simp [leastsS] at h⟩
  | n + 1 => by
    obtain ⟨h1, h2, h3⟩ := leasts_spec same n
    rw [leastsS_succ]
    generalize leastsS same n = r at h1 h2 h3 ⊢
    obtain ⟨F, N⟩ := r
    simp only at h1 h2 h3
    unfold stepL
    simp only
    cases hf : F.findIdx? (fun f => same f n) with
    | none =>
      simp only
      refine ⟨by simp [h1], fun i hi => ?_, fun f hf => ?_⟩
      ·by_cases hin : i < n
       ·obtain ⟨a1, a2, a3⟩ := h2 i hin
        rw [getD_snoc_lt (by omega), getD_snoc_lt (by omega)]
        exact ⟨a1, a2, a3⟩
       ·obtain rfl : i = n := by omega
        rw [getD_snoc_len h1, getD_snoc_len h1]
        exact ⟨Nat.le_refl _, .inl rfl, rfl⟩
      ·rw [List.mem_append, List.mem_singleton] at hf
       rcases hf with hf | rfl
       ·obtain ⟨b1, b2⟩ := h3 f hf
        exact ⟨by omega, by rw [getD_snoc_lt (by omega)]; exact b2⟩
       ·exact ⟨by omega, getD_snoc_len h1⟩
    | some j =>
      simp only
      rw [List.findIdx?_eq_some_iff_getElem] at hf
      obtain ⟨hj, hs, -⟩ := hf
      have hg : F.getD j 0 = F[j] := by simp [List.getD_eq_getElem?_getD, List.getElem?_eq_getElem hj]
      rw [hg]
      obtain ⟨b1, b2⟩ := h3 F[j] (List.getElem_mem hj)
      refine ⟨by simp [h1], fun i hi => ?_, fun f hf => ?_⟩
      ·by_cases hin : i < n
       ·obtain ⟨a1, a2, a3⟩ := h2 i hin
        rw [getD_snoc_lt (by omega), getD_snoc_lt (by omega)]
        exact ⟨a1, a2, a3⟩
       ·obtain rfl : i = n := by omega
        rw [getD_snoc_len h1, getD_snoc_lt (by omega)]
        exact ⟨by omega, .inr hs, b2⟩
      ·obtain ⟨c1, c2⟩ := h3 f hf
       exact ⟨by omega, by rw [getD_snoc_lt (by omega)]; exact c2⟩
def ownN (c : List Nat) (n : Nat) : Nat := ((List.range n).filter fun i => c.getD i 0 == i).length
theorem finer_grows {c c' : List Nat} {n : Nat} (hc : c.length = n) (hc' : c'.length = n) (h : ∀ i, i < n → c.getD i 0 ≤ i)
    (h' : ∀ i, i < n → c'.getD i 0 ≤ i ∧ c'.getD (c'.getD i 0) 0 = c'.getD i 0) (hs : ∀ i, i < n → c.getD (c'.getD i 0) 0 = c.getD i 0) (hne : c' ≠ c) : ownN c n < ownN c' n := by
  have hsub : ∀ i, i < n → c.getD i 0 = i → c'.getD i 0 = i := by
   intro i hi he
   have a := hs i hi
   have b := (h' i hi).1
   have d := h (c'.getD i 0) (by omega)
   omega
  have hex : ∃ i, i < n ∧ c'.getD i 0 = i ∧ c.getD i 0 ≠ i := by
   apply Classical.byContradiction
   intro hno
   apply hne
   apply List.ext_getElem (by omega)
   intro i h1 h2
   have hi : i < n := by omega
   have g1 : c'[i] = c'.getD i 0 := by simp [List.getD_eq_getElem?_getD, List.getElem?_eq_getElem h1]
   have g2 : c[i] = c.getD i 0 := by simp [List.getD_eq_getElem?_getD, List.getElem?_eq_getElem h2]
   rw [g1, g2]
   obtain ⟨a, b⟩ := h' i hi
   have hj : c.getD (c'.getD i 0) 0 = c'.getD i 0 := by
    apply Classical.byContradiction
    intro hq
    exact hno ⟨c'.getD i 0, by omega, b, hq⟩
   rw [← hs i hi, hj]
  obtain ⟨k, hk, e1, e2⟩ := hex
  unfold ownN
  have hle : ∀ m, m ≤ n → ((List.range m).filter fun i => c.getD i 0 == i).length + (if k < m then 1 else 0) ≤ ((List.range m).filter fun i => c'.getD i 0 == i).length := by
   intro m
   induction m with
   | zero => intro _; simp
   | succ m ih =>
     intro hm
     have := ih (by omega)
     rw [List.range_succ, List.filter_append, List.filter_append, List.length_append, List.length_append]
     by_cases h1 : c.getD m 0 = m
     ·have h2 := hsub m (by omega) h1
      have hkm : k ≠ m := fun e => e2 (by rw [e]; exact h1)
      simp only [List.filter_cons, List.filter_nil, h1, h2, beq_self_eq_true, if_true, List.length_singleton]
      split <;> split at this <;> omega
     ·have h1' : (c.getD m 0 == m) = false := by simp only [beq_eq_false_iff_ne]; exact h1
      by_cases hkm : k = m
      ·subst hkm
       simp only [List.filter_cons, List.filter_nil, h1', e1, beq_self_eq_true, if_true, List.length_singleton]
       simp at this ⊢
       omega
      ·simp only [List.filter_cons, List.filter_nil, h1']
       simp only [Bool.false_eq_true, if_false, List.length_nil]
       split <;> split at this <;> omega
  have := hle n (Nat.le_refl _)
  rw [if_pos hk] at this
  omega
theorem ownN_le (c : List Nat) (n : Nat) : ownN c n ≤ n := by
 unfold ownN
 exact Nat.le_trans (List.length_filter_le _ _) (by simp)
end Go.Proofs.YteaokkaidcbdlaaGreatDoor

