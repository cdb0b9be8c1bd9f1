/- Part 14 of 53: the texts Ls, If, Lt, one behind the other. -/
import Derived.Test.YteaokkaidcbdlaaGreatDoorM13
namespace Go.Proofs.YteaokkaidcbdlaaGreatDoor
open Go Go.RowKit Go.Shelf
theorem agree_any (a b : TyD) (va1 va2 va3 vb1 vb2 vb3 : Value) (W : World) (ha : TyL W va1 va2 va3 a) (hb : TyL W vb1 vb2 vb3 b) :
    Calls Tryz.prog 103 #[tyVal a va1 va2 va3, tyVal b vb1 vb2 vb3] W fun e w' => e = .returned (.bool (agreeB a b)) ∧ Below W.heap.size W w' := by
  have hC := hide (fun W' (h : Below W.heap.size W W') => areAlike_any a b va1 va2 va3 vb1 vb2 vb3 W' (ha.go (.below h)) (hb.go (.below h)))
  have hbel : ∀ o1 o2, Below W.heap.size W ((W.alloc o1).alloc o2) := fun o1 o2 => ((Below.refl _ _).alloc (Nat.le_refl _) _).alloc (by simp) _
  unfold tyVal at hC ⊢
  clear ha hb
  go_enter Tryz.func103, Tryz.ntmps103
  go_wp2_with (first | (go_at_call 114; refine (unhide hC _ (hbel _ _)).mono ?_; rintro e w4 ⟨rfl, hb4⟩))
  go_ret
  exact ⟨rfl, (hbel _ _).trans (hb4.mono (hbel _ _).size)⟩
def stepL (same : Nat → Nat → Bool) (st : List Nat × List Nat) (i : Nat) : List Nat × List Nat :=
 match st.1.findIdx? (fun f => same f i) with
 | none => (st.1 ++ [i], st.2 ++ [i])
 | some j => (st.1, st.2 ++ [st.1.getD j 0])
def leastsS (same : Nat → Nat → Bool) (n : Nat) : List Nat × List Nat := (List.range n).foldl (stepL same) ([], [])
theorem leastsS_succ (same : Nat → Nat → Bool) (n : Nat) : leastsS same (n + 1) = stepL same (leastsS same n) n := by
 unfold leastsS; rw [List.range_succ, List.foldl_append]; rfl
theorem leastsS_len (same : Nat → Nat → Bool) (n : Nat) : (leastsS same n).2.length = n ∧ (leastsS same n).1.length ≤ n ∧ ∀ f ∈ (leastsS same n).1, f < n := by
 induction n with
 | zero => exact ⟨rfl, Nat.le_refl _, fun f h => by simp [leastsS] at h⟩
 | succ n ih =>
   rw [leastsS_succ]
   unfold stepL
   obtain ⟨h1, h2, h3⟩ := ih
   split
   ·refine ⟨by simp [h1], by simp; omega, fun f hf => ?_⟩
    simp at hf
    rcases hf with hf | rfl
    ·have := h3 f hf; omega
    ·omega
   ·exact ⟨by simp [h1], by simp; omega, fun f hf => by have := h3 f hf; omega⟩
def idxI (p : Nat → Bool) (l : List Nat) : Int := match l.findIdx? p with | some j => j | none => -1
theorem idxI_at {p : Nat → Bool} {l : List Nat} {k : Nat} (h : k < l.length) (ha : (l.take k).all (fun f => !p f) = true) (hp : p l[k] = true) : idxI p l = k := by
 unfold idxI
 have : l.findIdx? p = some k := by
  rw [List.findIdx?_eq_some_iff_getElem]
  refine ⟨h, hp, fun j hj => ?_⟩
  have := List.all_eq_true.1 ha l[j] (by rw [List.mem_take_iff_getElem]; exact ⟨j, by omega, rfl⟩)
  simpa using this
 rw [this]
theorem idxI_none {p : Nat → Bool} {l : List Nat} (ha : l.all (fun f => !p f) = true) : idxI p l = -1 := by
 unfold idxI
 have : l.findIdx? p = none := by
  rw [List.findIdx?_eq_none_iff]
  intro x hx
  simpa using List.all_eq_true.1 ha x hx
 rw [this]
def natI (n : Nat) : Value := .int .i64 n
structure Ask157 (W : World) (fb ib tb : Nat) (o : Option Addr) (cap : Nat) (G : List TyD) (t : TyD) : Prop where
 f : W.cell? ⟨fb, 0, none⟩ = some (.func (.func 103) #[] #[])
 i : W.cell? ⟨ib, 0, none⟩ = some (.slice o G.length cap)
 g : GrAt W (.slice o G.length cap) G
 t : ∃ v1 v2 v3, TyL W v1 v2 v3 t ∧ ∀ j u, (tyC t v1 v2 v3)[j]? = some u → W.cell? ⟨tb, j, none⟩ = some u
theorem Ask157.below {W W' : World} {fb ib tb : Nat} {o : Option Addr} {cap : Nat} {G : List TyD} {t : TyD} (h : Ask157 W fb ib tb o cap G t) (hb : Below W.heap.size W W') : Ask157 W' fb ib tb o cap G t := by
 have hh := Holds.below hb
 obtain ⟨v1, v2, v3, hl, hc⟩ := h.t
 exact ⟨hh _ _ h.f, hh _ _ h.i, h.g.go hh, v1, v2, v3, hl.go hh, fun j u hu => hh _ _ (hc j u hu)⟩
set_option maxRecDepth 100000 in
set_option maxHeartbeats 8000000 in
theorem ask157_any (fb ib tb : Nat) (o : Option Addr) (cap : Nat) (G : List TyD) (t : TyD) (k : Nat) (hk : k < G.length) (W : World) (h : Ask157 W fb ib tb o cap G t) :
    Calls Tryz.prog 157 #[.int .i64 k, .pointer (some ⟨fb, 0, none⟩), .pointer (some ⟨ib, 0, none⟩), .pointer (some ⟨tb, 0, none⟩)] W fun e w' => e = .returned (.bool (agreeB G[k] t)) ∧ Below W.heap.size W w' := by
  obtain ⟨v1, v2, v3, hl, hc⟩ := h.t
  obtain ⟨_, _, _, hat⟩ := h.g.at
  obtain ⟨b, off, rfl, u1, u2, u3, gl, k0, k1, k2, k3, k4, k5, k6, k7, k8, k9⟩ := hat k G[k] (List.getElem?_eq_getElem hk)
  have hA := hide (fun W' (hb : Below W.heap.size W W') => agree_any G[k] t u1 u2 u3 v1 v2 v3 W' (gl.go (.below hb)) (hl.go (.below hb)))
  have hF : ∀ W', Below W.heap.size W W' → W'.cell? ⟨fb, 0, none⟩ = some (.func (.func 103) #[] #[]) := fun W' hb => Holds.below hb _ _ h.f
  have hI : ∀ W', Below W.heap.size W W' → W'.cell? ⟨ib, 0, none⟩ = some (.slice (some ⟨b, off, none⟩) G.length cap) := fun W' hb => Holds.below hb _ _ h.i
  have hT : ∀ W', Below W.heap.size W W' → ∀ j u, (tyC t v1 v2 v3)[j]? = some u → W'.cell? ⟨tb, j, none⟩ = some u := fun W' hb j u hu => Holds.below hb _ _ (hc j u hu)
  have hK : ∀ W', Below W.heap.size W W' → ∀ j u, (tyC G[k] u1 u2 u3)[j]? = some u → W'.cell? ⟨b, off + k * 10 + j, none⟩ = some u := fun W' hb j u hu => by
   refine Holds.below hb _ _ ?_
   match j with
   | 0 => simp [tyC] at hu; subst hu; exact k0
   | 1 => simp [tyC] at hu; subst hu; exact k1
   | 2 => simp [tyC] at hu; subst hu; exact k2
   | 3 => simp [tyC] at hu; subst hu; exact k3
   | 4 => simp [tyC] at hu; subst hu; exact k4
   | 5 => simp [tyC] at hu; subst hu; exact k5
   | 6 => simp [tyC] at hu; subst hu; exact k6
   | 7 => simp [tyC] at hu; subst hu; exact k7
   | 8 => simp [tyC] at hu; subst hu; exact k8
   | 9 => simp [tyC] at hu; subst hu; exact k9
   | j + 10 => simp [tyC] at hu
  have hk' : (k : Int) < G.length := by omega
  clear hat k0 k1 k2 k3 k4 k5 k6 k7 k8 k9 hl hc gl h
  generalize agreeB G[k] t = x at hA ⊢
  generalize G[k] = g at hA hK
  go_enter Tryz.func157, Tryz.ntmps157
  go_wp2_with fail
  refine wp_region_quiet (C := fun w' => Below W.heap.size W w') (by kernel_rfl) (by kernel_rfl) (below_drewN' (Below.refl _ _) 1) ?_
  simp only []
  repeat (first
   | go_big_quiet_skip
   | (go_big_quiet_want; go_big_quiet_op; first
     | go_big_quiet_on
     | (refine ⟨_, fun _ _ => rfl, ?_⟩; go_big_quiet_on)
     | (refine ⟨.func (.func 103) #[] #[], ?_, ?_⟩
        ·intro w1 hb
         have e := hF w1 hb
         simp [e, go_sem]
         done
        go_big_quiet_on)
     | (refine ⟨.slice (some ⟨b, off, none⟩) G.length cap, ?_, ?_⟩
        ·intro w1 hb
         have e := hI w1 hb
         simp [e, go_sem]
         done
        go_big_quiet_on)
     | (refine ⟨tyVal g u1 u2 u3, ?_, ?_⟩
        ·intro w1 hb
         have e0 := hK w1 hb 0 _ rfl
         have e1 := hK w1 hb 1 _ rfl
         have e2 := hK w1 hb 2 _ rfl
         have e3 := hK w1 hb 3 _ rfl
         have e4 := hK w1 hb 4 _ rfl
         have e5 := hK w1 hb 5 _ rfl
         have e6 := hK w1 hb 6 _ rfl
         have e7 := hK w1 hb 7 _ rfl
         have e8 := hK w1 hb 8 _ rfl
         have e9 := hK w1 hb 9 _ rfl
         rw [Nat.add_zero] at e0
         simp [e0, e1, e2, e3, e4, e5, e6, e7, e8, e9, tyVal, go_sem]
         done
        go_big_quiet_on)
     | (refine ⟨tyVal t v1 v2 v3, ?_, ?_⟩
        ·intro w1 hb
         have e0 := hT w1 hb 0 _ rfl
         have e1 := hT w1 hb 1 _ rfl
         have e2 := hT w1 hb 2 _ rfl
         have e3 := hT w1 hb 3 _ rfl
         have e4 := hT w1 hb 4 _ rfl
         have e5 := hT w1 hb 5 _ rfl
         have e6 := hT w1 hb 6 _ rfl
         have e7 := hT w1 hb 7 _ rfl
         have e8 := hT w1 hb 8 _ rfl
         have e9 := hT w1 hb 9 _ rfl
         simp [e0, e1, e2, e3, e4, e5, e6, e7, e8, e9, tyVal, go_sem]
         done
        go_big_quiet_on)
     | (apply Exists.intro
        refine ⟨fun w1 hb => ?_, ?_⟩
        ·with_reducible refine (unhide hA w1 hb).mono ?_
         rintro e w2 ⟨rfl, hb2⟩
         exact ⟨rfl, hb.trans (hb2.mono hb.size)⟩
        go_big_quiet_on)))
  refine wpQuiet_nil ?_
  rintro w1 hb
  go_wp2
  go_ret
  exact ⟨rfl, hb⟩
end Go.Proofs.YteaokkaidcbdlaaGreatDoor

namespace Go.Proofs.YteaokkaidcbdlaaGreatDoor
open Go Go.RowKit Go.Shelf
def natsV (l : List Nat) : List Value := l.map natI
theorem index157_any (fb ib tb : Nat) (o : Option Addr) (cap : Nat) (G : List TyD) (t : TyD) (F : List Nat) (hF : ∀ f ∈ F, f < G.length) (hl : F.length ≤ 1000000) (v : Value) (base : Nat) (W0 W : World) (hB : Below W0.heap.size W0 W)
    (h : Ask157 W0 fb ib tb o cap G t) (hv : W0.ownsRow base 3 1 v F.length (natsV F)) :
    Calls Tryz.prog 156 #[v, .func (.func 157) #[] #[.pointer (some ⟨fb, 0, none⟩), .pointer (some ⟨ib, 0, none⟩), .pointer (some ⟨tb, 0, none⟩)]] W fun e w' => e = .returned (.int .i64 (idxI (fun f => agreeB (G.getD f default) t) F)) ∧ Below W.heap.size W w' := by
  obtain ⟨oa, ca, rfl, hrow⟩ : ∃ oa ca, v = .slice oa F.length ca ∧ ∀ k (h : k < F.length), ∃ g, oa = some ⟨g, 0, none⟩ ∧ W0.cell? ⟨g, k, none⟩ = some (natI F[k]) := by
   have hv' := hv
   rcases hv.2 with ⟨rfl, h0⟩ | ⟨g, cap2, cur, rfl, _⟩
   ·exact ⟨none, 0, by rw [h0], fun k hk => by omega⟩
   ·refine ⟨_, _, rfl, fun k hk => ⟨g, rfl, ?_⟩⟩
    rw [Row1.cells hv' k hk]
    unfold natsV
    rw [List.getElem?_map, List.getElem?_eq_getElem hk]; rfl
  clear hv
  go_enter Tryz.func156, Tryz.ntmps156
  go_wp2
  go_loopw [8] (fun i wr => ∃ k : Nat, k ≤ F.length ∧ i = .int .i64 k ∧ Below W.heap.size W wr ∧ Hid ((F.take k).all (fun f => !agreeB (G.getD f default) t) = true)) (fun i _ => F.length - (intOf i).toNat)
  case atStart => exact ⟨0, Nat.zero_le _, rfl, Below.refl _ _, Lib.hid rfl⟩
  case round =>
   obtain ⟨k, hk, rfl, hbw, HT⟩ := hrel
   by_cases hlt : k < F.length
   ·have hlt' : (k : Int) < F.length := by omega
    have hbel := hB.trans (hbw.mono hB.size)
    obtain ⟨g, rfl, hc⟩ := hrow k hlt
    have r0 : wr.cell? ⟨g, k, none⟩ = some (.int .i64 F[k]) := Holds.below hbel _ _ hc
    have hfl := hF F[k] (List.getElem_mem hlt)
    have hA := ask157_any fb ib tb o cap G t F[k] hfl wr (h.below hbel)
    have hg : G.getD F[k] default = G[F[k]] := by rw [List.getD, List.getElem?_eq_getElem hfl]; rfl
    rw [← hg] at hA
    clear hrow hc hbel hF h
    cases hx : agreeB (G.getD F[k] default) t with
    | true =>
      rw [hx] at hA
      have HA := hide hA
      have HX := Lib.hid (idxI_at (p := fun f => agreeB (G.getD f default) t) hlt HT.out hx)
      clear hA hx hg
      go_wp2_with (first | (go_at_call 157; refine (unhide HA).mono ?_; rintro e w4 ⟨rfl, hb4⟩))
      go_ret
      exact ⟨ret_int HX.out.symm, hbw.trans (hb4.mono hbw.size)⟩
    | false =>
      rw [hx] at hA
      have HA := hide hA
      have HX := Lib.hid (show (F.take (k + 1)).all (fun f => !agreeB (G.getD f default) t) = true by rw [all_take _ _ _ hlt, HT.out, hx]; rfl)
      clear hA hx hg
      go_wp2_with (first | (go_at_call 157; refine (unhide HA).mono ?_; rintro e w4 ⟨rfl, hb4⟩))
      go_roundw
      case rel => exact ⟨k + 1, by omega, by go_num, hbw.trans (hb4.mono hbw.size), HX⟩
      case measure => simp [intOf]; omega
   ·obtain rfl : k = F.length := by omega
    have HX := Lib.hid (idxI_none (p := fun f => agreeB (G.getD f default) t) (l := F) (by have := HT.out; rwa [List.take_length] at this))
    go_wp2
    go_ret
    exact ⟨ret_int HX.out.symm, hbw⟩
end Go.Proofs.YteaokkaidcbdlaaGreatDoor

namespace Go.Proofs.YteaokkaidcbdlaaGreatDoor
open Go Go.RowKit Go.Shelf
theorem Row.below {w w' : World} {base : Nat} {e : TypeId} {sz : Nat} {v : Value} {n : Nat} {xs : List Value} (h : w.ownsRow base e sz v n xs) (hb : Below w.heap.size w w') : w'.ownsRow base e sz v n xs := by
 refine ⟨h.1, ?_⟩
 rcases h.2 with h0 | ⟨g, cap, cur, rfl, hg, hc, hr⟩
 ·exact .inl h0
 ·exact .inr ⟨g, cap, cur, rfl, hg, (hb.block g (Array.getElem?_eq_some_iff.1 hc).1).trans hc, hr⟩
theorem Row.mono {w : World} {base base' : Nat} {e : TypeId} {sz : Nat} {v : Value} {n : Nat} {xs : List Value} (h : w.ownsRow base e sz v n xs) (hb : base' ≤ base) : w.ownsRow base' e sz v n xs := by
 refine ⟨h.1, ?_⟩
 rcases h.2 with h0 | ⟨g, cap, cur, rfl, hg, hr⟩
 ·exact .inl h0
 ·exact .inr ⟨g, cap, cur, rfl, Nat.le_trans hb hg, hr⟩
theorem app_lies {ops : Array Oper} {rest : List Oper} {o : Oper} {a : Act} {Q : Exit → Act → World → Prop} {w : World} (s x : Operand) (t e : TypeId) (z : Value) (by_ : Nat)
    (hinfo : (Tryz.prog.info? e).map (fun i => (i.zero, i.size, i.bytes)) = some (some z, 1, by_)) (ht : Tryz.prog.underlying t = some (.slice e)) (hzs : z.cells.size = 1) (hby : by_ ≤ 24)
    (hgd : o.guard = none) (ho : o.op = .call { callee := .builtin .append, args := #[s, x], argTypes := #[t, t] }) (base : Nat) (v : Value) (xs : List Value) (hs : a.eval s = v) (hown : w.ownsRow base e 1 v xs.length xs)
    (h : Nat) (u : Value) (hx : a.eval x = .slice (some ⟨h, 0, none⟩) 1 1) (hc : w.cell? ⟨h, 0, none⟩ = some u) (hu : u.oneCell' = true) (hl : xs.length ≤ 1000000000) (hbase : base ≤ w.heap.size)
    (K : ∀ g cap w', w'.ownsRow base e 1 (.slice (some ⟨g, 0, none⟩) (xs.length + 1) cap) (xs.length + 1) (xs ++ [u]) → w.grownBy w' v.ownBlock → (v.ownBlock = some g ∨ g = w.heap.size) → (∀ B w0, Below B w0 w → B ≤ base → Below B w0 w') →
     wpList Tryz.prog ops Q rest (a.put o.dst (.slice (some ⟨g, 0, none⟩) (xs.length + 1) cap)) w') : wpList Tryz.prog ops Q (o :: rest) a w := by
  obtain ⟨i0, hi, hz0, hz1, hz2⟩ := info_parts hinfo
  refine wpList_append_lies w hgd s x t ho base e i0 z 1 by_ ht hi hz0 hz1 hz2 hzs (by decide) v xs.length xs hs hown ⟨h, 0, none⟩ 1 1 [u] hx rfl ?_ ?_ (by decide) (by unfold maxLen; omega) ?_ hbase w.heap.size rfl ?_
  ·intro j u' hj
   match j with
   | 0 => simp at hj; subst hj; rw [add_zero_addr]; exact hc
   | j + 1 => simp at hj
  ·intro u' hu'; simp at hu'; subst hu'; exact hu
  ·refine Nat.le_trans (Nat.mul_le_mul (show xs.length + 1 ≤ 1000000001 by omega) hby) (by decide)
  ·intro g cap w' hown' hgrow hg _
   refine K g cap w' hown' hgrow hg (fun B w0 hB hle => hB.grown hgrow (Nat.le_trans hle hbase) (fun j hj => ?_))
   have := (hown.lt j hj).1
   omega
def Apt (v u : Value) : Prop := ∀ g, v.ownBlock = some g → u.ownBlock ≠ some g
theorem Apt.symm {v u : Value} (h : Apt v u) : Apt u v := fun g hg hv => h g hv hg
theorem Apt.kept {w w' : World} {base : Nat} {e : TypeId} {sz : Nat} {v u : Value} {n : Nat} {xs : List Value} (h : w.ownsRow base e sz u n xs) (hg : w.grownBy w' v.ownBlock) (ha : Apt v u) : w'.ownsRow base e sz u n xs := by
 refine h.kept hg ?_
 cases hu : u.ownBlock with
 | none => exact .inl rfl
 | some g => exact .inr fun hq => ha g hq.symm hu
theorem natsV_snoc (l : List Nat) (n : Nat) : natsV (l ++ [n]) = natsV l ++ [natI n] := by unfold natsV; rw [List.map_append]; rfl
theorem natsV_len (l : List Nat) : (natsV l).length = l.length := by unfold natsV; simp
theorem findIdx_lt {p : Nat → Bool} {l : List Nat} {j : Nat} (h : l.findIdx? p = some j) : j < l.length := by
 rw [List.findIdx?_eq_some_iff_getElem] at h
 exact h.1
set_option maxRecDepth 100000 in
set_option maxHeartbeats 16000000 in
theorem leastsTy_any (gv : Value) (G : List TyD) (W : World) (hG0 : GrAt W gv G) (hlen : G.length ≤ 410) :
    Calls Tryz.prog 102 #[gv, .func (.func 103) #[] #[]] W fun e w' => ∃ v, e = .returned v ∧ w'.ownsRow W.heap.size 3 1 v G.length (natsV (leastsS (fun f i => agreeB (G.getD f default) (G.getD i default)) G.length).2) ∧ Below W.heap.size W w' := by
  obtain ⟨o, cap, rfl⟩ := hG0.form
  obtain ⟨same, hsame⟩ : ∃ same : Nat → Nat → Bool, same = fun f i => agreeB (G.getD f default) (G.getD i default) := ⟨_, rfl⟩
  rw [← hsame]
  have HSM := Lib.hid hsame
  clear hsame
  go_enter Tryz.func102, Tryz.ntmps102
  go_wp2
  have hW2 : Below W.heap.size W ((W.alloc (.cells #[.slice o G.length cap] 22)).alloc (.cells #[.func (.func 103) #[] #[]] 63)) := ((Below.refl _ _).alloc (Nat.le_refl _) _).alloc (by simp) _
  have g1 := (Blk.new W [.slice o G.length cap] 22).alloc (.cells #[.func (.func 103) #[] #[]] 63)
  have g2 := Blk.new (W.alloc (.cells #[.slice o G.length cap] 22)) [.func (.func 103) #[] #[]] 63
  rw [World.size_alloc] at g2
  change Blk ((W.alloc (.cells #[.slice o G.length cap] 22)).alloc (.cells #[.func (.func 103) #[] #[]] 63)) _ _ _ at g1
  change Blk ((W.alloc (.cells #[.slice o G.length cap] 22)).alloc (.cells #[.func (.func 103) #[] #[]] 63)) _ _ _ at g2
  generalize (W.alloc (.cells #[.slice o G.length cap] 22)).alloc (.cells #[.func (.func 103) #[] #[]] 63) = W2 at hW2 g1 g2 ⊢
  have hG2 := hG0.below hW2
  have hWs := hW2.size
  clear hG0
  go_loopw [5, 6, 12] (fun vF vN i wr => ∃ k : Nat, k ≤ G.length ∧ i = .int .i64 k ∧ Below W2.heap.size W2 wr ∧ wr.ownsRow W2.heap.size 3 1 vF (leastsS same k).1.length (natsV (leastsS same k).1) ∧ wr.ownsRow W2.heap.size 3 1 vN k (natsV (leastsS same k).2) ∧ Apt vF vN) (fun _ _ i _ => G.length - (intOf i).toNat)
  case atStart => exact ⟨0, Nat.zero_le _, rfl, Below.refl _ _, World.ownsRow_nil _ _ _ _, World.ownsRow_nil _ _ _ _, fun g h => by simp [Value.ownBlock] at h⟩
  case round =>
   obtain ⟨k, hk, rfl, hbw, rF, rN, hapt⟩ := hrel
   obtain ⟨hl1, hl2, hl3⟩ := leastsS_len same k
   have HST := Lib.hid (leastsS_succ same k)
   by_cases hlt : k < G.length
   ·have hlt' : (k : Int) < G.length := by omega
    have hGr := hG2.below hbw
    obtain ⟨_, _, _, hat⟩ := hGr.at
    have hgk := List.getElem?_eq_getElem hlt
    have hgd : G.getD k default = G[k] := by rw [List.getD, hgk]; rfl
    obtain ⟨b, off, rfl, v1, v2, v3, gl, k0, k1, k2, k3, k4, k5, k6, k7, k8, k9⟩ := hat k G[k] hgk
    have hAsk : Ask157 (wr.alloc (.cells (tyC G[k] v1 v2 v3).toArray 62)) (W.heap.size + 1) W.heap.size wr.heap.size (some ⟨b, off, none⟩) cap G G[k] := by
     have hb := (Below.refl wr.heap.size wr).alloc (Nat.le_refl _) (.cells (tyC G[k] v1 v2 v3).toArray 62)
     have hh := Holds.below hb
     exact ⟨hh _ _ ((g2.below hbw g2.lt).cell 0), hh _ _ ((g1.below hbw g1.lt).cell 0), hGr.go hh, v1, v2, v3, gl.go hh, fun j u hu => by rw [(Blk.new wr (tyC G[k] v1 v2 v3) 62).cell j]; exact hu⟩
    obtain ⟨q1, q2, q3, q4⟩ : (∃ oF cF, u5 = .slice oF (leastsS same k).1.length cF) ∧ (∃ oN cN, u6 = .slice oN k cN) ∧ True ∧ True := by
     refine ⟨?_, ?_, trivial, trivial⟩
     ·rcases rF.2 with ⟨rfl, h0⟩ | ⟨g, c2, cur, rfl, _⟩
      ·exact ⟨_, _, by rw [h0]⟩
      ·exact ⟨_, _, rfl⟩
     ·rcases rN.2 with ⟨rfl, h0⟩ | ⟨g, c2, cur, rfl, _⟩
      ·exact ⟨_, _, by rw [h0]⟩
      ·exact ⟨_, _, rfl⟩
    clear q3 q4
    obtain ⟨oF, cF, rfl⟩ := q1
    obtain ⟨oN, cN, rfl⟩ := q2
    obtain ⟨t, ht⟩ : ∃ t, G[k] = t := ⟨_, rfl⟩
    rw [ht] at hAsk gl k0 k1 k2 k3 k4 k5 k6 hgd
    obtain ⟨ob, cb, rfl⟩ := gl.parts.form
    obtain ⟨oc, cc, rfl⟩ := gl.meths.form
    obtain ⟨od, cd, rfl⟩ := gl.overs.form
    generalize hF : (leastsS same k).1 = F at rF hl2 hl3 HST hapt ⊢
    have HIX := hide (index157_any (W.heap.size + 1) W.heap.size wr.heap.size (some ⟨b, off, none⟩) cap G t F (fun f hf => Nat.lt_trans (hl3 f hf) hlt) (by omega) (.slice oF F.length cF) W2.heap.size _ _ (Below.refl _ _) hAsk (rF.alloc _))
    have hpe : (fun f => agreeB (G.getD f default) t) = fun f => same f k := by
     funext f
     rw [HSM.out]
     show _ = agreeB (G.getD f default) (G.getD k default)
     rw [hgd]
    rw [hpe] at HIX
    have hbA := hbw.alloc hbw.size (.cells (tyC t (.slice ob t.parts.length cb) (.slice oc t.meths.length cc) (.slice od t.overs.length cd)).toArray 62)
    have rFA := rF.alloc (.cells (tyC t (.slice ob t.parts.length cb) (.slice oc t.meths.length cc) (.slice od t.overs.length cd)).toArray 62)
    have rNA := rN.alloc (.cells (tyC t (.slice ob t.parts.length cb) (.slice oc t.meths.length cc) (.slice od t.overs.length cd)).toArray 62)
    clear hAsk gl hat hgk hgd hpe hGr rF rN hG2 g1 g2 ht hl3
    have hN63 := hl1
    cases hfi : F.findIdx? (fun f => same f k) with
    | none =>
      have hI : idxI (fun f => same f k) F = -1 := by unfold idxI; rw [hfi]
      rw [hI] at HIX
      have HS2 := Lib.hid (show leastsS same (k + 1) = (F ++ [k], (leastsS same k).2 ++ [k]) by rw [HST.out]; unfold stepL; rw [hF, hfi])
      clear hI hfi hF HST
      go_wp2_with (first | (go_at_call 156; refine (unhide HIX).mono ?_; clear HIX; rintro e w1 ⟨rfl, hb1⟩) | (at_builtin; refine app_lies _ _ 37 3 (.int .i64 0) 8 info3 Tryz.underlying37 rfl (by decide) rfl rfl W2.heap.size _ (natsV F) rfl (by rw [natsV_len]; exact (Row.below rFA hb1).alloc _) _ (natI k) rfl ?c1 rfl (by rw [natsV_len]; omega) ?c2 ?_))
      case c1 => exact (Blk.new w1 [natI k] 3).cell 0
      case c2 => exact ((hbA.trans (hb1.mono hbA.size)).alloc (hbA.trans (hb1.mono hbA.size)).size _).size
      intro g cap2 w2 hown' hgrow hg hbl
      have hB1 := (hbA.trans (hb1.mono hbA.size)).alloc (hbA.trans (hb1.mono hbA.size)).size (.cells #[.int .i64 k] 3)
      have hB2 := hbl _ _ hB1 (Nat.le_refl _)
      have rNb := (Row.below rNA hb1)
      have rN2 := Apt.kept (rNb.alloc (.cells #[.int .i64 k] 3)) hgrow hapt
      rw [natsV_len] at hown' ⊢
      have hcell : w2.cell? ⟨g, F.length, none⟩ = some (.int .i64 k) := by
       rw [Row1.cells hown' F.length (by omega), List.getElem?_append_right (by rw [natsV_len]; exact Nat.le_refl _), natsV_len, Nat.sub_self]; rfl
      have hapt2 : Apt (.slice (some ⟨g, 0, none⟩) (F.length + 1) cap2) (.slice oN k cN) := by
       intro g0 hg0 hn
       obtain rfl : g = g0 := by simpa [Value.ownBlock] using hg0
       rcases hg with hg | hg
       ·exact hapt g hg hn
       ·have := (rNb.lt g hn).2
        omega
      have hfk : (F.length : Int) < (F.length : Int) + 1 := by omega
      clear hb1 hgrow hg hbl rNb rNA rFA hbA hapt hB1
      go_wp2_with (first | (at_builtin; refine app_lies _ _ 37 3 (.int .i64 0) 8 info3 Tryz.underlying37 rfl (by decide) rfl rfl W2.heap.size _ (natsV (leastsS same k).2) rfl (by rw [natsV_len, hl1]; exact rN2.alloc _) _ (natI k) rfl ?c1 rfl (by rw [natsV_len]; omega) ?c2 ?_))
      case c1 => exact (Blk.new w2 [natI k] 3).cell 0
      case c2 => exact (hB2.alloc hB2.size _).size
      intro g2 cap3 w3 hown2 hgrow2 hg2 hbl2
      have rFn := hown'
      rw [natsV_len, hl1] at hown2 ⊢
      have hB3 := hbl2 _ _ (hB2.alloc hB2.size (.cells #[.int .i64 k] 3)) (Nat.le_refl _)
      have rF3 := Apt.kept (rFn.alloc (.cells #[.int .i64 k] 3)) hgrow2 hapt2.symm
      have hapt3 : Apt (.slice (some ⟨g, 0, none⟩) (F.length + 1) cap2) (.slice (some ⟨g2, 0, none⟩) (k + 1) cap3) := by
       intro g0 hg0 hn
       obtain rfl : g2 = g0 := by simpa [Value.ownBlock] using hn
       rcases hg2 with hg2 | hg2
       ·exact hapt2.symm g2 hg2 hg0
       ·have := (rFn.lt g2 hg0).2
        omega
      clear hgrow2 hg2 hbl2
      go_wp2
      go_roundw
      case rel =>
       refine ⟨k + 1, by omega, by go_num, hB3, ?_, ?_, ?_⟩
       ·rw [HS2.out]; simp only [natsV_snoc, List.length_append, List.length_singleton]; exact rF3
       ·rw [HS2.out]; simp only [natsV_snoc]; exact hown2
       ·exact hapt3
      case measure => simp [intOf]; omega
    | some j =>
      have hI : idxI (fun f => same f k) F = j := by unfold idxI; rw [hfi]
      rw [hI] at HIX
      have hj := findIdx_lt hfi
      obtain ⟨fj, hfj⟩ : ∃ fj, F[j] = fj := ⟨_, rfl⟩
      have HS2 := Lib.hid (show leastsS same (k + 1) = (F, (leastsS same k).2 ++ [fj]) by
       rw [HST.out]; unfold stepL; rw [hF, hfi]; simp only [List.getD, List.getElem?_eq_getElem hj, hfj]; rfl)
      have hj' : (j : Int) < F.length := by omega
      obtain ⟨gF, rfl⟩ : ∃ gF, oF = some ⟨gF, 0, none⟩ := by
       rcases rFA.2 with ⟨h0, h1⟩ | ⟨g, c2, cur, h0, _⟩
       ·omega
       ·injection h0 with h0; exact ⟨g, h0⟩
      have rFb := fun w1 (hb1 : Below _ _ w1) => Row.below rFA hb1
      have hcell := hide (fun w1 (hb1 : Below _ _ w1) => show w1.cell? ⟨gF, j, none⟩ = some (.int .i64 fj) by
       rw [Row1.cells (Row.below rFA hb1) j hj]
       unfold natsV
       rw [List.getElem?_map, List.getElem?_eq_getElem hj, hfj]; rfl)
      clear hI hfi hF HST hfj rFb
      go_wp2_with (first | (go_at_call 156; refine (unhide HIX).mono ?_; clear HIX; rintro e w1 ⟨rfl, hb1⟩; have hcl := unhide hcell w1 hb1; clear hcell) | (at_builtin; refine app_lies _ _ 37 3 (.int .i64 0) 8 info3 Tryz.underlying37 rfl (by decide) rfl rfl W2.heap.size _ (natsV (leastsS same k).2) rfl (by rw [natsV_len, hl1]; exact (Row.below rNA hb1).alloc _) _ (natI fj) rfl ?c1 rfl (by rw [natsV_len]; omega) ?c2 ?_))
      case c1 => exact (Blk.new w1 [natI fj] 3).cell 0
      case c2 => exact ((hbA.trans (hb1.mono hbA.size)).alloc (hbA.trans (hb1.mono hbA.size)).size _).size
      intro g2 cap3 w3 hown2 hgrow2 hg2 hbl2
      have hB2 := hbA.trans (hb1.mono hbA.size)
      have rFn := Row.below rFA hb1
      rw [natsV_len, hl1] at hown2 ⊢
      have hB3 := hbl2 _ _ (hB2.alloc hB2.size (.cells #[.int .i64 fj] 3)) (Nat.le_refl _)
      have rF3 := Apt.kept (rFn.alloc (.cells #[.int .i64 fj] 3)) hgrow2 hapt.symm
      have hapt3 : Apt (.slice (some ⟨gF, 0, none⟩) F.length cF) (.slice (some ⟨g2, 0, none⟩) (k + 1) cap3) := by
       intro g0 hg0 hn
       obtain rfl : g2 = g0 := by simpa [Value.ownBlock] using hn
       rcases hg2 with hg2 | hg2
       ·exact hapt.symm g2 hg2 hg0
       ·have := (rFn.lt g2 hg0).2
        omega
      clear hgrow2 hg2 hbl2
      go_wp2
      go_roundw
      case rel =>
       refine ⟨k + 1, by omega, by go_num, hB3, ?_, ?_, ?_⟩
       ·rw [HS2.out]; exact rF3
       ·rw [HS2.out]; simp only [natsV_snoc]; exact hown2
       ·exact hapt3
      case measure => simp [intOf]; omega
   ·obtain rfl : k = G.length := by omega
    go_wp2
    go_ret
    exact ⟨_, rfl, (Row.mono rN hWs), hW2.trans (hbw.mono hWs)⟩
end Go.Proofs.YteaokkaidcbdlaaGreatDoor

