/- Part 18 of 53: the texts Cl, one behind the other. -/
import Derived.Test.YteaokkaidcbdlaaGreatDoorM16
import Derived.Test.YteaokkaidcbdlaaGreatDoorM17
import Derived.Test.YteaokkaidcbdlaaGreatDoorM15
namespace Go.Proofs.YteaokkaidcbdlaaGreatDoor
open Go Go.RowKit Go.Shelf
theorem row_form {w : World} {base : Nat} {e : TypeId} {sz n : Nat} {v : Value} {xs : List Value} (h : w.ownsRow base e sz v n xs) : ∃ o c, v = .slice o n c := by
 rcases h.2 with ⟨rfl, h0⟩ | ⟨g, c2, cur, rfl, _⟩
 ·exact ⟨_, _, by rw [h0]⟩
 ·exact ⟨_, _, rfl⟩
structure ClI (w1 : World) (vc vT : Value) (G : List TyD) (k : Nat) (vs : List Value) (vb : Value) (wr : World) : Prop where
 bel : Below w1.heap.size w1 wr
 c : Boxed wr w1.heap.size 37 vc
 b : Boxed wr (w1.heap.size + 1) 130 vb
 t : wr.ownsRow (w1.heap.size + 2) 3 1 vT k (natsV (List.range k))
 l : vs.length = k
 rb : wr.ownsRow (w1.heap.size + 2) 37 1 vb k vs
 rv : ∀ j (h : j < vs.length) (h2 : j < G.length), wr.ownsRow (w1.heap.size + 2) 3 1 vs[j] (refsOf G[j]).length ((refsOf G[j]).map (.int .i64))
 apt : ∀ v ∈ vs, Apt vT v
theorem Apt.types {w : World} {base base' : Nat} {e e' : TypeId} {sz sz' n n' : Nat} {v u : Value} {xs ys : List Value} (h : w.ownsRow base e sz v n xs) (h' : w.ownsRow base' e' sz' u n' ys) (hne : e ≠ e') : Apt v u := by
 intro g hg hu
 rcases h.2 with ⟨rfl, _⟩ | ⟨g1, cap, cur, rfl, _, hgb, _⟩
 ·simp [Value.ownBlock] at hg
 ·rcases h'.2 with ⟨rfl, _⟩ | ⟨g2, cap2, cur2, rfl, _, hgb2, _⟩
  ·simp [Value.ownBlock] at hu
  ·obtain rfl : g1 = g := by simpa [Value.ownBlock] using hg
   obtain rfl : g2 = g1 := by simpa [Value.ownBlock] using hu
   rw [hgb] at hgb2; injection hgb2 with h1; injection h1 with _ h2; exact hne h2
theorem info37 : (Tryz.prog.info? 37).map (fun i => (i.zero, i.size, i.bytes)) = some (some (.slice none 0 0), 1, 24) := by kernel_rfl
theorem wp_appRow {o : Oper} {a : Act} {K : Act → World → Prop} {Q : Exit → Act → World → Prop} {W : World} (s x : Operand) (hop : o.op = .call { callee := .builtin .append, args := #[s, x], argTypes := #[130, 130] })
    (base : Nat) (v : Value) (k : Nat) (xs : List Value) (hs : a.eval s = v) (hown : W.ownsRow base 37 1 v k xs) (h : Nat) (u : Value) (hu : u.oneCell' = true) (hx : a.eval x = .slice (some ⟨h, 0, none⟩) 1 1) (hc : W.cell? ⟨h, 0, none⟩ = some u)
    (b1 : k < 1000000) (b3 : base ≤ W.heap.size)
    (hK : ∀ v' w', w'.ownsRow base 37 1 v' (k + 1) (xs ++ [u]) → W.grownBy w' v.ownBlock → K (a.put o.dst v') w') : o.wp Tryz.prog a W K Q := by
  obtain ⟨i0, hi, hz0, hz1, hz2⟩ := info_parts info37
  obtain ⟨v', w', hrun, r1, r2, r3⟩ := run_append_own (P := Tryz.prog) W base 130 o.type 37 i0 (.slice none 0 0) 1 24 Tryz.underlying130 hi hz0 hz1 hz2 (by decide) (by decide) v k xs hown ⟨h, 0, none⟩ 1 1 [u] (by simp)
   (fun j w hj => by match j with
    | 0 => simp at hj; subst hj; rw [add_zero_addr]; exact hc
    | j + 1 => simp at hj) (fun w hw => by simp at hw; subst hw; exact hu) (by unfold maxLen; omega) (by omega) b3
  unfold Oper.wp execOp
  simp only [hop, resolve, invoke, builtin, Sem.run_bind, Sem.run_pure, Result.andThen_ok, List.map_toArray, List.map_cons, List.map_nil, hs, hx, hrun]
  exact hK v' w' r1 r2
theorem ClI.below {w1 : World} {vc vT : Value} {G : List TyD} {k : Nat} {vs : List Value} {vb : Value} {wr w' : World} (h : ClI w1 vc vT G k vs vb wr) (hb : Below wr.heap.size wr w') : ClI w1 vc vT G k vs vb w' :=
 ⟨h.bel.trans (hb.mono h.bel.size), (hb.block _ h.c.lt).trans h.c, (hb.block _ h.b.lt).trans h.b, Row.below h.t hb, h.l, Row.below h.rb hb, fun j h1 h2 => Row.below (h.rv j h1 h2) hb, h.apt⟩
theorem row_off {w : World} {base b : Nat} {e : TypeId} {sz n : Nat} {v : Value} {xs : List Value} (h : w.ownsRow base e sz v n xs) (hb : b < base) : v.ownBlock = none ∨ some b ≠ v.ownBlock := by
 right; intro e'; have := (h.lt b e'.symm).1; omega
theorem row_set {w : World} {base b : Nat} {e : TypeId} {sz n : Nat} {v u : Value} {xs : List Value} (h : w.ownsRow base e sz v n xs) (hb : b < base) : (w.setCell ⟨b, 0, none⟩ u).ownsRow base e sz v n xs := by
 refine h.kept (grownBy_setCell' w b u) (.inr ?_)
 intro e'; have := (h.lt b e').1; omega
theorem ClI.setc {w1 : World} {vc vT : Value} {G : List TyD} {k : Nat} {vs : List Value} {vb : Value} {wr : World} (h : ClI w1 vc vT G k vs vb wr) (vc' : Value) : ClI w1 vc' vT G k vs vb (wr.setCell ⟨w1.heap.size, 0, none⟩ vc') :=
 ⟨h.bel.setCell (p := ⟨w1.heap.size, 0, none⟩) (Nat.le_refl _) vc', h.c.set vc', h.b.kept (grownBy_setCell' wr w1.heap.size vc') (by simp), row_set h.t (by omega), h.l, row_set h.rb (by omega), fun j h1 h2 => row_set (h.rv j h1 h2) (by omega), h.apt⟩
def finerL (B : List (List Int)) (n : Nat) (c : List Nat) : List Nat := (leastsS (finerB (c.map Int.ofNat) B) n).2
def settle (B : List (List Int)) (n : Nat) : Nat → List Nat → List Nat
 | 0, c => c
 | m + 1, c => if c = finerL B n c then c else settle B n m (finerL B n c)
def classesL (G : List TyD) : List Nat := settle (G.map refsOf) G.length (G.length + 1) (leastsS (fun f i => agreeB (G.getD f default) (G.getD i default)) G.length).2
theorem nats_inj {a b : List Nat} : a.map Int.ofNat = b.map Int.ofNat ↔ a = b := List.map_inj_right (fun x y h => by injection h)
theorem settle_step {B : List (List Int)} {n m : Nat} {c : List Nat} (hm : n - ownN c n < m) (hc : c.length = n) (h : ∀ i, i < n → c.getD i 0 ≤ i) (hne : c ≠ finerL B n c) :
    ∃ m', m = m' + 1 ∧ settle B n m c = settle B n m' (finerL B n c) ∧ n - ownN (finerL B n c) n < m' ∧ (finerL B n c).length = n ∧ ∀ i, i < n → (finerL B n c).getD i 0 ≤ i := by
  obtain ⟨h1, h2, h3⟩ := leasts_spec (finerB (c.map Int.ofNat) B) n
  obtain ⟨m', rfl⟩ : ∃ m', m = m' + 1 := ⟨m - 1, by omega⟩
  refine ⟨m', rfl, by simp [settle, hne], ?_, h1, fun i hi => (h2 i hi).1⟩
  have := finer_grows (c := c) (c' := finerL B n c) hc h1 h (fun i hi => ⟨(h2 i hi).1, (h2 i hi).2.2⟩) (fun i hi => by
   rcases (h2 i hi).2.1 with e | e
   ·show c.getD ((leastsS (finerB (c.map Int.ofNat) B) n).2.getD i 0) 0 = _
    rw [e]
   ·have hl : (leastsS (finerB (c.map Int.ofNat) B) n).2.getD i 0 < c.length := by have := (h2 i hi).1; omega
    have hi' : i < c.length := by omega
    show c.getD ((leastsS (finerB (c.map Int.ofNat) B) n).2.getD i 0) 0 = _
    generalize (leastsS (finerB (c.map Int.ofNat) B) n).2.getD i 0 = q at e hl ⊢
    unfold finerB sameB at e
    rw [Bool.and_eq_true, decide_eq_true_eq] at e
    have e1 := e.1
    simp [List.getD_eq_getElem?_getD, hl, hi'] at e1 ⊢
    first | omega | exact e1 | exact Int.ofNat.inj e1) (fun e => hne e.symm)
  have h4 := ownN_le (finerL B n c) n
  omega
theorem settle_end {B : List (List Int)} {n m : Nat} {c : List Nat} (he : c = finerL B n c) : settle B n m c = c := by
 cases m with
 | zero => rfl
 | succ m => simp [settle, ← he]
set_option maxRecDepth 100000 in
set_option maxHeartbeats 16000000 in
theorem classes_any (gv : Value) (G : List TyD) (W : World) (hG0 : GrAt W gv G) (hlen : G.length ≤ 410) (hR : ∀ t ∈ G, (refsOf t).length ≤ 100000) (hz : ∀ t ∈ G, ∀ x ∈ refsOf t, 0 ≤ x ∧ x < G.length) :
    Calls Tryz.prog 64 #[gv] W fun e w' => ∃ v, e = .returned v ∧ w'.ownsRow W.heap.size 3 1 v G.length (natsV (classesL G)) ∧ Below W.heap.size W w' := by
  obtain ⟨o, cap, rfl⟩ := hG0.form
  have HL := hide (leastsTy_any _ G W hG0 hlen)
  go_enter Tryz.func64, Tryz.ntmps64
  go_wp2_with (go_at_call 102; refine (unhide HL).mono ?_; clear HL; rintro e w1 ⟨vc, rfl, hrow, hb1⟩; obtain ⟨oc, cc, rfl⟩ := row_form hrow)
  have hG1 := hG0.below hb1
  have bC := Boxed.new w1 37 (.slice oc G.length cc)
  have bB := Boxed.new (w1.alloc (.cells #[.slice oc G.length cc] 37)) 130 (.slice none 0 0)
  rw [World.size_alloc] at bB
  have hI0 : ClI w1 (.slice oc G.length cc) (.slice none 0 0) G 0 [] (.slice none 0 0) ((w1.alloc (.cells #[.slice oc G.length cc] 37)).alloc (.cells #[.slice none 0 0] 130)) :=
   ⟨((Below.refl _ _).alloc (Nat.le_refl _) _).alloc (by simp) _, bC.alloc _, bB, World.ownsRow_nil _ _ _ _, rfl, World.ownsRow_nil _ _ _ _, fun j h => by simp at h, fun v h => by simp at h⟩
  generalize (w1.alloc (.cells #[.slice oc G.length cc] 37)).alloc (.cells #[.slice none 0 0] 130) = W2 at hI0 ⊢
  clear bC bB hG0
  go_loopw [4, 13] (fun vT i wr => ∃ (k : Nat) (vs : List Value) (vb : Value), k ≤ G.length ∧ i = .int .i64 k ∧ ClI w1 (.slice oc G.length cc) vT G k vs vb wr) (fun _ i _ => G.length - (intOf i).toNat)
  case atStart => exact ⟨0, [], _, Nat.zero_le _, rfl, hI0⟩
  case round =>
   obtain ⟨k, vs, vb, hk, rfl, hI⟩ := hrel
   by_cases hlt : k < G.length
   ·have hlt' : (k : Int) < G.length := by omega
    have hGr := hG1.below hI.bel
    obtain ⟨-, -, -, hat⟩ := hGr.at
    have hgk := List.getElem?_eq_getElem hlt
    obtain ⟨b, off, rfl, hTy⟩ := hat k G[k] hgk
    obtain ⟨oT, cT, rfl⟩ := row_form hI.t
    have hnb := hI.bel.size
    have hsz : w1.heap.size + 2 ≤ wr.heap.size := by have := hI.b.lt; omega
    clear hat hI0 hGr
    go_wp2_with (first | (at_builtin; refine app_lies _ _ 37 3 (.int .i64 0) 8 info3 Tryz.underlying37 rfl (by decide) rfl rfl (w1.heap.size + 2) _ (natsV (List.range k)) rfl (by rw [natsV_len, List.length_range]; exact hI.t.alloc _) _ (natI k) rfl ?c1 rfl (by rw [natsV_len, List.length_range]; omega) ?c2 ?_))
    case c1 => exact (Blk.new wr [natI k] 3).cell 0
    case c2 => simp; omega
    intro g cap2 w2 hown' hgrow hg hbl
    rw [natsV_len, List.length_range] at hown' ⊢
    have hAl : Below w1.heap.size w1 w2 := hbl _ _ (hI.bel.alloc hnb _) (by omega)
    have c2 := (hI.c.alloc (.cells #[natI k] 3)).kept hgrow ((hI.c.alloc (.cells #[natI k] 3)).not_row (by decide) (hI.t.alloc (.cells #[natI k] 3)))
    have b2 := (hI.b.alloc (.cells #[natI k] 3)).kept hgrow ((hI.b.alloc (.cells #[natI k] 3)).not_row (by decide) (hI.t.alloc (.cells #[natI k] 3)))
    have r2 := Apt.kept (hI.rb.alloc (.cells #[natI k] 3)) hgrow (Apt.types hI.t hI.rb (by decide))
    have v2 : ∀ j (h : j < vs.length) (h2 : j < G.length), w2.ownsRow (w1.heap.size + 2) 3 1 vs[j] (refsOf G[j]).length ((refsOf G[j]).map (.int .i64)) :=
     fun j h h2 => Apt.kept ((hI.rv j h h2).alloc (.cells #[natI k] 3)) hgrow (hI.apt _ (List.getElem_mem h))
    have a2 : ∀ v ∈ vs, Apt (.slice (some ⟨g, 0, none⟩) (k + 1) cap2) v := by
     intro v hv g0 hg0 hn
     obtain rfl : g = g0 := by simpa [Value.ownBlock] using hg0
     rcases hg with hg | hg
     ·exact hI.apt v hv g hg hn
     ·obtain ⟨j, hj, rfl⟩ := List.mem_iff_getElem.1 hv
      have := ((hI.rv j hj (by have := hI.l; omega)).lt g hn).2
      first | omega | (simp at hg; omega)
    have t2 : w2.ownsRow (w1.heap.size + 2) 3 1 (.slice (some ⟨g, 0, none⟩) (k + 1) cap2) (k + 1) (natsV (List.range (k + 1))) := by
     rw [List.range_succ, natsV_snoc]; exact hown'
    have hl := hI.l
    have hsz2 : w1.heap.size + 2 ≤ w2.heap.size := by have := b2.lt; omega
    obtain ⟨t, ht⟩ : ∃ t, G[k] = t := ⟨_, rfl⟩
    have hmem : t ∈ G := ht ▸ List.getElem_mem hlt
    have hTy2 : TyAt w2 b (off + k * 10) t := by
     have h0 := (hG1.at.2.2.2 k G[k] hgk)
     obtain ⟨b', off', e', h0⟩ := h0
     cases e'
     rw [ht] at h0
     exact h0.go (.below hAl)
    have hDr : Below w2.heap.size w2 w2.drew := ⟨rfl, rfl, rfl, Nat.le_refl _, fun _ _ => rfl⟩
    have HRF := hide (references_any b (off + k * 10) t w2.drew (hTy2.go (.below hDr)) (hR t hmem))
    have fin : ∀ (w3 : World) (vr : Value), w3.ownsRow w2.heap.size 3 1 vr (refsOf t).length ((refsOf t).map (.int .i64)) → Below w2.heap.size w2 w3 → ∀ (v' : Value) (w4 : World), w4.ownsRow (w1.heap.size + 2) 37 1 v' (k + 1) (vs ++ [vr]) →
        (w3.alloc (.cells #[vr] 37)).grownBy w4 vb.ownBlock → ClI w1 (.slice oc G.length cc) (.slice (some ⟨g, 0, none⟩) (k + 1) cap2) G (k + 1) (vs ++ [vr]) v' (w4.setCell ⟨w1.heap.size + 1, 0, none⟩ v') := by
      intro w3 vr hvr h23 v' w4 hown4 hg4
      have c3 : Boxed w3 w1.heap.size 37 (.slice oc G.length cc) := (h23.block _ c2.lt).trans c2
      have b3 : Boxed w3 (w1.heap.size + 1) 130 vb := (h23.block _ b2.lt).trans b2
      have r3 := Row.below r2 h23
      have t3 := Row.below t2 h23
      have h5 := Boxed.appended (tmp := .cells #[vr] 37) b3 (by decide) (Row.mono (base' := w1.heap.size) r3 (by omega)) (by have := h23.size; omega) (by omega) (Row.mono (base' := w1.heap.size) hown4 (by omega)) hg4
      have t4 := (Apt.kept (t3.alloc (.cells #[vr] 37)) hg4 (Apt.types r3 t3 (by decide)))
      have t5 := t4.kept (grownBy_setCell' w4 (w1.heap.size + 1) v') (.inr (h5.1.not_row (by decide) t4).symm)
      have hv4 : ∀ (u : Value) (l : List Value) (n base : Nat), w3.ownsRow base 3 1 u n l → (w4.setCell ⟨w1.heap.size + 1, 0, none⟩ v').ownsRow base 3 1 u n l := by
       intro u l n base hu
       have u4 := (Apt.kept (hu.alloc (.cells #[vr] 37)) hg4 (Apt.types r3 hu (by decide)))
       exact u4.kept (grownBy_setCell' w4 (w1.heap.size + 1) v') (.inr (h5.1.not_row (by decide) u4).symm)
      have hbel4 : Below w1.heap.size w1 (w4.setCell ⟨w1.heap.size + 1, 0, none⟩ v') := (hAl.trans (h23.mono (by omega))).trans h5.2.2.2.2
      have hvrb : ∀ q, vr.ownBlock = some q → w2.heap.size ≤ q := fun q hq => (hvr.lt q hq).1
      refine ⟨hbel4, ?_, h5.2.1, t5, by simp [hl], World.ownsRow.kept hown4 (grownBy_setCell' w4 (w1.heap.size + 1) v') (.inr (h5.1.not_row (by decide) hown4).symm), ?_, ?_⟩
      ·have hne : some w1.heap.size ≠ vb.ownBlock := by
         intro e
         have := (r3.lt w1.heap.size e.symm).1
         omega
       exact ((c3.alloc (.cells #[vr] 37)).kept hg4 hne).kept (grownBy_setCell' w4 (w1.heap.size + 1) v') (by simp)
      ·intro j hj hj2
       by_cases hjk : j < vs.length
       ·rw [List.getElem_append_left hjk]
        exact hv4 _ _ _ _ (Row.below (v2 j hjk hj2) h23)
       ·have : j = k := by simp at hj; omega
        subst this
        rw [List.getElem_append_right (by omega)]
        simp only [hl, Nat.sub_self, List.getElem_cons_zero, ht]
        exact Row.mono (hv4 _ _ _ _ hvr) (by omega)
      ·intro u hu
       rw [List.mem_append, List.mem_singleton] at hu
       rcases hu with hu | rfl
       ·exact a2 u hu
       ·intro q hq hn
        have h1 := hvrb q hn
        have h2 := (t2.lt q hq).2
        omega
    have bc2 := b2.cell
    go_wp2
    refine wp_region_any (by kernel_rfl) ?_
    change wpAny _ _ _ _ _ _ _ (World.drew _)
    (refine wpAny_take (i := 1) (v := ?_) rfl (by kernel_rfl) (by kernel_rfl) (by kernel_rfl) (fun _ _ _ h => h) (Or.inl ⟨by rfl, ?_⟩) ?_; rotate_left; (intro w; go_simp); try with_reducible rfl)
    (refine wpAny_take (i := 2) (v := ?_) rfl (by kernel_rfl) (by kernel_rfl) (by kernel_rfl) (fun _ _ _ h => h) (Or.inl ⟨by rfl, ?_⟩) ?_; rotate_left; (intro w; go_simp); try with_reducible rfl)
    (refine wpAny_take (i := 3) (v := ?_) rfl (by kernel_rfl) (by kernel_rfl) (by kernel_rfl) (fun _ _ _ h => h) (Or.inl ⟨by rfl, ?_⟩) ?_; rotate_left; (intro w; go_simp); try with_reducible rfl)
    refine wpAny_ready (rs := [0, 4]) (by kernel_rfl) (by simp) ?_
    refine AllReady.cons rfl (fun K hK => ?_) (BigFrame.allReady_want rfl (by kernel_rfl) (fun K hK => ?_) AllReady.nil)
    ·go_simp; refine hK _ _ ?_; clear hK K
     refine wpAny_ready (rs := [4]) (by kernel_rfl) (by simp) ?_
     refine BigFrame.allReady_want rfl (by kernel_rfl) (fun K hK => ?_) AllReady.nil
     go_simp
     refine (unhide HRF).mono ?_
     rintro e w3 ⟨vr, rfl, hvr, h3⟩
     obtain ⟨ovr, cvr, rfl⟩ := row_form hvr
     have h23 : Below w2.heap.size w2 w3 := hDr.trans h3
     have b3 : Boxed w3 (w1.heap.size + 1) 130 vb := (h23.block _ b2.lt).trans b2
     have bc3 := b3.cell
     have bd3 := (b3.alloc (.cells #[.slice ovr (refsOf t).length cvr] 37)).cell
     simp only []
     refine hK _ _ ?_
     clear hK K
     (refine wpAny_ready (rs := [5]) (by kernel_rfl) (by simp) ?_; refine AllReady.cons rfl (fun K hK => ?_) AllReady.nil; go_simp; refine hK _ _ ?_; clear hK K)
     refine wpAny_ready (rs := [6]) (by kernel_rfl) (by simp) ?_
     refine BigFrame.allReady_want rfl (by kernel_rfl) (fun K hK => ?_) AllReady.nil
     refine wp_appRow _ _ rfl (w1.heap.size + 2) vb k vs rfl ((Row.below r2 h23).alloc _) w3.heap.size (.slice ovr (refsOf t).length cvr) rfl rfl ((Blk.new w3 [.slice ovr (refsOf t).length cvr] 37).cell 0) (by omega) (by have := h23.size; simp; omega) ?_
     intro v' w4 hown4 hg4
     have hF := fin w3 _ hvr h23 v' w4 hown4 hg4
     have b4 : Boxed w4 (w1.heap.size + 1) 130 vb := (b3.alloc _).kept hg4 ((b3.alloc (.cells #[.slice ovr (refsOf t).length cvr] 37)).not_row (by decide) ((Row.below r2 h23).alloc _))
     have bc4 := b4.cell
     have bz4 := b4.frozen
     obtain ⟨g', cap', rfl⟩ := ownsRow_succ hown4
     refine hK _ _ ?_
     clear hK K
     (refine wpAny_ready (rs := [7]) (by kernel_rfl) (by simp) ?_; refine AllReady.cons rfl (fun K hK => ?_) AllReady.nil; go_simp; refine hK _ _ ?_; clear hK K)
     refine wpAny_done (by kernel_rfl) ?_ _
     go_wp2
     go_roundw
     case rel => exact ⟨k + 1, _, _, by omega, by go_num, hF⟩
     case measure => simp [intOf]; omega
    ·
     go_simp
     refine (unhide HRF).mono ?_
     rintro e w3 ⟨vr, rfl, hvr, h3⟩
     obtain ⟨ovr, cvr, rfl⟩ := row_form hvr
     have h23 : Below w2.heap.size w2 w3 := hDr.trans h3
     have b3 : Boxed w3 (w1.heap.size + 1) 130 vb := (h23.block _ b2.lt).trans b2
     have bc3 := b3.cell
     have bd3 := (b3.alloc (.cells #[.slice ovr (refsOf t).length cvr] 37)).cell
     simp only []
     refine hK _ _ ?_
     clear hK K
     refine wpAny_ready (rs := [0, 5]) (by kernel_rfl) (by simp) ?_
     refine AllReady.cons rfl (fun K hK => ?_) (AllReady.cons rfl (fun K hK => ?_) AllReady.nil)
     ·go_simp; refine hK _ _ ?_; clear hK K
      (refine wpAny_ready (rs := [5]) (by kernel_rfl) (by simp) ?_; refine AllReady.cons rfl (fun K hK => ?_) AllReady.nil; go_simp; refine hK _ _ ?_; clear hK K)
      refine wpAny_ready (rs := [6]) (by kernel_rfl) (by simp) ?_
      refine BigFrame.allReady_want rfl (by kernel_rfl) (fun K hK => ?_) AllReady.nil
      refine wp_appRow _ _ rfl (w1.heap.size + 2) vb k vs rfl ((Row.below r2 h23).alloc _) w3.heap.size (.slice ovr (refsOf t).length cvr) rfl rfl ((Blk.new w3 [.slice ovr (refsOf t).length cvr] 37).cell 0) (by omega) (by have := h23.size; simp; omega) ?_
      intro v' w4 hown4 hg4
      have hF := fin w3 _ hvr h23 v' w4 hown4 hg4
      have b4 : Boxed w4 (w1.heap.size + 1) 130 vb := (b3.alloc _).kept hg4 ((b3.alloc (.cells #[.slice ovr (refsOf t).length cvr] 37)).not_row (by decide) ((Row.below r2 h23).alloc _))
      have bc4 := b4.cell
      have bz4 := b4.frozen
      obtain ⟨g', cap', rfl⟩ := ownsRow_succ hown4
      refine hK _ _ ?_
      clear hK K
      (refine wpAny_ready (rs := [7]) (by kernel_rfl) (by simp) ?_; refine AllReady.cons rfl (fun K hK => ?_) AllReady.nil; go_simp; refine hK _ _ ?_; clear hK K)
      refine wpAny_done (by kernel_rfl) ?_ _
      go_wp2
      go_roundw
      case rel => exact ⟨k + 1, _, _, by omega, by go_num, hF⟩
      case measure => simp [intOf]; omega
     ·go_simp; refine hK _ _ ?_; clear hK K
      (refine wpAny_ready (rs := [0]) (by kernel_rfl) (by simp) ?_; refine AllReady.cons rfl (fun K hK => ?_) AllReady.nil; go_simp; refine hK _ _ ?_; clear hK K)
      refine wpAny_ready (rs := [6]) (by kernel_rfl) (by simp) ?_
      refine BigFrame.allReady_want rfl (by kernel_rfl) (fun K hK => ?_) AllReady.nil
      refine wp_appRow _ _ rfl (w1.heap.size + 2) vb k vs rfl ((Row.below r2 h23).alloc _) w3.heap.size (.slice ovr (refsOf t).length cvr) rfl rfl ((Blk.new w3 [.slice ovr (refsOf t).length cvr] 37).cell 0) (by omega) (by have := h23.size; simp; omega) ?_
      intro v' w4 hown4 hg4
      have hF := fin w3 _ hvr h23 v' w4 hown4 hg4
      have b4 : Boxed w4 (w1.heap.size + 1) 130 vb := (b3.alloc _).kept hg4 ((b3.alloc (.cells #[.slice ovr (refsOf t).length cvr] 37)).not_row (by decide) ((Row.below r2 h23).alloc _))
      have bc4 := b4.cell
      have bz4 := b4.frozen
      obtain ⟨g', cap', rfl⟩ := ownsRow_succ hown4
      refine hK _ _ ?_
      clear hK K
      (refine wpAny_ready (rs := [7]) (by kernel_rfl) (by simp) ?_; refine AllReady.cons rfl (fun K hK => ?_) AllReady.nil; go_simp; refine hK _ _ ?_; clear hK K)
      refine wpAny_done (by kernel_rfl) ?_ _
      go_wp2
      go_roundw
      case rel => exact ⟨k + 1, _, _, by omega, by go_num, hF⟩
      case measure => simp [intOf]; omega
   ·obtain rfl : k = G.length := by omega
    have hB : (G.map refsOf).length = G.length := by simp
    have hzB : ∀ l ∈ G.map refsOf, ∀ x ∈ l, 0 ≤ x ∧ x < G.length := by
     intro l hl x hx
     obtain ⟨t, ht, rfl⟩ := List.mem_map.1 hl
     exact hz t ht x hx
    obtain ⟨oT, cT, rfl⟩ := row_form hI.t
    obtain ⟨ob, cb, rfl⟩ : ∃ ob cb, vb = .slice ob G.length cb := row_form hI.rb
    have hsp := leasts_spec (fun f i => agreeB (G.getD f default) (G.getD i default)) G.length
    have HR := Lib.hid (show settle (G.map refsOf) G.length (G.length + 1) (leastsS (fun f i => agreeB (G.getD f default) (G.getD i default)) G.length).2 = classesL G from rfl)
    have hrw := Row.below hrow hI.bel
    generalize (leastsS (fun f i => agreeB (G.getD f default) (G.getD i default)) G.length).2 = c0 at hrw HR hsp
    obtain ⟨R, hRd⟩ : ∃ R, classesL G = R := ⟨_, rfl⟩
    rw [hRd] at HR
    have HD := Lib.hid hRd
    clear hRd
    obtain ⟨hc1, hc2, -⟩ := hsp
    have hc3 := fun i hi => (hc2 i hi).1
    have hb1s := hb1.size
    clear hrow hG1 hI0 hR hc2 hz
    have HZ := hide hzB
    clear hzB
    go_wp2
    go_loopg [] (G.length + 1) (fun m wr' => ∃ (c : List Nat) (vc : Value), ClI w1 vc (.slice oT G.length cT) G G.length vs (.slice ob G.length cb) wr' ∧ wr'.ownsRow W.heap.size 3 1 vc G.length (natsV c) ∧ c.length = G.length ∧
     (∀ i, i < G.length → c.getD i 0 ≤ i) ∧ G.length - ownN c G.length < m ∧ Hid (settle (G.map refsOf) G.length m c = R))
    case atStart => exact ⟨c0, _, hI, hrw, hc1, hc3, by omega, HR⟩
    case round =>
     clear hI hrw hc1 hc3 HR hk
     obtain ⟨c, vc, hC, hcr, hcl, hci, hcm, HS⟩ := hrel
     obtain ⟨oc2, cc2, rfl⟩ := row_form hcr
     have hxs : (c.map Int.ofNat).length = G.length := by simp [hcl]
     have hbA := (Below.refl wr.heap.size wr).alloc (Nat.le_refl _) (.cells #[.func (.func 105) #[] #[.pointer (some ⟨w1.heap.size, 0, none⟩)]] 132)
     have hA := hC.below hbA
     have hcA := Row.below hcr hbA
     have hsA := (Blk.new wr [.func (.func 105) #[] #[.pointer (some ⟨w1.heap.size, 0, none⟩)]] 132).cell 0
     change (wr.alloc (.cells #[.func (.func 105) #[] #[.pointer (some ⟨w1.heap.size, 0, none⟩)]] 132)).cell? _ = _ at hsA
     have hq : Ask107 (wr.alloc (.cells #[.func (.func 105) #[] #[.pointer (some ⟨w1.heap.size, 0, none⟩)]] 132)) wr.heap.size (w1.heap.size + 1) w1.heap.size (.slice oc2 G.length cc2) (.slice ob G.length cb) (c.map Int.ofNat) (G.map refsOf) :=
      ⟨hsA, hA.c.cell, row_nats (by rw [hcl]; exact hcA), hA.b.cell, by
       have hvl := hA.l
       exact row_rows (base := w1.heap.size + 2) (base' := w1.heap.size + 2) (vs := vs) (by rw [hvl]; exact hA.rb) (by simp [hvl]) (fun i h1 h2 => by simpa using hA.rv i h1 (by simpa using h2))⟩
     have H1 := leastsInt_any wr.heap.size (w1.heap.size + 1) w1.heap.size oT cT (.slice oc2 G.length cc2) (.slice ob G.length cb) (c.map Int.ofNat) (G.map refsOf) (by rw [hxs]; exact hB) (by rw [hxs]; exact unhide HZ) (by rw [hxs]; exact hlen) (wr.alloc (.cells #[.func (.func 105) #[] #[.pointer (some ⟨w1.heap.size, 0, none⟩)]] 132))
      (by rw [hxs]; have := row_nats (l := List.range G.length) (by rw [List.length_range]; exact hA.t); exact this) hq
     rw [hxs] at H1
     obtain ⟨c', hc'⟩ : ∃ c', finerL (G.map refsOf) G.length c = c' := ⟨_, rfl⟩
     have hc'2 : (leastsS (finerB (c.map Int.ofNat) (G.map refsOf)) G.length).2 = c' := hc'
     rw [hc'2] at H1
     have hc'l : c'.length = G.length := by rw [← hc'2]; exact (leasts_spec _ _).1
     have H106 := hide H1
     have hAb : Below w1.heap.size w1 (wr.alloc (.cells #[.func (.func 105) #[] #[.pointer (some ⟨w1.heap.size, 0, none⟩)]] 132)) := hA.bel
     have hws := hC.bel.size
     by_cases he : c = c'
     ·have HE := Lib.hid (show c = R by
        have h := HS.out
        rw [settle_end (by rw [hc']; exact he)] at h
        exact h)
      have H109 := hide (fun (w3 : World) (o3 : Option Addr) (c3 : Nat) (h3 : w3.ownsRow wr.heap.size 3 1 (.slice o3 G.length c3) G.length (natsV c')) (h4 : w3.ownsRow W.heap.size 3 1 (.slice oc2 G.length cc2) G.length (natsV c)) =>
       (equalInts_any (.slice oc2 G.length cc2) (.slice o3 G.length c3) (c.map Int.ofNat) (c'.map Int.ofNat) w3 (row_nats (by rw [hcl]; exact h4)) (row_nats (by rw [hc'l]; exact h3))).mono fun e w' h => (⟨by rw [h.1, he, decide_eq_true rfl], h.2⟩ : e = .returned (.bool true) ∧ Below w3.heap.size w3 w'))
      clear H1 hq hsA hc'2 hc' he HS hcm hci
      go_wp2_with (first | (go_at_call 106; refine (unhide H106).mono ?_; clear H106; rintro e w3 ⟨v3, rfl, hr3, hb3⟩; obtain ⟨o3, c3, rfl⟩ := row_form hr3; have hC3 := hA.below hb3; have hc3r := Row.below hcA hb3; have bc3 := hC3.c.cell) | (go_at_call 109; refine (unhide H109 w3 o3 c3 (Row.mono hr3 (by simp)) hc3r).mono ?_; clear H109; rintro e w4 ⟨rfl, hb4⟩; have hC4 := hC3.below hb4; have bc4 := hC4.c.cell))
      go_ret
      exact ⟨_, rfl, by rw [HD.out, ← HE.out]; exact Row.below hc3r hb4, hb1.trans (hC4.bel.mono hb1s)⟩
     ·obtain ⟨m', hm', hst, hlt2, hl2, hi2⟩ := settle_step (B := G.map refsOf) hcm hcl hci (by rw [hc']; exact he)
      rw [hc'] at hst hlt2 hl2 hi2
      have HST := Lib.hid (hst.symm.trans HS.out)
      have H109 := hide (fun (w3 : World) (o3 : Option Addr) (c3 : Nat) (h3 : w3.ownsRow wr.heap.size 3 1 (.slice o3 G.length c3) G.length (natsV c')) (h4 : w3.ownsRow W.heap.size 3 1 (.slice oc2 G.length cc2) G.length (natsV c)) =>
       (equalInts_any (.slice oc2 G.length cc2) (.slice o3 G.length c3) (c.map Int.ofNat) (c'.map Int.ofNat) w3 (row_nats (by rw [hcl]; exact h4)) (row_nats (by rw [hc'l]; exact h3))).mono fun e w' h => (⟨by rw [h.1, decide_eq_false (fun q => he (nats_inj.1 q))], h.2⟩ : e = .returned (.bool false) ∧ Below w3.heap.size w3 w'))
      clear H1 hq hsA hc'2 hc' he HS hcm hci hst
      go_wp2_with (first | (go_at_call 106; refine (unhide H106).mono ?_; clear H106; rintro e w3 ⟨v3, rfl, hr3, hb3⟩; obtain ⟨o3, c3, rfl⟩ := row_form hr3; have hC3 := hA.below hb3; have hc3r := Row.below hcA hb3; have bc3 := hC3.c.cell) | (go_at_call 109; refine (unhide H109 w3 o3 c3 (Row.mono hr3 (by simp)) hc3r).mono ?_; clear H109; rintro e w4 ⟨rfl, hb4⟩; have hC4 := hC3.below hb4; have bc4 := hC4.c.cell; have bz4 := hC4.c.frozen))
      go_roundg m'
      case measure => omega
      case rel =>
       have hr4 := Row.below hr3 hb4
       refine ⟨c', _, hC4.setc _, ?_, hl2, hi2, hlt2, HST⟩
       refine row_set (Row.mono (base' := w1.heap.size + 1) hr4 (by have := hC.b.lt; simp; omega)) (by omega) |> fun h => Row.mono h (by omega)
end Go.Proofs.YteaokkaidcbdlaaGreatDoor

