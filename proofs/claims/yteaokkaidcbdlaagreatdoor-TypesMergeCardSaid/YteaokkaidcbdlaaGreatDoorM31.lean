/- Part 31 of 53: the texts We, Wg, one behind the other. -/
import Derived.Test.YteaokkaidcbdlaaGreatDoorM18
import Derived.Test.YteaokkaidcbdlaaGreatDoorM28
namespace Go.Proofs.YteaokkaidcbdlaaGreatDoor
open Go Go.RowKit Go.Shelf
theorem row_empty {w : World} {base : Nat} {e : TypeId} {sz : Nat} {g : Nat} (hb : Blk w g [] e) (hg : base ≤ g) : w.ownsRow base e sz (.slice (some ⟨g, 0, none⟩) 0 0) 0 [] :=
 ⟨by simp, .inr ⟨g, 0, #[], rfl, hg, hb, Nat.le_refl _, by decide, by simp, by simp⟩⟩
theorem rows_keep {w1 w2 : World} {base base' : Nat} {e e' : TypeId} {sz sz' n n' : Nat} {v u : Value} {xs ys : List Value} (hv : w1.ownsRow base e sz v n xs) (hg : w1.grownBy w2 v.ownBlock) (hu : w1.ownsRow base' e' sz' u n' ys) (hne : e ≠ e') : w2.ownsRow base' e' sz' u n' ys :=
 Apt.kept hu hg (Apt.types hv hu hne)
structure TN (W wr : World) (t : TyD) (vp vm vo : Value) (U : TyD) (wp wm wo : Value) (P : List PartD) (X : List MV) : Prop where
 bel : Below W.heap.size W wr
 a : Blk wr W.heap.size (tyC t vp vm vo) 62
 b : Blk wr (W.heap.size + 1) zeroTyC 62
 c : Blk wr (W.heap.size + 2) (tyC U wp wm wo) 62
 rp : wr.ownsRow (W.heap.size + 3) 93 2 wp P.length (partCells P)
 ro : wr.ownsRow (W.heap.size + 3) 116 2 wo t.overs.length (overCells t.overs)
 rm : wr.ownsRow (W.heap.size + 3) 74 5 wm X.length (mvCells X)
 own : ∀ x ∈ X, wr.ownsRow (W.heap.size + 3) 3 1 x.2.1 x.1.args.length (x.1.args.map (.int .i64)) ∧ wr.ownsRow (W.heap.size + 3) 9 1 x.2.2 x.1.raises.length (x.1.raises.map .string)
theorem TN.below {W wr w' : World} {t U : TyD} {vp vm vo wp wm wo : Value} {P : List PartD} {X : List MV} (h : TN W wr t vp vm vo U wp wm wo P X) (hb : Below wr.heap.size wr w') : TN W w' t vp vm vo U wp wm wo P X :=
 ⟨h.bel.trans (hb.mono h.bel.size), h.a.below hb h.a.lt, h.b.below hb h.b.lt, h.c.below hb h.c.lt, Row.below h.rp hb, Row.below h.ro hb, Row.below h.rm hb, fun x hx => ⟨Row.below (h.own x hx).1 hb, Row.below (h.own x hx).2 hb⟩⟩
theorem blk_grown {w w' : World} {base b : Nat} {cs : List Value} {ty e : TypeId} {sz n : Nat} {v : Value} {xs : List Value} (h : Blk w b cs ty) (hr : w.ownsRow base e sz v n xs) (hb : b < base) (hg : w.grownBy w' v.ownBlock) : Blk w' b cs ty :=
 h.kept hg (fun e' => by have := (hr.lt b e'.symm).1; omega)
theorem TN.part {W wr w1 w2 : World} {t U : TyD} {vp vm vo wp wm wo v' : Value} {P : List PartD} {X : List MV} (h : TN W wr t vp vm vo U wp wm wo P X) (hb : Below wr.heap.size wr w1) (nm : ByteArray) (x : Int)
    (hown : w2.ownsRow (W.heap.size + 3) 93 2 v' (P.length + 1) (partCells P ++ [.string nm, .int .i64 x])) (hg : w1.grownBy w2 wp.ownBlock) :
    TN W (w2.setCell ⟨W.heap.size + 2, 7, none⟩ v') t vp vm vo U v' wm wo (P ++ [⟨nm, x⟩]) X := by
  have h1 := h.below hb
  have hrp := h1.rp
  refine ⟨?_, ?_, ?_, ?_, ?_, ?_, ?_, fun y hy => ⟨?_, ?_⟩⟩
  ·exact (h1.bel.grown hg h1.bel.size (fun j e => by have := (hrp.lt j e).1; omega)).setCell (p := ⟨W.heap.size + 2, 7, none⟩) (by show W.heap.size ≤ W.heap.size + 2; omega) v'
  ·exact (blk_grown h1.a hrp (by omega) hg).other 7 v' (by omega)
  ·exact (blk_grown h1.b hrp (by omega) hg).other 7 v' (by omega)
  ·exact (blk_grown h1.c hrp (by omega) hg).set 7 v'
  ·have hc : partCells (P ++ [⟨nm, x⟩]) = partCells P ++ [.string nm, .int .i64 x] := by unfold partCells; simp
   rw [hc, List.length_append]
   exact row_setB hown (by omega) 7 v'
  ·exact row_setB (rows_keep hrp hg h1.ro (by decide)) (by omega) 7 v'
  ·exact row_setB (rows_keep hrp hg h1.rm (by decide)) (by omega) 7 v'
  ·exact row_setB (rows_keep hrp hg (h1.own y hy).1 (by decide)) (by omega) 7 v'
  ·exact row_setB (rows_keep hrp hg (h1.own y hy).2 (by decide)) (by omega) 7 v'
theorem TN.meth {W wr w1 w2 : World} {t U : TyD} {vp vm vo wp wm wo v' : Value} {P : List PartD} {X : List MV} (h : TN W wr t vp vm vo U wp wm wo P X) (hb : Below wr.heap.size wr w1) (x : MV)
    (ra : w1.ownsRow (W.heap.size + 3) 3 1 x.2.1 x.1.args.length (x.1.args.map (.int .i64))) (rr : w1.ownsRow (W.heap.size + 3) 9 1 x.2.2 x.1.raises.length (x.1.raises.map .string))
    (hown : w2.ownsRow (W.heap.size + 3) 74 5 v' (X.length + 1) (mvCells X ++ mvC x)) (hg : w1.grownBy w2 wm.ownBlock) :
    TN W (w2.setCell ⟨W.heap.size + 2, 8, none⟩ v') t vp vm vo U wp v' wo P (X ++ [x]) := by
  have h1 := h.below hb
  have hrm := h1.rm
  refine ⟨?_, ?_, ?_, ?_, ?_, ?_, ?_, fun y hy => ?_⟩
  ·exact (h1.bel.grown hg h1.bel.size (fun j e => by have := (hrm.lt j e).1; omega)).setCell (p := ⟨W.heap.size + 2, 8, none⟩) (by show W.heap.size ≤ W.heap.size + 2; omega) v'
  ·exact (blk_grown h1.a hrm (by omega) hg).other 8 v' (by omega)
  ·exact (blk_grown h1.b hrm (by omega) hg).other 8 v' (by omega)
  ·exact (blk_grown h1.c hrm (by omega) hg).set 8 v'
  ·exact row_setB (rows_keep hrm hg h1.rp (by decide)) (by omega) 8 v'
  ·exact row_setB (rows_keep hrm hg h1.ro (by decide)) (by omega) 8 v'
  ·have hc : mvCells (X ++ [x]) = mvCells X ++ mvC x := by unfold mvCells; simp
   rw [hc, List.length_append]
   exact row_setB hown (by omega) 8 v'
  ·rw [List.mem_append, List.mem_singleton] at hy
   rcases hy with hy | rfl
   ·exact ⟨row_setB (rows_keep hrm hg (h1.own y hy).1 (by decide)) (by omega) 8 v', row_setB (rows_keep hrm hg (h1.own y hy).2 (by decide)) (by omega) 8 v'⟩
   ·exact ⟨row_setB (rows_keep hrm hg ra (by decide)) (by omega) 8 v', row_setB (rows_keep hrm hg rr (by decide)) (by omega) 8 v'⟩
section
variable {w W' : World} {S S' : Nat} {v : Value}
theorem far_parts {l : List PartD} (h : w.ownsRow S' 93 2 v l.length (partCells l)) (hS : S ≤ S') (hW : ∀ b i u, S ≤ b → b < w.heap.size → w.cell? ⟨b, i, none⟩ = some u → W'.cell? ⟨b, i, none⟩ = some u) : SliceOf 2 (PartAt W') v l := by
 obtain ⟨o, c, rfl⟩ := row_form h
 obtain ⟨c1, c2⟩ := row_caps h
 refine ⟨o, c, rfl, c1, c2, fun i x hx => ?_⟩
 obtain ⟨hi, rfl⟩ := List.getElem?_eq_some_iff.1 hx
 obtain ⟨g, rfl⟩ := row_some h (by omega)
 obtain ⟨h2, cs, h3⟩ := row_block h
 have hlt := (Array.getElem?_eq_some_iff.1 h3).1
 obtain ⟨e0, e1⟩ := cell_parts h rfl hi
 exact ⟨g, 0, rfl, by rw [Nat.zero_add]; exact hW _ _ _ (by omega) hlt e0, by rw [Nat.zero_add]; exact hW _ _ _ (by omega) hlt e1⟩
theorem far_overs {l : List OverD} (h : w.ownsRow S' 116 2 v l.length (overCells l)) (hS : S ≤ S') (hW : ∀ b i u, S ≤ b → b < w.heap.size → w.cell? ⟨b, i, none⟩ = some u → W'.cell? ⟨b, i, none⟩ = some u) : SliceOf 2 (OverAt W') v l := by
 obtain ⟨o, c, rfl⟩ := row_form h
 obtain ⟨c1, c2⟩ := row_caps h
 refine ⟨o, c, rfl, c1, c2, fun i x hx => ?_⟩
 obtain ⟨hi, rfl⟩ := List.getElem?_eq_some_iff.1 hx
 obtain ⟨g, rfl⟩ := row_some h (by omega)
 obtain ⟨h2, cs, h3⟩ := row_block h
 have hlt := (Array.getElem?_eq_some_iff.1 h3).1
 obtain ⟨e0, e1⟩ := cell_overs h rfl hi
 exact ⟨g, 0, rfl, by rw [Nat.zero_add]; exact hW _ _ _ (by omega) hlt e0, by rw [Nat.zero_add]; exact hW _ _ _ (by omega) hlt e1⟩
theorem far_ones {α : Type} {e : TypeId} {f : α → Value} {At : Nat → Nat → α → Prop} (hAt : ∀ b k x, W'.cell? ⟨b, k, none⟩ = some (f x) → At b k x) {l : List α} (h : w.ownsRow S' e 1 v l.length (l.map f)) (hS : S ≤ S') (hW : ∀ b i u, S ≤ b → b < w.heap.size → w.cell? ⟨b, i, none⟩ = some u → W'.cell? ⟨b, i, none⟩ = some u) : SliceOf 1 At v l := by
 obtain ⟨o, c, rfl⟩ := row_form h
 obtain ⟨c1, c2⟩ := row_caps h
 refine ⟨o, c, rfl, c1, c2, fun i x hx => ?_⟩
 obtain ⟨hi, rfl⟩ := List.getElem?_eq_some_iff.1 hx
 obtain ⟨g, rfl⟩ := row_some h (by omega)
 obtain ⟨h2, cs, h3⟩ := row_block h
 have hlt := (Array.getElem?_eq_some_iff.1 h3).1
 have e0 := World.ownsRow.cellAt h i (by omega)
 rw [List.getElem?_map, List.getElem?_eq_getElem hi] at e0
 exact ⟨g, 0, rfl, hAt _ _ _ (by rw [Nat.zero_add, Nat.mul_one]; exact hW _ _ _ (by omega) hlt e0)⟩
theorem far_meths {X : List MV} (h : w.ownsRow S' 74 5 v X.length (mvCells X)) (hx : ∀ x ∈ X, w.ownsRow S' 3 1 x.2.1 x.1.args.length (x.1.args.map (.int .i64)) ∧ w.ownsRow S' 9 1 x.2.2 x.1.raises.length (x.1.raises.map .string)) (hS : S ≤ S')
    (hW : ∀ b i u, S ≤ b → b < w.heap.size → w.cell? ⟨b, i, none⟩ = some u → W'.cell? ⟨b, i, none⟩ = some u) : SliceOf 5 (MethAt W') v (X.map (·.1)) := by
  obtain ⟨o, c, rfl⟩ := row_form h
  obtain ⟨c1, c2⟩ := row_caps h
  refine ⟨o, c, by simp, by simpa using c1, c2, fun i x hx' => ?_⟩
  obtain ⟨hi, rfl⟩ := List.getElem?_eq_some_iff.1 hx'
  have hi' : i < X.length := by simpa using hi
  obtain ⟨g, rfl⟩ := row_some h (by omega)
  obtain ⟨h2, cs, h3⟩ := row_block h
  have hlt := (Array.getElem?_eq_some_iff.1 h3).1
  have hc := fun k (hk : k < 5) => cell_mv h rfl hi' hk
  obtain ⟨ra, rr⟩ := hx _ (List.getElem_mem hi')
  rw [List.getElem_map]
  refine ⟨g, 0, rfl, X[i].2.1, X[i].2.2, ⟨far_ones (fun _ _ _ h => h) ra hS hW, far_ones (fun _ _ _ h => h) rr hS hW⟩, ?_, ?_, ?_, ?_, ?_⟩
  ·rw [Nat.zero_add]; exact hW _ _ _ (by omega) hlt (hc 0 (by omega))
  ·rw [Nat.zero_add]; exact hW _ _ _ (by omega) hlt (hc 1 (by omega))
  ·rw [Nat.zero_add]; exact hW _ _ _ (by omega) hlt (hc 2 (by omega))
  ·rw [Nat.zero_add]; exact hW _ _ _ (by omega) hlt (hc 3 (by omega))
  ·rw [Nat.zero_add]; exact hW _ _ _ (by omega) hlt (hc 4 (by omega))
end
theorem TN.far {W wr : World} {t U : TyD} {vp vm vo wp wm wo : Value} {P : List PartD} {X : List MV} (h : TN W wr t vp vm vo U wp wm wo P X) {T : TyD} (h1 : T.parts = P) (h2 : T.meths = X.map (·.1)) (h3 : T.overs = t.overs) : Far (W.heap.size + 3) wr.heap.size wr wp wm wo T := fun W' hW =>
 ⟨by rw [h1]; exact far_parts h.rp (Nat.le_refl _) hW, by rw [h2]; exact far_meths h.rm h.own (Nat.le_refl _) hW, by rw [h3]; exact far_overs h.ro (Nat.le_refl _) hW⟩
theorem Far.low {S S' E : Nat} {w : World} {u1 u2 u3 : Value} {t : TyD} (h : Far S E w u1 u2 u3 t) (hS : S' ≤ S) : Far S' E w u1 u2 u3 t := fun W' hW => h W' fun b i v h1 h2 hv => hW b i v (by omega) h2 hv
theorem tt_at {W : World} {o : Option Addr} {c n : Nat} {tt : List Int} (h : SliceOf 1 (IntAt W) (.slice o n c) tt) {x : Int} (h0 : 0 ≤ x) (h1 : x < tt.length) :
    ∃ (i b off : Nat), x = i ∧ (i : Int) < tt.length ∧ o = some ⟨b, off, none⟩ ∧ b < W.heap.size ∧ W.cell? ⟨b, off + i, none⟩ = some (.int .i64 (toF tt x)) := by
  obtain ⟨i, rfl⟩ := Int.eq_ofNat_of_zero_le h0
  have hi : i < tt.length := by omega
  obtain ⟨o', c', e, -, -, hat⟩ := h
  cases e
  obtain ⟨b', off, rfl, hc⟩ := hat i tt[i] (List.getElem?_eq_getElem hi)
  have hv : toF tt (i : Int) = tt[i] := by unfold toF; simp [List.getD_eq_getElem?_getD, hi]
  unfold IntAt at hc
  rw [Nat.mul_one] at hc
  exact ⟨i, b', off, rfl, h1, rfl, cell_lt hc, by rw [hv]; exact hc⟩
theorem tyPut_size {w : World} {b : Nat} (U : TyD) (v7 v8 v9 : Value) : (tyPut w b U v7 v8 v9).heap.size = w.heap.size := by unfold tyPut; simp
theorem parts_next {t : TyD} {f : Int → Int} {k : Nat} (h : k < t.parts.length) : (t.parts.take (k + 1)).map (fun p => ({ p with type := f p.type } : PartD)) = (t.parts.take k).map (fun p => ({ p with type := f p.type } : PartD)) ++ [⟨t.parts[k].name, f t.parts[k].type⟩] := by
 rw [List.take_succ_eq_append_getElem h, List.map_append]; rfl
theorem meths_next {t : TyD} {f : Int → Int} {k : Nat} (h : k < t.meths.length) : (t.meths.take (k + 1)).map (mapM f) = (t.meths.take k).map (mapM f) ++ [mapM f t.meths[k]] := by
 rw [List.take_succ_eq_append_getElem h, List.map_append]; rfl
theorem ints_next {l : List Int} {f : Int → Int} {k : Nat} (h : k < l.length) : (l.take (k + 1)).map f = (l.take k).map f ++ [f l[k]] := by
 rw [List.take_succ_eq_append_getElem h, List.map_append]; rfl
theorem ones_news {α : Type} {W : World} {f : α → Value} {At : Nat → Nat → α → Prop} (hAt : ∀ b k x, At b k x → W.cell? ⟨b, k, none⟩ = some (f x)) {o : Option Addr} {n c : Nat} {l : List α} (h : SliceOf 1 At (.slice o n c) l) :
    (o = none → n = 0) ∧ ∀ ad, o = some ad → ∀ j u, (l.map f)[j]? = some u → W.cell? (ad.add j) = some u := by
  obtain ⟨o', c', e, -, -, hat⟩ := h
  cases e
  refine ⟨fun ho => ?_, fun ad ho j u hu => ?_⟩
  ·cases hl : l with
   | nil => rfl
   | cons x xs => obtain ⟨b, off, e, _⟩ := hat 0 x (by rw [hl]; rfl); rw [ho] at e; cases e
  ·rw [List.getElem?_map] at hu
   cases hx : l[j]? with
   | none => rw [hx] at hu; cases hu
   | some x =>
     rw [hx] at hu; cases hu
     obtain ⟨b, off, e, hc⟩ := hat j x hx
     rw [ho] at e; cases e
     have := hAt _ _ _ hc
     rw [Nat.mul_one] at this
     rw [add_addr]; exact this
theorem overs_news {W : World} {o : Option Addr} {n c : Nat} {l : List OverD} (h : SliceOf 2 (OverAt W) (.slice o n c) l) :
    (o = none → n = 0) ∧ (∀ ad, o = some ad → ∀ j u, (overCells l)[j]? = some u → W.cell? (ad.add j) = some u) := by
  obtain ⟨o', c', e, -, -, hat⟩ := h
  cases e
  refine ⟨fun ho => ?_, fun ad ho j u hj => ?_⟩
  ·cases hl : l with
   | nil => rfl
   | cons x xs => obtain ⟨b, off, e, _⟩ := hat 0 x (by rw [hl]; rfl); rw [ho] at e; cases e
  ·have hlen := (List.getElem?_eq_some_iff.1 hj).1
   unfold overCells at hlen hj
   rw [cells_len (sz := 2) (fun _ => rfl)] at hlen
   have hi : j / 2 < l.length := by omega
   obtain ⟨b, off, e, hp⟩ := hat (j / 2) l[j / 2] (List.getElem?_eq_getElem hi)
   rw [ho] at e; cases e
   rw [add_addr]
   have e0 : j = j / 2 * 2 + j % 2 := by omega
   rw [e0, flat_get (sz := 2) (fun _ => rfl) l (j / 2) (j % 2) hi (by omega)] at hj
   rcases (show j % 2 = 0 ∨ j % 2 = 1 by omega) with h2 | h2
   ·rw [h2] at hj; simp at hj; subst hj
    have := hp.1
    rwa [show off + j / 2 * 2 = off + j by omega] at this
   ·rw [h2] at hj; simp at hj; subst hj
    have := hp.2
    rwa [show off + j / 2 * 2 + 1 = off + j by omega] at this
theorem wp_appAt {o : Oper} {a : Act} {K : Act → World → Prop} {Q : Exit → Act → World → Prop} {W : World} (s x : Operand) (t : TypeId) (hop : o.op = .call { callee := .builtin .append, args := #[s, x], argTypes := #[t, t] })
    (base : Nat) (e : TypeId) (i : TypeInfo) (z : Value) (size bytes : Nat) (ht : Tryz.prog.underlying t = some (.slice e)) (hi : Tryz.prog.info? e = some i) (hz : i.zero = some z)
    (hsize : i.size = size) (hby : i.bytes = bytes) (hzs : z.cells.size = size) (hsz : 0 < size)
    (v : Value) (n : Nat) (xs : List Value) (hs : a.eval s = v) (hown : W.ownsRow base e size v n xs)
    (ad : Addr) (m c : Nat) (news : List Value) (hx : a.eval x = .slice (some ad) m c) (hl : news.length = m * size) (hnews : ∀ j u, news[j]? = some u → W.cell? (ad.add j) = some u) (h1 : ∀ u ∈ news, u.oneCell' = true)
    (h63 : n + m ≤ maxLen) (hbytes : (n + m) * bytes ≤ 140737488355328) (hbase : base ≤ W.heap.size)
    (hK : ∀ v' w', w'.ownsRow base e size v' (n + m) (xs ++ news) → W.grownBy w' v.ownBlock → K (a.put o.dst v') w') : o.wp Tryz.prog a W K Q := by
  obtain ⟨v', w', hrun, r1, r2, r3⟩ := run_append_own_at (P := Tryz.prog) W base t o.type e i z size bytes ht hi hz hsize hby hzs hsz v n xs hown ad m c news hl hnews h1 h63 hbytes hbase
  unfold Oper.wp execOp
  simp only [hop, resolve, invoke, builtin, Sem.run_bind, Sem.run_pure, Result.andThen_ok, List.map_toArray, List.map_cons, List.map_nil, hs, hx, hrun]
  exact hK v' w' r1 r2
theorem app_nil {w : World} {ops : Array Oper} {rest : List Oper} {o : Oper} {a : Act} {Q : Exit → Act → World → Prop} (hgd : o.guard = none) (s x : Operand) (t : TypeId)
    (ho : o.op = .call { callee := .builtin .append, args := #[s, x], argTypes := #[t, t] })
    (base : Nat) (e : TypeId) (i : TypeInfo) (size : Nat) (ht : Tryz.prog.underlying t = some (.slice e)) (hi : Tryz.prog.info? e = some i)
    (v : Value) (n c : Nat) (xs : List Value) (hs : a.eval s = v) (hown : w.ownsRow base e size v n xs) (hx : a.eval x = .slice none 0 c)
    (h : wpList Tryz.prog ops Q rest (a.put o.dst v) w) : wpList Tryz.prog ops Q (o :: rest) a w := by
  refine wpList_plain hgd fun K hK => ?_
  have hrun : (Builtin.append_ #[t, t] o.type #[v, .slice none 0 c]).run Tryz.prog w = .ok v w := by
   rcases hown.2 with ⟨rfl, rfl⟩ | ⟨g, cap, cur, rfl, _, _, hnc, _⟩
   ·simp [Builtin.append_, run_underlying ht, sizeOf, typeInfo, hi, Builtin.lenOf, Builtin.firstCells]
   ·simp [Builtin.append_, run_underlying ht, sizeOf, typeInfo, hi, Builtin.lenOf, Builtin.firstCells, hnc, storeCells]
  unfold Oper.wp
  simp [execOp, ho, resolve, invoke, builtin, hs, hx, hrun, Result.andThen]
  exact hK _ _ h
theorem app_all {ops : Array Oper} {rest : List Oper} {o : Oper} {a : Act} {Q : Exit → Act → World → Prop} {w : World} (hgd : o.guard = none) (s x : Operand) (t : TypeId)
    (ho : o.op = .call { callee := .builtin .append, args := #[s, x], argTypes := #[t, t] })
    (base : Nat) (e : TypeId) (i : TypeInfo) (z : Value) (size bytes : Nat) (ht : Tryz.prog.underlying t = some (.slice e)) (hi : Tryz.prog.info? e = some i) (hz : i.zero = some z)
    (hsize : i.size = size) (hby : i.bytes = bytes) (hzs : z.cells.size = size) (hsz : 0 < size)
    (v : Value) (hs : a.eval s = v) (hown : w.ownsRow base e size v 0 [])
    (od : Option Addr) (m c : Nat) (news : List Value) (hx : a.eval x = .slice od m c) (hl : news.length = m * size) (h0 : od = none → m = 0) (hnews : ∀ ad, od = some ad → ∀ j u, news[j]? = some u → w.cell? (ad.add j) = some u) (h1 : ∀ u ∈ news, u.oneCell' = true)
    (h63 : m ≤ 100000) (hbytes : bytes ≤ 1000) (hbase : base ≤ w.heap.size)
    (h : ∀ v' w', w'.ownsRow base e size v' m news → w.grownBy w' v.ownBlock → wpList Tryz.prog ops Q rest (a.put o.dst v') w') : wpList Tryz.prog ops Q (o :: rest) a w := by
  cases od with
  | none =>
    obtain rfl := h0 rfl
    have hn : news = [] := List.eq_nil_of_length_eq_zero (by omega)
    subst hn
    exact app_nil hgd s x t ho base e i size ht hi v 0 c [] hs hown hx (h v w hown (World.grownBy.refl _ _))
  | some ad =>
    refine wpList_append_own_at w hgd s x t ho base e i z size bytes ht hi hz hsize hby hzs hsz v 0 [] hs hown ad m c news hx hl (hnews ad rfl) h1 (by unfold maxLen; omega) ?_ hbase ?_
    ·refine Nat.le_trans (Nat.mul_le_mul (show 0 + m ≤ 100000 by omega) hbytes) (by decide)
    ·intro v' w' r1 r2 _ _
     rw [Nat.zero_add, List.nil_append] at r1
     exact h v' w' r1 r2
end Go.Proofs.YteaokkaidcbdlaaGreatDoor

namespace Go.Proofs.YteaokkaidcbdlaaGreatDoor
open Go Go.RowKit Go.Shelf
set_option maxRecDepth 100000 in
set_option maxHeartbeats 16000000 in
theorem refTurned_any (t : TyD) (vp vm vo vt : Value) (tt : List Int) (W : World) (ht : TyL W vp vm vo t) (htt : SliceOf 1 (IntAt W) vt tt) (hpl : t.parts.length ≤ 1000) (hml : t.meths.length ≤ 1000) (hol : t.overs.length ≤ 1000) (hma : ∀ m ∈ t.meths, m.args.length ≤ 1000 ∧ m.raises.length ≤ 1000 ∧ (m.result = -1 ∨ 0 ≤ m.result))
    (hrf : ∀ x ∈ refsOf t, 0 ≤ x ∧ x < (tt.length : Int)) :
    Calls Tryz.prog 52 #[tyVal t vp vm vo, vt] W fun e w' => ∃ u1 u2 u3, e = .returned (tyVal (mapTy (toF tt) t) u1 u2 u3) ∧ Far W.heap.size w'.heap.size w' u1 u2 u3 (mapTy (toF tt) t) ∧ Below W.heap.size W w' := by
  obtain ⟨op, cp, rfl⟩ := ht.parts.form
  obtain ⟨om, cm, rfl⟩ := ht.meths.form
  obtain ⟨oo, co, rfl⟩ := ht.overs.form
  obtain ⟨ot, ct, rfl⟩ := htt.form
  have HPS := hide ht.parts
  have HMS := hide ht.meths
  obtain ⟨ho0, hon⟩ := overs_news ht.overs
  have HON := hide (fun (w : World) (h : Below W.heap.size W w) => show ∀ ad, oo = some ad → ∀ j u, (overCells t.overs)[j]? = some u → w.cell? (ad.add j) = some u from fun ad e j u hu => Holds.below h _ _ (hon ad e j u hu))
  have HOL := hide (show (overCells t.overs).length = t.overs.length * 2 from cells_len (sz := 2) (fun _ => rfl) t.overs)
  have HO1 := hide (show ∀ u ∈ overCells t.overs, u.oneCell' = true from fun u hu => by
   unfold overCells at hu
   obtain ⟨p, _, hp⟩ := List.mem_flatMap.1 hu
   simp at hp
   rcases hp with rfl | rfl <;> rfl)
  have HTT := hide (fun (x : Int) (h0 : 0 ≤ x) (h1 : x < tt.length) => tt_at htt h0 h1)
  have HRS := hide (show supB t.kind = true → 0 ≤ t.super ∧ t.super < tt.length from fun h => hrf _ (by unfold refsOf; rw [if_pos h]; simp))
  have HRP := hide (show ∀ k (h : k < t.parts.length), 0 ≤ t.parts[k].type ∧ t.parts[k].type < tt.length from fun k h => hrf _ (by
   unfold refsOf; rw [List.mem_append, List.mem_append]; exact .inr (.inl (List.mem_map_of_mem (List.getElem_mem h)))))
  have HRM := hide (show ∀ k (h : k < t.meths.length), ∀ x ∈ sigRefs t.meths[k], 0 ≤ x ∧ x < tt.length from fun k h x hx => hrf _ (by
   unfold refsOf; rw [List.mem_append, List.mem_append]; exact .inr (.inr (List.mem_flatMap.2 ⟨_, List.getElem_mem h, hx⟩))))
  have HMA := hide hma
  have hol' : t.overs.length ≤ 100000 := by omega
  obtain ⟨NT, hNT⟩ : ∃ NT, tt.length = NT := ⟨_, rfl⟩
  rw [hNT] at HTT HRS HRP HRM
  unfold tyVal
  rw [hNT]
  clear ht htt hon hma hrf hNT hol
  have hb2 : Below W.heap.size W ((W.alloc (.cells #[.int .u8 t.kind, .int .i64 t.low, .int .i64 t.high, .bool t.branded, .string t.brand, .string t.opq, .int .i64 t.super, .slice op t.parts.length cp, .slice om t.meths.length cm, .slice oo t.overs.length co] 62)).alloc (.cells zeroTyC.toArray 62)) := (((Below.refl _ _).alloc (Nat.le_refl _) _).alloc (by simp) _)
  have bA2 : Blk ((W.alloc (.cells #[.int .u8 t.kind, .int .i64 t.low, .int .i64 t.high, .bool t.branded, .string t.brand, .string t.opq, .int .i64 t.super, .slice op t.parts.length cp, .slice om t.meths.length cm, .slice oo t.overs.length co] 62)).alloc (.cells zeroTyC.toArray 62)) W.heap.size (tyC t (.slice op t.parts.length cp) (.slice om t.meths.length cm) (.slice oo t.overs.length co)) 62 := (Blk.new W (tyC t (.slice op t.parts.length cp) (.slice om t.meths.length cm) (.slice oo t.overs.length co)) 62).alloc _
  have bB2 : Blk ((W.alloc (.cells #[.int .u8 t.kind, .int .i64 t.low, .int .i64 t.high, .bool t.branded, .string t.brand, .string t.opq, .int .i64 t.super, .slice op t.parts.length cp, .slice om t.meths.length cm, .slice oo t.overs.length co] 62)).alloc (.cells zeroTyC.toArray 62)) (W.heap.size + 1) zeroTyC 62 := by
   have := Blk.new (W.alloc (.cells #[.int .u8 t.kind, .int .i64 t.low, .int .i64 t.high, .bool t.branded, .string t.brand, .string t.opq, .int .i64 t.super, .slice op t.parts.length cp, .slice om t.meths.length cm, .slice oo t.overs.length co] 62)) zeroTyC 62
   rwa [World.size_alloc] at this
  have hs2 : ((W.alloc (.cells #[.int .u8 t.kind, .int .i64 t.low, .int .i64 t.high, .bool t.branded, .string t.brand, .string t.opq, .int .i64 t.super, .slice op t.parts.length cp, .slice om t.meths.length cm, .slice oo t.overs.length co] 62)).alloc (.cells zeroTyC.toArray 62)).heap.size = W.heap.size + 2 := by simp
  change Below W.heap.size W ((W.alloc (.cells #[.int .u8 t.kind, .int .i64 t.low, .int .i64 t.high, .bool t.branded, .string t.brand, .string t.opq, .int .i64 t.super, .slice op t.parts.length cp, .slice om t.meths.length cm, .slice oo t.overs.length co] 62)).alloc (.cells #[.int .u8 0, .int .i64 0, .int .i64 0, .bool false, .string ⟨#[]⟩, .string ⟨#[]⟩, .int .i64 0, .slice none 0 0, .slice none 0 0, .slice none 0 0] 62)) at hb2
  change Blk ((W.alloc (.cells #[.int .u8 t.kind, .int .i64 t.low, .int .i64 t.high, .bool t.branded, .string t.brand, .string t.opq, .int .i64 t.super, .slice op t.parts.length cp, .slice om t.meths.length cm, .slice oo t.overs.length co] 62)).alloc (.cells #[.int .u8 0, .int .i64 0, .int .i64 0, .bool false, .string ⟨#[]⟩, .string ⟨#[]⟩, .int .i64 0, .slice none 0 0, .slice none 0 0, .slice none 0 0] 62)) _ _ _ at bA2
  change Blk ((W.alloc (.cells #[.int .u8 t.kind, .int .i64 t.low, .int .i64 t.high, .bool t.branded, .string t.brand, .string t.opq, .int .i64 t.super, .slice op t.parts.length cp, .slice om t.meths.length cm, .slice oo t.overs.length co] 62)).alloc (.cells #[.int .u8 0, .int .i64 0, .int .i64 0, .bool false, .string ⟨#[]⟩, .string ⟨#[]⟩, .int .i64 0, .slice none 0 0, .slice none 0 0, .slice none 0 0] 62)) _ _ _ at bB2
  change ((W.alloc (.cells #[.int .u8 t.kind, .int .i64 t.low, .int .i64 t.high, .bool t.branded, .string t.brand, .string t.opq, .int .i64 t.super, .slice op t.parts.length cp, .slice om t.meths.length cm, .slice oo t.overs.length co] 62)).alloc (.cells #[.int .u8 0, .int .i64 0, .int .i64 0, .bool false, .string ⟨#[]⟩, .string ⟨#[]⟩, .int .i64 0, .slice none 0 0, .slice none 0 0, .slice none 0 0] 62)).heap.size = _ at hs2
  go_enter Tryz.func52, Tryz.ntmps52
  go_upto_region 1 with fail
  generalize (W.alloc (.cells #[.int .u8 t.kind, .int .i64 t.low, .int .i64 t.high, .bool t.branded, .string t.brand, .string t.opq, .int .i64 t.super, .slice op t.parts.length cp, .slice om t.meths.length cm, .slice oo t.overs.length co] 62)).alloc (.cells #[.int .u8 0, .int .i64 0, .int .i64 0, .bool false, .string ⟨#[]⟩, .string ⟨#[]⟩, .int .i64 0, .slice none 0 0, .slice none 0 0, .slice none 0 0] 62) = W2 at hb2 bA2 bB2 hs2 ⊢
  have a0 := bA2.cell 0
  have a1 := bA2.cell 1
  have a2 := bA2.cell 2
  have a3 := bA2.cell 3
  have a4 := bA2.cell 4
  have a5 := bA2.cell 5
  have a6 := bA2.cell 6
  have a7 := bA2.cell 7
  have a8 := bA2.cell 8
  have a9 := bA2.cell 9
  simp only [tyC, List.getElem?_cons_zero, List.getElem?_cons_succ] at a0 a1 a2 a3 a4 a5 a6 a7 a8 a9
  have HA2 := hide bA2
  have HB2 := hide bB2
  have HBl2 := hide hb2
  clear bA2 bB2 hb2
  go_upto_region 2 with fail
  clear a0 a1 a2 a3 a4 a5 a6 a7 a8 a9
  have bC3 := Blk.new W2 (tyC t (.slice op t.parts.length cp) (.slice om t.meths.length cm) (.slice oo t.overs.length co)) 62
  rw [hs2] at bC3
  change Blk (W2.alloc (.cells #[.int .u8 t.kind, .int .i64 t.low, .int .i64 t.high, .bool t.branded, .string t.brand, .string t.opq, .int .i64 t.super, .slice op t.parts.length cp, .slice om t.meths.length cm, .slice oo t.overs.length co] 62)) _ _ _ at bC3
  have bA3 : Blk (W2.alloc (.cells #[.int .u8 t.kind, .int .i64 t.low, .int .i64 t.high, .bool t.branded, .string t.brand, .string t.opq, .int .i64 t.super, .slice op t.parts.length cp, .slice om t.meths.length cm, .slice oo t.overs.length co] 62)) W.heap.size _ 62 := (unhide HA2).alloc _
  have bB3 : Blk (W2.alloc (.cells #[.int .u8 t.kind, .int .i64 t.low, .int .i64 t.high, .bool t.branded, .string t.brand, .string t.opq, .int .i64 t.super, .slice op t.parts.length cp, .slice om t.meths.length cm, .slice oo t.overs.length co] 62)) (W.heap.size + 1) _ 62 := (unhide HB2).alloc _
  have hb3 : Below W.heap.size W (W2.alloc (.cells #[.int .u8 t.kind, .int .i64 t.low, .int .i64 t.high, .bool t.branded, .string t.brand, .string t.opq, .int .i64 t.super, .slice op t.parts.length cp, .slice om t.meths.length cm, .slice oo t.overs.length co] 62)) := (unhide HBl2).alloc (unhide HBl2).size _
  have hs3 : (W2.alloc (.cells #[.int .u8 t.kind, .int .i64 t.low, .int .i64 t.high, .bool t.branded, .string t.brand, .string t.opq, .int .i64 t.super, .slice op t.parts.length cp, .slice om t.meths.length cm, .slice oo t.overs.length co] 62)).heap.size = W.heap.size + 3 := by simp [hs2]
  generalize W2.alloc (.cells #[.int .u8 t.kind, .int .i64 t.low, .int .i64 t.high, .bool t.branded, .string t.brand, .string t.opq, .int .i64 t.super, .slice op t.parts.length cp, .slice om t.meths.length cm, .slice oo t.overs.length co] 62) = W3 at bC3 bA3 bB3 hb3 hs3 ⊢
  have c7 := bC3.cell 7
  have c8 := bC3.cell 8
  have z3 := bC3.frozen
  simp only [tyC, List.getElem?_cons_zero, List.getElem?_cons_succ] at c7 c8
  clear HA2 HB2 HBl2 hs2
  go_upto_region 4 with fail
  clear c7 c8 z3
  have bC4 : Blk ((W3.setCell ⟨W.heap.size + 2, 7, none⟩ (.slice none 0 0)).setCell ⟨W.heap.size + 2, 8, none⟩ (.slice none 0 0)) (W.heap.size + 2) (tyC t (.slice none 0 0) (.slice none 0 0) (.slice oo t.overs.length co)) 62 := (bC3.set 7 (.slice none 0 0)).set 8 (.slice none 0 0)
  have bA4 := (bA3.other 7 (.slice none 0 0) (show W.heap.size ≠ W.heap.size + 2 by omega)).other 8 (.slice none 0 0) (show W.heap.size ≠ W.heap.size + 2 by omega)
  have bB4 := (bB3.other 7 (.slice none 0 0) (show W.heap.size + 1 ≠ W.heap.size + 2 by omega)).other 8 (.slice none 0 0) (show W.heap.size + 1 ≠ W.heap.size + 2 by omega)
  have hb4 := (hb3.setCell (p := ⟨W.heap.size + 2, 7, none⟩) (show W.heap.size ≤ W.heap.size + 2 by omega) (.slice none 0 0)).setCell (p := ⟨W.heap.size + 2, 8, none⟩) (show W.heap.size ≤ W.heap.size + 2 by omega) (.slice none 0 0)
  have hs4 : ((W3.setCell ⟨W.heap.size + 2, 7, none⟩ (.slice none 0 0)).setCell ⟨W.heap.size + 2, 8, none⟩ (.slice none 0 0)).heap.size = W.heap.size + 3 := by simp [hs3]
  generalize (W3.setCell ⟨W.heap.size + 2, 7, none⟩ (.slice none 0 0)).setCell ⟨W.heap.size + 2, 8, none⟩ (.slice none 0 0) = W4 at bC4 bA4 bB4 hb4 hs4 ⊢
  clear bC3 bA3 bB3 hb3 hs3
  obtain ⟨i0, hi0, hz0, hz1, hz2⟩ := info_parts info116
  have bE := Blk.new W4 [] 116
  rw [hs4] at bE
  change Blk (W4.alloc (.cells #[] 116)) _ _ _ at bE
  have rE := row_empty (base := W.heap.size + 3) (sz := 2) bE (by omega)
  clear bE
  have bA5 := bA4.alloc (.cells #[] 116)
  have hb5 := hb4.alloc hb4.size (.cells #[] 116)
  have hs5 : (W4.alloc (.cells #[] 116)).heap.size = W.heap.size + 4 := by simp [hs4]
  have a9 := bA5.cell 9
  simp only [tyC, List.getElem?_cons_zero, List.getElem?_cons_succ] at a9
  go_upto_region 5 with ((at_builtin; refine app_all rfl _ _ 60 rfl (W.heap.size + 3) 116 i0 (.agg #[.string ⟨#[]⟩, .string ⟨#[]⟩]) 2 32 Tryz.underlying60 hi0 hz0 hz1 hz2 rfl (by decide) _ rfl rE oo t.overs.length co (overCells t.overs) rfl (unhide HOL) ho0 (unhide HON _ hb5) (unhide HO1) hol' (by decide) (by omega) ?_; intro v9 w6 r1 r2; have bC6 := blk_grown (bC4.alloc (.cells #[] 116)) rE (by omega) r2; have c9 := bC6.cell 9; have z9 := bC6.frozen 9; simp only [tyC, List.getElem?_cons_zero, List.getElem?_cons_succ] at c9; obtain ⟨o9, cap9, rfl⟩ := row_form r1))
  have hT : TN W (w6.setCell ⟨W.heap.size + 2, 9, none⟩ (.slice o9 t.overs.length cap9)) t (.slice op t.parts.length cp) (.slice om t.meths.length cm) (.slice oo t.overs.length co) t (.slice none 0 0) (.slice none 0 0) (.slice o9 t.overs.length cap9) [] [] := by
   refine ⟨(hb5.grown r2 (by omega) (fun j e => ?_)).setCell (p := ⟨W.heap.size + 2, 9, none⟩) (show W.heap.size ≤ W.heap.size + 2 by omega) _, (blk_grown bA5 rE (by omega) r2).other 9 _ (by omega), (blk_grown (bB4.alloc (.cells #[] 116)) rE (by omega) r2).other 9 _ (by omega), bC6.set 9 _, nil_row _ _ _ _, row_setB r1 (by omega) 9 _, nil_row _ _ _ _, fun x hx => by simp at hx⟩
   have := (rE.lt j e).1; omega
  generalize w6.setCell ⟨W.heap.size + 2, 9, none⟩ (.slice o9 t.overs.length cap9) = W7 at hT ⊢
  clear bC4 bA4 bB4 hb4 hs4 rE bA5 hb5 hs5 a9 r1 r2 bC6 c9 z9 hi0 hz0 hz1 hz2 HOL HON HO1 ho0 hol'
  have c0 := hT.a.cell 0
  simp only [tyC, List.getElem?_cons_zero] at c0
  have HT := hide hT
  clear hT
  go_cut [26] from 19 to 26 (fun c wx => c = .bool (supB t.kind) ∧ W7 = wx)
  case first =>
   rcases (show t.kind = 12 ∨ (t.kind ≠ 12 ∧ t.kind = 13) ∨ (t.kind ≠ 12 ∧ t.kind ≠ 13) by omega) with h1 | ⟨h1, h2⟩ | ⟨h1, h2⟩
   ·have e1 : ((t.kind : Int) == 12) = true := by simp; omega
    have HX := Lib.hid (show supB t.kind = true from decide_eq_true (by omega))
    clear h1
    go_wp2
    go_meet
    exact ⟨by rw [HX.out], rfl⟩
   ·have e1 : ((t.kind : Int) == 12) = false := by simp; omega
    have e2 : ((t.kind : Int) == 13) = true := by simp; omega
    have HX := Lib.hid (show supB t.kind = true from decide_eq_true (by omega))
    clear h1 h2
    go_wp2
    go_meet
    exact ⟨by rw [HX.out], rfl⟩
   ·have e1 : ((t.kind : Int) == 12) = false := by simp; omega
    have e2 : ((t.kind : Int) == 13) = false := by simp; omega
    have HX := Lib.hid (show supB t.kind = false from decide_eq_false (by omega))
    clear h1 h2
    go_wp2
    go_meet
    exact ⟨by rw [HX.out], rfl⟩
  case rest =>
  obtain ⟨rfl, rfl⟩ := hcut
  clear c0
  obtain ⟨U, hU⟩ : ∃ U : TyD, U = { t with super := if supB t.kind then toF tt t.super else t.super } := ⟨_, rfl⟩
  have HU := Lib.hid hU
  obtain ⟨sb, hsb⟩ : ∃ sb, supB t.kind = sb := ⟨_, rfl⟩
  have HSB := Lib.hid hsb
  rw [hsb]
  clear hsb
  go_upto_if 26 with fail
  go_cut [] from 27 to 32 (fun wx => TN W wx t (.slice op t.parts.length cp) (.slice om t.meths.length cm) (.slice oo t.overs.length co) U (.slice none 0 0) (.slice none 0 0) (.slice o9 t.overs.length cap9) [] [])
  case first =>
   have hT := unhide HT
   cases sb
   ·have : U = t := by rw [hU, HSB.out]; rfl
    go_wp2
    go_meet
    rw [this]
    exact hT
   ·obtain ⟨hs0, hs1⟩ := unhide HRS HSB.out
    obtain ⟨si, sb, soff, e1, e2, rfl, sl, sc⟩ := unhide HTT _ hs0 hs1
    have hTs := hT
    obtain ⟨hbel, hA, hB, hC, h5, h6, h7, h8⟩ := hTs
    have s1 := Holds.below hbel _ _ sc
    have c6 := hA.cell 6
    have d6 := hC.cell 6
    have z6 := hC.frozen 6
    simp only [tyC, List.getElem?_cons_zero, List.getElem?_cons_succ] at c6 d6
    rw [e1] at c6
    have hT2 : TN W (W7.setCell ⟨W.heap.size + 2, 6, none⟩ (.int .i64 (toF tt t.super))) t (.slice op t.parts.length cp) (.slice om t.meths.length cm) (.slice oo t.overs.length co) U (.slice none 0 0) (.slice none 0 0) (.slice o9 t.overs.length cap9) [] [] := by
     refine ⟨hbel.setCell (p := ⟨W.heap.size + 2, 6, none⟩) (show W.heap.size ≤ W.heap.size + 2 by omega) _, hA.other 6 _ (by omega), hB.other 6 _ (by omega), ?_, nil_row _ _ _ _, row_setB h6 (by omega) 6 _, nil_row _ _ _ _, fun x hx => by simp at hx⟩
     rw [hU, HSB.out]
     exact hC.set 6 _
    clear hT hbel hA hB hC h5 h6 h7 h8 hU sc hs0 hs1
    generalize toF tt t.super = sv at s1 hT2
    go_wp2
    go_meet
    exact hT2
  case rest =>
  have HT1 := hide hcut
  clear hcut HT hU HRS
  go_wp2
  go_loopg [6] t.parts.length (fun g i wr => ∃ (k : Nat) (wp : Value), k ≤ t.parts.length ∧ g = t.parts.length - k ∧ i = .int .i64 k ∧ TN W wr t (.slice op t.parts.length cp) (.slice om t.meths.length cm) (.slice oo t.overs.length co) U wp (.slice none 0 0) (.slice o9 t.overs.length cap9) ((t.parts.take k).map (fun p => ({ p with type := toF tt p.type } : PartD))) [])
  case atStart => exact ⟨0, _, Nat.zero_le _, rfl, rfl, unhide HT1⟩
  case round =>
   clear HT1
   obtain ⟨k, wp, hk, hgk, rfl, hT⟩ := hrel
   by_cases hlt : k < t.parts.length
   ·have hlt' : (k : Int) < t.parts.length := by omega
    obtain ⟨-, -, -, hat⟩ := (unhide HPS).at
    obtain ⟨pb, poff, rfl, e0, e1⟩ := hat k t.parts[k] (List.getElem?_eq_getElem hlt)
    obtain ⟨hx0, hx1⟩ := unhide HRP k hlt
    obtain ⟨xi, tb, toff, ex, ei, rfl, tl, tc⟩ := unhide HTT _ hx0 hx1
    have HN := Lib.hid (parts_next (f := toF tt) hlt)
    have hPl : ((t.parts.take k).map (fun p => ({ p with type := toF tt p.type } : PartD))).length = k := by simp; omega
    generalize (t.parts.take k).map (fun p => ({ p with type := toF tt p.type } : PartD)) = P at hT HN hPl
    have pl : pb < W.heap.size := cell_lt e0
    rw [ex] at e1
    generalize toF tt t.parts[k].type = xv at tc HN
    generalize t.parts[k].name = nm at e0 HN
    have hbel := hT.bel
    have c7 := hT.a.cell 7
    have d7 := hT.c.cell 7
    simp only [tyC, List.getElem?_cons_zero, List.getElem?_cons_succ] at c7 d7
    have hrow := hT.rp
    obtain ⟨ow, cw, rfl⟩ := row_form hrow
    have hbD : Below (W.heap.size + 2) wr wr.drew := ⟨rfl, rfl, rfl, Nat.le_refl _, fun _ _ => rfl⟩
    have hsz : W.heap.size + 3 ≤ wr.heap.size := by have := hT.c.lt; omega
    have hbE : Below (W.heap.size + 2) wr (wr.drew.alloc (.cells #[.string nm, .int .i64 xv] 93)) := hbD.alloc (by show W.heap.size + 2 ≤ wr.heap.size; omega) _
    have hbF : Below wr.heap.size wr (wr.drew.alloc (.cells #[.string nm, .int .i64 xv] 93)) := (show Below wr.heap.size wr wr.drew from ⟨rfl, rfl, rfl, Nat.le_refl _, fun _ _ => rfl⟩).alloc (Nat.le_refl _) _
    have hK0 : ∀ w', Below (W.heap.size + 2) wr w' → w'.cell? ⟨W.heap.size, 7, none⟩ = some (.slice (some ⟨pb, poff, none⟩) t.parts.length cp) ∧ w'.cell? ⟨pb, poff + k * 2, none⟩ = some (.string nm) ∧ w'.cell? ⟨pb, poff + k * 2 + 1, none⟩ = some (.int .i64 (xi : Int)) ∧ w'.cell? ⟨tb, toff + xi, none⟩ = some (.int .i64 xv) := fun w' h =>
     ⟨(h.cell (p := ⟨W.heap.size, 7, none⟩) (by show W.heap.size < W.heap.size + 2; omega)).trans c7, (h.cell (p := ⟨pb, poff + k * 2, none⟩) (by show pb < W.heap.size + 2; omega)).trans (Holds.below hbel _ _ e0), (h.cell (p := ⟨pb, poff + k * 2 + 1, none⟩) (by show pb < W.heap.size + 2; omega)).trans (Holds.below hbel _ _ e1), (h.cell (p := ⟨tb, toff + xi, none⟩) (by show tb < W.heap.size + 2; omega)).trans (Holds.below hbel _ _ tc)⟩
    have d7D : wr.drew.cell? ⟨W.heap.size + 2, 7, none⟩ = some (.slice ow P.length cw) := d7
    have d7E : (wr.drew.alloc (.cells #[.string nm, .int .i64 xv] 93)).cell? ⟨W.heap.size + 2, 7, none⟩ = some (.slice ow P.length cw) := by
     rw [hbF.cell (p := ⟨W.heap.size + 2, 7, none⟩) (by show W.heap.size + 2 < wr.heap.size; omega)]; exact d7
    have d7F : (wr.alloc (.cells #[.string nm, .int .i64 xv] 93)).drew.cell? ⟨W.heap.size + 2, 7, none⟩ = some (.slice ow P.length cw) := d7E
    have rowE := Row.below hrow hbF
    have bCE := hT.c.below hbF hT.c.lt
    have hsE : W.heap.size + 3 ≤ (wr.drew.alloc (.cells #[.string nm, .int .i64 xv] 93)).heap.size := by simp; omega
    obtain ⟨i0, hi0, hz0, hz1, hz2⟩ := info_parts info93
    have hnews := fun j u (hj : [Value.string nm, .int .i64 xv][j]? = some u) => (show (wr.drew.alloc (.cells #[.string nm, .int .i64 xv] 93)).cell? ((⟨wr.heap.size, 0, none⟩ : Addr).add j) = some u by rw [add_zero_addr]; exact (Blk.new wr.drew [.string nm, .int .i64 xv] 93).cell j |>.trans hj)
    have HF := hide (fun (v' : Value) (w2 : World) (r1 : w2.ownsRow (W.heap.size + 3) 93 2 v' (P.length + 1) (partCells P ++ [.string nm, .int .i64 xv])) (r2 : (wr.drew.alloc (.cells #[.string nm, .int .i64 xv] 93)).grownBy w2 (Value.slice ow P.length cw).ownBlock) => hT.part hbF nm xv r1 r2)
    have hP5 : P.length ≤ 1000 := by omega
    clear hat e0 e1 hx0 hx1 ex tc d7 hT hbel HPS HRP HTT hPl
    go_wp2
    clear c7
    refine wp_region_held_drew (S := (fun w' => w'.cell? ⟨W.heap.size, 7, none⟩ = some (.slice (some ⟨pb, poff, none⟩) t.parts.length cp) ∧ w'.cell? ⟨pb, poff + k * 2, none⟩ = some (.string nm) ∧ w'.cell? ⟨pb, poff + k * 2 + 1, none⟩ = some (.int .i64 (xi : Int)) ∧ w'.cell? ⟨tb, toff + xi, none⟩ = some (.int .i64 xv))) (by kernel_rfl) (hK0 _ hbD) (fun hHeld => ?_)
    (refine wpAnyH_take (i := 0) (v := ?_) rfl (by kernel_rfl) (by kernel_rfl) (by kernel_rfl) (fun _ _ _ h => h) (Or.inl ⟨by rfl, ?_⟩) (by assumption) ?_; rotate_left; (intro w hSw; (try dsimp only at hSw); go_simp); (try with_reducible rfl); (try simp only [Act.put, List.setIfInBounds_toArray]))
    (refine wpAnyH_take (i := 2) (v := ?_) rfl (by kernel_rfl) (by kernel_rfl) (by kernel_rfl) (fun _ _ _ h => h) (Or.inl ⟨by rfl, ?_⟩) (by assumption) ?_; rotate_left; (intro w hSw; (try dsimp only at hSw); go_simp); (try with_reducible rfl); (try simp only [Act.put]))
    (refine wpAnyH_take (i := 3) (v := ?_) rfl (by kernel_rfl) (by kernel_rfl) (by kernel_rfl) (fun _ _ _ h => h) (Or.inl ⟨by rfl, ?_⟩) (by assumption) ?_; rotate_left; (intro w hSw; (try dsimp only at hSw); go_simp); (try with_reducible rfl); (try simp only [Act.put]))
    (refine wpAnyH_take (i := 4) (v := ?_) rfl (by kernel_rfl) (by kernel_rfl) (by kernel_rfl) (fun _ _ _ h => h) (Or.inl ⟨by rfl, ?_⟩) (by assumption) ?_; rotate_left; (intro w hSw; (try dsimp only at hSw); go_simp); (try with_reducible rfl); (try simp only [Act.put]))
    (refine wpAnyH_take (i := 5) (v := ?_) rfl (by kernel_rfl) (by kernel_rfl) (by kernel_rfl) (fun _ _ _ h => h) (Or.inl ⟨by rfl, ?_⟩) (by assumption) ?_; rotate_left; (intro w hSw; (try dsimp only at hSw); go_simp); (try with_reducible rfl); (try simp only [Act.put]))
    (refine wpAnyH_take (i := 6) (v := ?_) rfl (by kernel_rfl) (by kernel_rfl) (by kernel_rfl) (fun _ _ _ h => h) (Or.inl ⟨by rfl, ?_⟩) (by assumption) ?_; rotate_left; (intro w hSw; (try dsimp only at hSw); go_simp); (try with_reducible rfl); (try simp only [Act.put]))
    (refine wpAnyH_take (i := 7) (v := ?_) rfl (by kernel_rfl) (by kernel_rfl) (by kernel_rfl) (fun _ _ _ h => h) (Or.inl ⟨by rfl, ?_⟩) (by assumption) ?_; rotate_left; (intro w hSw; (try dsimp only at hSw); go_simp); (try with_reducible rfl); (try simp only [Act.put]))
    (refine wpAnyH_take (i := 8) (v := ?_) rfl (by kernel_rfl) (by kernel_rfl) (by kernel_rfl) (fun _ _ _ h => h) (Or.inl ⟨by rfl, ?_⟩) (by assumption) ?_; rotate_left; (intro w hSw; (try dsimp only at hSw); go_simp); (try with_reducible rfl); (try simp only [Act.put]))
    (refine wpAnyH_take (i := 9) (v := ?_) rfl (by kernel_rfl) (by kernel_rfl) (by kernel_rfl) (fun _ _ _ h => h) (Or.inl ⟨by rfl, ?_⟩) (by assumption) ?_; rotate_left; (intro w hSw; (try dsimp only at hSw); go_simp); (try with_reducible rfl); (try simp only [Act.put]))
    (refine wpAnyH_take (i := 10) (v := ?_) rfl (by kernel_rfl) (by kernel_rfl) (by kernel_rfl) (fun _ _ _ h => h) (Or.inl ⟨by rfl, ?_⟩) (by assumption) ?_; rotate_left; (intro w hSw; (try dsimp only at hSw); go_simp); (try with_reducible rfl); (try simp only [Act.put]))
    (refine wpAnyH_take (i := 11) (v := ?_) rfl (by kernel_rfl) (by kernel_rfl) (by kernel_rfl) (fun _ _ _ h => h) (Or.inl ⟨by rfl, ?_⟩) (by assumption) ?_; rotate_left; (intro w hSw; (try dsimp only at hSw); go_simp); (try with_reducible rfl); (try simp only [Act.put]))
    (refine wpAnyH_take (i := 12) (v := ?_) rfl (by kernel_rfl) (by kernel_rfl) (by kernel_rfl) (fun _ _ _ h => h) (Or.inl ⟨by rfl, ?_⟩) (by assumption) ?_; rotate_left; (intro w hSw; (try dsimp only at hSw); go_simp); (try with_reducible rfl); (try simp only [Act.put]))
    (refine wpAnyH_take (i := 13) (v := ?_) rfl (by kernel_rfl) (by kernel_rfl) (by kernel_rfl) (fun _ _ _ h => h) (Or.inl ⟨by rfl, ?_⟩) (by assumption) ?_; rotate_left; (intro w hSw; (try dsimp only at hSw); go_simp); (try with_reducible rfl); (try simp only [Act.put]))
    (refine wpAnyH_take (i := 14) (v := ?_) rfl (by kernel_rfl) (by kernel_rfl) (by kernel_rfl) (fun _ _ _ h => h) (Or.inl ⟨by rfl, ?_⟩) (by assumption) ?_; rotate_left; (intro w hSw; (try dsimp only at hSw); go_simp); (try with_reducible rfl); (try simp only [Act.put]))
    (refine wpAnyH_take (i := 15) (v := ?_) rfl (by kernel_rfl) (by kernel_rfl) (by kernel_rfl) (fun _ _ _ h => h) (Or.inl ⟨by rfl, ?_⟩) (by assumption) ?_; rotate_left; (intro w hSw; (try dsimp only at hSw); go_simp); (try with_reducible rfl); (try simp only [Act.put]))
    (refine wpAnyH_take (i := 16) (v := ?_) rfl (by kernel_rfl) (by kernel_rfl) (by kernel_rfl) (fun _ _ _ h => h) (Or.inl ⟨by rfl, ?_⟩) (by assumption) ?_; rotate_left; (intro w hSw; (try dsimp only at hSw); go_simp); (try with_reducible rfl); (try simp only [Act.put]))
    (refine wpAnyH_take (i := 17) (v := ?_) rfl (by kernel_rfl) (by kernel_rfl) (by kernel_rfl) (fun _ _ _ h => h) (Or.inl ⟨by rfl, ?_⟩) (by assumption) ?_; rotate_left; (intro w hSw; (try dsimp only at hSw); go_simp); (try with_reducible rfl); (try simp only [Act.put]))
    refine wpAnyH_ready (rs := [1, 18]) (by kernel_rfl) (by simp) ?_
    refine AllReadyH.cons rfl (fun K hK => ?_) (AllReadyH.cons rfl (fun K hK => ?_) AllReadyH.nil)
    ·go_simp
     refine hK.out _ _ (hK0 _ hbD) (fun hHeld2 => ?_)
     clear hK K hHeld
     (try simp only [Act.put, List.setIfInBounds_toArray, List.set_cons_zero, List.set_cons_succ])
     refine wpAnyH_ready (rs := [18]) (by kernel_rfl) (by simp) ?_
     refine AllReadyH.cons rfl (fun K hK => ?_) AllReadyH.nil
     go_simp
     refine hK.out _ _ (hK0 _ hbE) (fun hHeld3 => ?_)
     clear hK K hHeld2
     (try simp only [Act.put, List.setIfInBounds_toArray, List.set_cons_zero, List.set_cons_succ])
     refine wpAnyH_ready (rs := [19]) (by kernel_rfl) (by simp) ?_
     refine AllReadyH.cons rfl (fun K hK => ?_) AllReadyH.nil
     rw [if_pos (by rfl)]
     refine wp_appAt (.tmp 41) (.tmp 58) 58 rfl (W.heap.size + 3) 93 i0 (.agg #[.string ⟨#[]⟩, .int .i64 0]) 2 24 Tryz.underlying58 hi0 hz0 hz1 hz2 rfl (by decide) (.slice ow P.length cw) P.length (partCells P) rfl rowE ⟨wr.heap.size, 0, none⟩ 1 1 [.string nm, .int .i64 xv] rfl rfl hnews (by simp [Value.oneCell']) (by unfold maxLen; omega) (by omega) hsE ?_
     intro v' w2 r1 r2
     have hb2 : Below (W.heap.size + 2) wr w2 := hbE.grown r2 (by omega) (fun j e => by have := (rowE.lt j e).1; omega)
     have bC2 := blk_grown bCE rowE (by omega) r2
     have d72 := bC2.cell 7
     have z72 := bC2.frozen 7
     simp only [tyC, List.getElem?_cons_zero, List.getElem?_cons_succ] at d72
     have hT2 := hide (unhide HF _ _ r1 r2)
     obtain ⟨o2, c2, rfl⟩ := row_form r1
     refine hK.out _ _ (hK0 _ hb2) (fun hHeld4 => ?_)
     clear hK K hHeld3
     (try simp only [Act.put, List.setIfInBounds_toArray])
     (refine wpAnyH_take (i := 20) (v := ?_) rfl (by kernel_rfl) (by kernel_rfl) (by kernel_rfl) (fun _ _ _ h => h) (Or.inl ⟨by rfl, ?_⟩) (by assumption) ?_; rotate_left; (intro w hSw; (try dsimp only at hSw); go_simp); (try with_reducible rfl); (try simp only [Act.put]))
     refine wpAnyH_ready (rs := [21]) (by kernel_rfl) (by simp) ?_
     refine AllReadyH.cons rfl (fun K hK => ?_) AllReadyH.nil
     go_simp
     refine hK.out _ _ (hK0 _ (hb2.setCell (p := ⟨W.heap.size + 2, 7, none⟩) (Nat.le_refl _) _)) (fun hHeld5 => ?_)
     clear hK K hHeld4
     (try simp only [Act.put, List.setIfInBounds_toArray, List.set_cons_zero, List.set_cons_succ])
     refine wpAnyH_done (by kernel_rfl) ?_ _
     go_wp2
     go_roundg (t.parts.length - (k + 1))
     case measure => omega
     case rel => exact ⟨k + 1, _, by omega, rfl, by go_num, by rw [HN.out]; exact unhide hT2⟩
    ·go_simp
     refine hK.out _ _ (hK0 _ hbE) (fun hHeld2 => ?_)
     clear hK K hHeld
     (try simp only [Act.put, List.setIfInBounds_toArray, List.set_cons_zero, List.set_cons_succ])
     refine wpAnyH_ready (rs := [1]) (by kernel_rfl) (by simp) ?_
     refine AllReadyH.cons rfl (fun K hK => ?_) AllReadyH.nil
     go_simp
     refine hK.out _ _ (hK0 _ hbE) (fun hHeld3 => ?_)
     clear hK K hHeld2
     (try simp only [Act.put, List.setIfInBounds_toArray, List.set_cons_zero, List.set_cons_succ])
     refine wpAnyH_ready (rs := [19]) (by kernel_rfl) (by simp) ?_
     refine AllReadyH.cons rfl (fun K hK => ?_) AllReadyH.nil
     rw [if_pos (by rfl)]
     refine wp_appAt (.tmp 41) (.tmp 58) 58 rfl (W.heap.size + 3) 93 i0 (.agg #[.string ⟨#[]⟩, .int .i64 0]) 2 24 Tryz.underlying58 hi0 hz0 hz1 hz2 rfl (by decide) (.slice ow P.length cw) P.length (partCells P) rfl rowE ⟨wr.heap.size, 0, none⟩ 1 1 [.string nm, .int .i64 xv] rfl rfl hnews (by simp [Value.oneCell']) (by unfold maxLen; omega) (by omega) hsE ?_
     intro v' w2 r1 r2
     have hb2 : Below (W.heap.size + 2) wr w2 := hbE.grown r2 (by omega) (fun j e => by have := (rowE.lt j e).1; omega)
     have bC2 := blk_grown bCE rowE (by omega) r2
     have d72 := bC2.cell 7
     have z72 := bC2.frozen 7
     simp only [tyC, List.getElem?_cons_zero, List.getElem?_cons_succ] at d72
     have hT2 := hide (unhide HF _ _ r1 r2)
     obtain ⟨o2, c2, rfl⟩ := row_form r1
     refine hK.out _ _ (hK0 _ hb2) (fun hHeld4 => ?_)
     clear hK K hHeld3
     (try simp only [Act.put, List.setIfInBounds_toArray])
     (refine wpAnyH_take (i := 20) (v := ?_) rfl (by kernel_rfl) (by kernel_rfl) (by kernel_rfl) (fun _ _ _ h => h) (Or.inl ⟨by rfl, ?_⟩) (by assumption) ?_; rotate_left; (intro w hSw; (try dsimp only at hSw); go_simp); (try with_reducible rfl); (try simp only [Act.put]))
     refine wpAnyH_ready (rs := [21]) (by kernel_rfl) (by simp) ?_
     refine AllReadyH.cons rfl (fun K hK => ?_) AllReadyH.nil
     go_simp
     refine hK.out _ _ (hK0 _ (hb2.setCell (p := ⟨W.heap.size + 2, 7, none⟩) (Nat.le_refl _) _)) (fun hHeld5 => ?_)
     clear hK K hHeld4
     (try simp only [Act.put, List.setIfInBounds_toArray, List.set_cons_zero, List.set_cons_succ])
     refine wpAnyH_done (by kernel_rfl) ?_ _
     go_wp2
     go_roundg (t.parts.length - (k + 1))
     case measure => omega
     case rel => exact ⟨k + 1, _, by omega, rfl, by go_num, by rw [HN.out]; exact unhide hT2⟩
   ·obtain rfl : k = t.parts.length := by omega
    rw [List.take_length] at hT
    have HT2 := hide hT
    have HP := Lib.hid (show t.parts.map (fun p => ({ p with type := toF tt p.type } : PartD)) = (mapTy (toF tt) t).parts from rfl)
    generalize t.parts.map (fun p => ({ p with type := toF tt p.type } : PartD)) = P at HT2 HP
    have hlt' : ¬ (t.parts.length : Int) < t.parts.length := by omega
    have c7 := hT.a.cell 7
    simp only [tyC, List.getElem?_cons_zero, List.getElem?_cons_succ] at c7
    clear hT hk hgk hlt HPS HRP
    go_wp2
    clear c7 hlt'
    go_loopg [7] t.meths.length (fun g i wr => ∃ (k : Nat) (wm : Value) (X : List MV), k ≤ t.meths.length ∧ g = t.meths.length - k ∧ i = .int .i64 k ∧ Hid (X.map (·.1) = (t.meths.take k).map (mapM (toF tt))) ∧ TN W wr t (.slice op t.parts.length cp) (.slice om t.meths.length cm) (.slice oo t.overs.length co) U wp wm (.slice o9 t.overs.length cap9) P X)
    case atStart => exact ⟨0, _, [], Nat.zero_le _, rfl, rfl, Lib.hid rfl, unhide HT2⟩
    case round =>
     clear HT2
     rename World => wq
     obtain ⟨k, wm, X, hk, hgk, rfl, HX, hT⟩ := hrel
     by_cases hlt : k < t.meths.length
     ·have hlt' : (k : Int) < t.meths.length := by omega
      obtain ⟨-, -, -, hat⟩ := (unhide HMS).at
      obtain ⟨mb, moff, rfl, va, vr, hv, m0, m1, m2, m3, m4⟩ := hat k t.meths[k] (List.getElem?_eq_getElem hlt)
      have HN := Lib.hid (meths_next (f := toF tt) hlt)
      obtain ⟨hma1, hma2, hma3⟩ := unhide HMA _ (List.getElem_mem hlt)
      have hmr := unhide HRM k hlt
      obtain ⟨oa, ca, rfl⟩ := hv.args.form
      obtain ⟨orr, cr, rfl⟩ := hv.raises.form
      obtain ⟨m, hm⟩ : ∃ m, t.meths[k] = m := ⟨_, rfl⟩
      rw [hm] at hv m0 m1 m2 m3 m4 HN hma1 hma2 hma3 hmr
      clear hm
      have hbel := hT.bel
      replace m0 := Holds.below hbel _ _ m0
      replace m1 := Holds.below hbel _ _ m1
      replace m2 := Holds.below hbel _ _ m2
      replace m3 := Holds.below hbel _ _ m3
      replace m4 := Holds.below hbel _ _ m4
      have c8 := hT.a.cell 8
      simp only [tyC, List.getElem?_cons_zero, List.getElem?_cons_succ] at c8
      obtain ⟨hr0, hrn⟩ := ones_news (f := Value.string) (fun _ _ _ h => h) hv.raises
      have HAR := hide hv.args
      have HRN := hide hrn
      have HT3 := hide hT
      have HBEL := hide hbel
      have hsw : W.heap.size + 3 ≤ wq.heap.size := by have := hT.c.lt; omega
      have HRX := Lib.hid (show (0 : Int) ≤ m.result → 0 ≤ m.result ∧ m.result < NT from fun h => hmr _ (by unfold sigRefs; rw [if_neg (by omega)]; simp))
      clear hat hv hrn hT hbel
      go_upto_region 15 with fail
      have bD := Blk.new wq (mvC (m, .slice oa m.args.length ca, .slice orr m.raises.length cr)) 74
      have hbD : Below wq.heap.size wq (wq.alloc (.cells #[.string m.name, .slice oa m.args.length ca, .int .i64 m.result, .slice orr m.raises.length cr, .string m.proc] 74)) := (Below.refl _ _).alloc (Nat.le_refl _) _
      change Blk (wq.alloc (.cells #[.string m.name, .slice oa m.args.length ca, .int .i64 m.result, .slice orr m.raises.length cr, .string m.proc] 74)) _ _ _ at bD
      have hs4 : wq.heap.size < (wq.alloc (.cells #[.string m.name, .slice oa m.args.length ca, .int .i64 m.result, .slice orr m.raises.length cr, .string m.proc] 74)).heap.size := by simp
      generalize wq.alloc (.cells #[.string m.name, .slice oa m.args.length ca, .int .i64 m.result, .slice orr m.raises.length cr, .string m.proc] 74) = W4 at bD hbD hs4 ⊢
      clear m0 m1 m2 m3 m4 c8
      go_wp2
      go_loopg [9, 10] m.args.length (fun g v j wr => ∃ q : Nat, q ≤ m.args.length ∧ g = m.args.length - q ∧ j = .int .i64 q ∧ wr.ownsRow W4.heap.size 3 1 v ((m.args.take q).map (toF tt)).length (((m.args.take q).map (toF tt)).map (.int .i64)) ∧ Below W4.heap.size W4 wr)
      case atStart => exact ⟨0, Nat.zero_le _, rfl, rfl, nil_row _ _ _ _, Below.refl _ _⟩
      case round =>
       obtain ⟨q, hq, hgq, rfl, hown, hbx⟩ := hrel
       have bDx := bD.below hbx (by omega)
       have d1 := bDx.cell 1
       simp only [mvC, List.getElem?_cons_zero, List.getElem?_cons_succ] at d1
       by_cases hql : q < m.args.length
       ·have hql' : (q : Int) < m.args.length := by omega
        obtain ⟨-, -, -, hata⟩ := (unhide HAR).at
        obtain ⟨ab, aoff, rfl, x1⟩ := hata q m.args[q] (List.getElem?_eq_getElem hql)
        obtain ⟨hx0, hx1⟩ := hmr _ (show m.args[q] ∈ sigRefs m from List.mem_append_left _ (List.getElem_mem hql))
        obtain ⟨xi, tb, toff, ex, ei, rfl, tl, tc⟩ := unhide HTT _ hx0 hx1
        have HA := Lib.hid (ints_next (f := toF tt) hql)
        have hPl : ((m.args.take q).map (toF tt)).length = q := by simp; omega
        generalize (m.args.take q).map (toF tt) = R at hown HA hPl
        unfold IntAt at x1
        rw [Nat.mul_one, ex] at x1
        generalize toF tt m.args[q] = xv at tc HA
        have hWx : Below W.heap.size W wr := ((unhide HBEL).trans (hbD.mono (unhide HBEL).size)).trans (hbx.mono (by have := (unhide HBEL).size; omega))
        replace x1 := Holds.below hWx _ _ x1
        replace tc := Holds.below hWx _ _ tc
        have bB := Blk.new wr [.int .i64 xv] 3
        have lB := hbx.alloc hbx.size (.cells #[.int .i64 xv] 3)
        have hown2 := hown.alloc (.cells #[.int .i64 xv] 3)
        change Blk (wr.alloc (.cells #[.int .i64 xv] 3)) _ _ _ at bB
        have b0 := bB.cell 0
        simp only [List.getElem?_cons_zero] at b0
        have hle : W4.heap.size ≤ (wr.alloc (.cells #[.int .i64 xv] 3)).heap.size := by simp; have := hbx.size; omega
        have hml2 : (R.map (Value.int .i64)).length = R.length := List.length_map ..
        have hP5 : R.length ≤ 1000 := by omega
        clear hata hx0 hx1 ex hown bB hWx bDx hPl
        go_wp2_with (at_builtin; refine app_one _ _ 37 3 (.int .i64 0) 8 info3 Tryz.underlying37 rfl (by decide) rfl rfl W4.heap.size _ (R.map (Value.int .i64)) rfl (by rw [hml2]; exact hown2) _ (.int .i64 xv) rfl b0 rfl (by rw [hml2]; omega) hle ?_)
        intro g cp1 w' r1 r2 r3
        have hb' := r3 _ _ lB (Nat.le_refl _)
        go_wp2
        go_roundg (m.args.length - (q + 1))
        case measure => omega
        case rel => exact ⟨q + 1, by omega, rfl, by go_num, by rw [HA.out, List.map_append, List.length_append]; exact r1, hb'⟩
       ·obtain rfl : q = m.args.length := by omega
        rw [List.take_length, List.length_map] at hown
        have hql' : ¬ (m.args.length : Int) < m.args.length := by omega
        obtain ⟨ow, cw, rfl⟩ := row_form hown
        have z1 := bDx.frozen 1
        have d3 := bDx.cell 3
        simp only [mvC, List.getElem?_cons_zero, List.getElem?_cons_succ] at d3
        have HOW := hide hown
        have HBX := hide hbx
        have HBD := hide hbD
        have HDX := hide bDx
        clear hown hbx hbD bD bDx hq hgq hql HAR hmr
        go_upto_region 21 with fail
        have bD5 : Blk (wr.setCell ⟨wq.heap.size, 1, none⟩ (.slice ow m.args.length cw)) wq.heap.size [.string m.name, .slice ow m.args.length cw, .int .i64 m.result, .slice orr m.raises.length cr, .string m.proc] 74 := (unhide HDX).set 1 _
        have rA5 := row_setB (unhide HOW) (show wq.heap.size < W4.heap.size by omega) 1 (.slice ow m.args.length cw)
        have hb5 := ((unhide HBD).trans ((unhide HBX).mono (by omega))).setCell (p := ⟨wq.heap.size, 1, none⟩) (Nat.le_refl _) (.slice ow m.args.length cw)
        have hs5 : W4.heap.size ≤ (wr.setCell ⟨wq.heap.size, 1, none⟩ (.slice ow m.args.length cw)).heap.size := by simp; exact (unhide HBX).size
        generalize wr.setCell ⟨wq.heap.size, 1, none⟩ (.slice ow m.args.length cw) = W5 at bD5 rA5 hb5 hs5 ⊢
        clear HDX HOW HBD HBX z1 d1 d3
        obtain ⟨i9, hi9, hy0, hy1, hy2⟩ := info_parts info9
        have rE := row_empty (w := W5.alloc (.cells #[] 9)) (base := W5.heap.size) (sz := 1) (Blk.new W5 [] 9) (Nat.le_refl _)
        have bD5a := bD5.alloc (.cells #[] 9)
        have hb5a := hb5.alloc hb5.size (.cells #[] 9)
        have rA5a := rA5.alloc (.cells #[] 9)
        have d3 := bD5a.cell 3
        simp only [List.getElem?_cons_zero, List.getElem?_cons_succ] at d3
        have hbig := (unhide HBEL).trans (hb5a.mono (by have := (unhide HBEL).size; omega))
        have hsE : W5.heap.size ≤ (W5.alloc (.cells #[] 9)).heap.size := by simp
        go_upto_region 22 with (at_builtin; refine app_all rfl _ _ 70 rfl W5.heap.size 9 i9 (.string ⟨#[]⟩) 1 16 Tryz.underlying70 hi9 hy0 hy1 hy2 rfl (by decide) _ rfl rE orr m.raises.length cr (m.raises.map .string) rfl (by simp) hr0 (fun ad e j u hu => Holds.below hbig _ _ (unhide HRN ad e j u hu)) (by simp [Value.oneCell']) (by omega) (by decide) hsE ?_; intro v3 w6 r1 r2; have bD6 := blk_grown bD5a rE (by omega) r2; have d36 := bD6.cell 3; have z36 := bD6.frozen 3; simp only [List.getElem?_cons_zero, List.getElem?_cons_succ] at d36; obtain ⟨o3, c3, rfl⟩ := row_form r1)
        have bD7 : Blk (w6.setCell ⟨wq.heap.size, 3, none⟩ (.slice o3 m.raises.length c3)) wq.heap.size [.string m.name, .slice ow m.args.length cw, .int .i64 m.result, .slice o3 m.raises.length c3, .string m.proc] 74 := bD6.set 3 _
        have rA7 := row_setB (rows_keep rE r2 rA5a (by decide)) (show wq.heap.size < W4.heap.size by omega) 3 (.slice o3 m.raises.length c3)
        have rR7 := row_setB r1 (show wq.heap.size < W5.heap.size by omega) 3 (.slice o3 m.raises.length c3)
        have hb7 := (hb5a.grown r2 (by have := hb5.size; omega) (fun j e => by have := (rE.lt j e).1; have := hb5.size; omega)).setCell (p := ⟨wq.heap.size, 3, none⟩) (Nat.le_refl _) (.slice o3 m.raises.length c3)
        generalize w6.setCell ⟨wq.heap.size, 3, none⟩ (.slice o3 m.raises.length c3) = W7 at bD7 rA7 rR7 hb7 ⊢
        have RA7 := hide (Row.mono rA7 (show W.heap.size + 3 ≤ W4.heap.size by omega))
        have RR7 := hide (Row.mono rR7 (show W.heap.size + 3 ≤ W5.heap.size by omega))
        have d2 := bD7.cell 2
        simp only [List.getElem?_cons_zero, List.getElem?_cons_succ] at d2
        clear bD5 rA5 hb5 rE bD5a hb5a rA5a d3 hbig r1 r2 bD6 d36 z36 rA7 rR7 HRN hr0 hi9 hy0 hy1 hy2 hsE
        obtain ⟨M', hM⟩ : ∃ M', mapM (toF tt) m = M' := ⟨_, rfl⟩
        have hMa : M'.args = m.args.map (toF tt) := by rw [← hM]; rfl
        have hMr : M'.raises = m.raises := by rw [← hM]; rfl
        have hMn : M'.name = m.name := by rw [← hM]; rfl
        have hMp : M'.proc = m.proc := by rw [← hM]; rfl
        have hMs : M'.result = if m.result = -1 then -1 else toF tt m.result := by rw [← hM]; rfl
        rw [hM] at HN
        clear hM
        go_upto_if 106 with fail
        generalize hrb : decide ((0 : Int) ≤ m.result) = rb
        have HRB := Lib.hid hrb
        clear hrb
        go_cut [] from 107 to 114 (fun wy => Blk wy wq.heap.size [.string m.name, .slice ow m.args.length cw, .int .i64 M'.result, .slice o3 m.raises.length c3, .string m.proc] 74 ∧ Below wq.heap.size wq wy ∧ wy.ownsRow (W.heap.size + 3) 3 1 (.slice ow m.args.length cw) m.args.length ((m.args.map (toF tt)).map (.int .i64)) ∧ wy.ownsRow (W.heap.size + 3) 9 1 (.slice o3 m.raises.length c3) m.raises.length (m.raises.map .string))
        case first =>
         cases rb
         ·have hx : m.result = -1 := by
            have h1 := of_decide_eq_false HRB.out
            rcases hma3 with h | h
            ·exact h
            ·exact absurd h h1
          have HX1 := Lib.hid hx
          clear hx
          go_wp2
          go_meet
          refine ⟨?_, hb7, unhide RA7, unhide RR7⟩
          rw [hMs, if_pos HX1.out]
          rw [HX1.out] at bD7
          exact bD7
         ·have hx := of_decide_eq_true HRB.out
          obtain ⟨hx0, hx1⟩ := HRX.out hx
          obtain ⟨xi, tb, toff, ex, ei, rfl, tl, tc⟩ := unhide HTT _ hx0 hx1
          replace tc := Holds.below ((unhide HBEL).trans (hb7.mono (by have := (unhide HBEL).size; omega))) _ _ tc
          rw [if_neg (by omega)] at hMs
          rw [← hMs] at tc
          have z2 := bD7.frozen 2
          have bD8 : Blk (W7.setCell ⟨wq.heap.size, 2, none⟩ (.int .i64 M'.result)) wq.heap.size [.string m.name, .slice ow m.args.length cw, .int .i64 M'.result, .slice o3 m.raises.length c3, .string m.proc] 74 := bD7.set 2 _
          have hb8 := hb7.setCell (p := ⟨wq.heap.size, 2, none⟩) (Nat.le_refl _) (.int .i64 M'.result)
          have rA8 := row_setT (unhide RA7) bD7 (by decide) 2 (.int .i64 M'.result)
          have rR8 := row_setT (unhide RR7) bD7 (by decide) 2 (.int .i64 M'.result)
          rw [ex] at d2
          obtain ⟨rv, hrv⟩ : ∃ rv, M'.result = rv := ⟨_, rfl⟩
          have HRV := Lib.hid hrv
          rw [hrv] at tc bD8 hb8 rA8 rR8
          clear hrv
          clear hMs ex hb7 bD7 hx hx0 hx1 hma3
          go_wp2
          go_meet
          rw [HRV.out]
          exact ⟨bD8, hb8, rA8, rR8⟩
        case rest =>
         obtain ⟨bD8, hb8, rA8, rR8⟩ := hcut
         clear d2 bD7 hb7 RA7 RR7 hMs
         have hT8 := (unhide HT3).below hb8
         have c8 := hT8.c.cell 8
         simp only [tyC, List.getElem?_cons_zero, List.getElem?_cons_succ] at c8
         have rX := hT8.rm
         obtain ⟨ox, cx, rfl⟩ := row_form rX
         have e0 := bD8.cell 0
         have e1 := bD8.cell 1
         have e2 := bD8.cell 2
         have e3 := bD8.cell 3
         have e4 := bD8.cell 4
         simp only [List.getElem?_cons_zero, List.getElem?_cons_succ] at e0 e1 e2 e3 e4
         have HX2 := Lib.hid (show (X ++ [((M', .slice ow m.args.length cw, .slice o3 m.raises.length c3) : MV)]).map (·.1) = (t.meths.take (k + 1)).map (mapM (toF tt)) by rw [HN.out, List.map_append, HX.out]; rfl)
         have hXl : X.length ≤ 1000 := by
          have := congrArg List.length HX.out
          simp at this; omega
         obtain ⟨i74, hi74, hu0, hu1, hu2⟩ := info_parts info74
         have hm4 : mvC ((M', .slice ow m.args.length cw, .slice o3 m.raises.length c3) : MV) = [.string m.name, .slice ow m.args.length cw, .int .i64 M'.result, .slice o3 m.raises.length c3, .string m.proc] := by unfold mvC; rw [hMn, hMp]
         have HF := hide (fun (w1 w2 : World) (v' : Value) (hb : Below wc.heap.size wc w1) (r1 : w2.ownsRow (W.heap.size + 3) 74 5 v' (X.length + 1) (mvCells X ++ [.string m.name, .slice ow m.args.length cw, .int .i64 M'.result, .slice o3 m.raises.length c3, .string m.proc])) (r2 : w1.grownBy w2 (Value.slice ox X.length cx).ownBlock) =>
          TN.meth hT8 hb ((M', .slice ow m.args.length cw, .slice o3 m.raises.length c3) : MV) (by show w1.ownsRow _ 3 1 (.slice ow m.args.length cw) M'.args.length (M'.args.map (.int .i64)); rw [hMa, List.length_map]; exact Row.below rA8 hb) (by show w1.ownsRow _ 9 1 (.slice o3 m.raises.length c3) M'.raises.length (M'.raises.map .string); rw [hMr]; exact Row.below rR8 hb) (by rw [hm4]; exact r1) r2)
         have hsw8 : W.heap.size + 3 ≤ wc.heap.size := by have := hb8.size; omega
         have bC8 := hT8.c
         clear HT3 hT8 HX HN rA8 rR8 hMa hMr hMn hMp hm4 hb8 bD8
         go_wp2_with (at_builtin; refine wpList_append_own_at _ rfl _ _ 59 rfl (W.heap.size + 3) 74 i74 (.agg #[.string ⟨#[]⟩, .slice none 0 0, .int .i64 0, .slice none 0 0, .string ⟨#[]⟩]) 5 88 Tryz.underlying59 hi74 hu0 hu1 hu2 rfl (by decide) _ X.length (mvCells X) rfl (rX.alloc _) ⟨_, 0, none⟩ 1 1 [.string m.name, .slice ow m.args.length cw, .int .i64 M'.result, .slice o3 m.raises.length c3, .string m.proc] rfl rfl ?c1 ?c2 ?c3 ?c4 ?c5 ?_)
         try case c1 => intro j u hj; rw [add_zero_addr]; exact (Blk.new wc [.string m.name, .slice ow m.args.length cw, .int .i64 M'.result, .slice o3 m.raises.length c3, .string m.proc] 74).cell j |>.trans hj
         case c2 => simp [Value.oneCell']
         case c3 => unfold maxLen; omega
         case c4 => omega
         case c5 => first | omega | (simp; omega)
         intro v' w9 r1 r2 _ _
         have hbN : Below wc.heap.size wc (wc.alloc (.cells [Value.string m.name, .slice ow m.args.length cw, .int .i64 M'.result, .slice o3 m.raises.length c3, .string m.proc].toArray 74)) := (Below.refl _ _).alloc (Nat.le_refl _) _
         have hT9 := hide (unhide HF _ _ _ hbN r1 r2)
         have bC9 := blk_grown (bC8.alloc (.cells [Value.string m.name, .slice ow m.args.length cw, .int .i64 M'.result, .slice o3 m.raises.length c3, .string m.proc].toArray 74)) (rX.alloc (.cells [Value.string m.name, .slice ow m.args.length cw, .int .i64 M'.result, .slice o3 m.raises.length c3, .string m.proc].toArray 74)) (by omega) r2
         have c89 := bC9.cell 8
         have z89 := bC9.frozen 8
         simp only [tyC, List.getElem?_cons_zero, List.getElem?_cons_succ] at c89
         obtain ⟨o8, cc8, rfl⟩ := row_form r1
         clear r1 r2 bC9 bC8 rX HF hbN e0 e1 e2 e3 e4 c8
         go_wp2
         go_roundg (t.meths.length - (k + 1))
         case measure => omega
         case rel => exact ⟨k + 1, _, _, by omega, rfl, by go_num, HX2, unhide hT9⟩
     ·obtain rfl : k = t.meths.length := by omega
      rw [List.take_length] at HX
      have hlt' : ¬ (t.meths.length : Int) < t.meths.length := by omega
      have c8 := hT.a.cell 8
      simp only [tyC, List.getElem?_cons_zero, List.getElem?_cons_succ] at c8
      have rP := hT.rp
      have rM := hT.rm
      obtain ⟨op2, cp2, rfl⟩ := row_form rP
      obtain ⟨om2, cm2, rfl⟩ := row_form rM
      have bC := hT.c
      have d0 := bC.cell 0
      have d1 := bC.cell 1
      have d2 := bC.cell 2
      have d3 := bC.cell 3
      have d4 := bC.cell 4
      have d5 := bC.cell 5
      have d6 := bC.cell 6
      have d7 := bC.cell 7
      have d8 := bC.cell 8
      have d9 := bC.cell 9
      simp only [tyC, List.getElem?_cons_zero, List.getElem?_cons_succ] at d0 d1 d2 d3 d4 d5 d6 d7 d8 d9
      have bB := hT.b
      have f0 := bB.cell 0
      have f1 := bB.cell 1
      have f2 := bB.cell 2
      have f3 := bB.cell 3
      have f4 := bB.cell 4
      have f5 := bB.cell 5
      have f6 := bB.cell 6
      have f7 := bB.cell 7
      have f8 := bB.cell 8
      have f9 := bB.cell 9
      have zB := bB.frozen
      simp only [zeroTyC, List.getElem?_cons_zero, List.getElem?_cons_succ] at f0 f1 f2 f3 f4 f5 f6 f7 f8 f9
      have HTE := hide hT
      have HBB := hide bB
      clear bB bC hT rP rM hgk hk
      go_wp2
      have hbE := tyPut_blk U (.slice op2 P.length cp2) (.slice om2 X.length cm2) (.slice o9 t.overs.length cap9) (unhide HBB)
      have hlE := tyPut_below U (.slice op2 P.length cp2) (.slice om2 X.length cm2) (.slice o9 t.overs.length cap9) (show W.heap.size ≤ W.heap.size + 1 by omega) (unhide HTE).bel
      have hFE : Far W.heap.size (tyPut wq (W.heap.size + 1) U (.slice op2 P.length cp2) (.slice om2 X.length cm2) (.slice o9 t.overs.length cap9)).heap.size (tyPut wq (W.heap.size + 1) U (.slice op2 P.length cp2) (.slice om2 X.length cm2) (.slice o9 t.overs.length cap9)) (.slice op2 P.length cp2) (.slice om2 X.length cm2) (.slice o9 t.overs.length cap9) (mapTy (toF tt) t) := by
       have h1 := (unhide HTE).far (T := mapTy (toF tt) t) HP.out.symm HX.out.symm rfl
       rw [tyPut_size]
       exact (h1.kept (fun b h1 h2 => tyPut_heap _ _ _ _ (by omega))).low (by omega)
      refine (show bodyPost Tryz.prog Tryz.f52 _ Exit.ret _ (tyPut wq (W.heap.size + 1) U (.slice op2 P.length cp2) (.slice om2 X.length cm2) (.slice o9 t.overs.length cap9)) from ?_)
      generalize tyPut wq (W.heap.size + 1) U (.slice op2 P.length cp2) (.slice om2 X.length cm2) (.slice o9 t.overs.length cap9) = WE at hbE hlE hFE ⊢
      refine ⟨rfl, _, results_cell_row rfl _ _ (W.heap.size + 1) 62 _ (0, 0) _ rfl hbE Tryz.underlying62 rfl (by kernel_rfl), .slice op2 P.length cp2, .slice om2 X.length cm2, .slice o9 t.overs.length cap9, ?_, hFE, hlE⟩
      rw [HU.out]
      rfl
end Go.Proofs.YteaokkaidcbdlaaGreatDoor

