/- Part 23 of 53: the texts Ta, Tm, Tb, one behind the other. -/
import Derived.Test.YteaokkaidcbdlaaGreatDoorM22
import Derived.Test.YteaokkaidcbdlaaGreatDoorM21
import Derived.Test.YteaokkaidcbdlaaGreatDoorM4
namespace Go.Proofs.YteaokkaidcbdlaaGreatDoor
open Go Go.RowKit Go.Shelf
def agB (G : List TyD) (p : Nat × Nat) : Bool := agreeB (G.getD p.1 default) (G.getD p.2 default)
def besG (G : List TyD) (p : Nat × Nat) : List (Nat × Int × Int) := besL (refsOf (G.getD p.1 default)) (refsOf (G.getD p.2 default))
abbrev SSt := Came × List (Nat × Nat)
def nxP (x : Nat × Int × Int) : Nat × Nat := (x.2.1.toNat, x.2.2.toNat)
def inStep (ag : Nat × Nat → Bool) (cl : Nat → Nat) (a : Nat × Nat) (st : SSt) (x : Nat × Int × Int) : SSt × Option (Nat × Nat) :=
 if nxP x ∈ st.1.map (·.1) ∨ cl (nxP x).1 = cl (nxP x).2 then (st, none)
 else if ag (nxP x) then ((st.1 ++ [(nxP x, a, x.1)], st.2 ++ [nxP x]), none) else ((st.1 ++ [(nxP x, a, x.1)], st.2), some (nxP x))
def inRun (ag : Nat × Nat → Bool) (cl : Nat → Nat) (a : Nat × Nat) : List (Nat × Int × Int) → SSt → SSt × Option (Nat × Nat)
 | [], st => (st, none)
 | x :: xs, st => match inStep ag cl a st x with | (st', none) => inRun ag cl a xs st' | r => r
theorem inRun_append (ag : Nat × Nat → Bool) (cl : Nat → Nat) (a : Nat × Nat) (q : List (Nat × Int × Int)) : ∀ (p : List (Nat × Int × Int)) (st : SSt), inRun ag cl a (p ++ q) st = match inRun ag cl a p st with | (st', none) => inRun ag cl a q st' | r => r
 | [], st => rfl
 | x :: p, st => by
   rw [List.cons_append, inRun, inRun]
   obtain ⟨s', o⟩ := inStep ag cl a st x
   cases o with
   | none => exact inRun_append ag cl a q p s'
   | some n => rfl
theorem inRun_snoc {ag : Nat × Nat → Bool} {cl : Nat → Nat} {a : Nat × Nat} {p : List (Nat × Int × Int)} {x : Nat × Int × Int} {st st' : SSt} (h : inRun ag cl a p st = (st', none)) : inRun ag cl a (p ++ [x]) st = inStep ag cl a st' x := by
 rw [inRun_append, h]
 simp only [inRun]
 obtain ⟨s', o⟩ := inStep ag cl a st' x
 cases o <;> rfl
theorem inRun_stop {ag : Nat × Nat → Bool} {cl : Nat → Nat} {a : Nat × Nat} {p L : List (Nat × Int × Int)} {st st' : SSt} {n : Nat × Nat} (hp : p <+: L) (h : inRun ag cl a p st = (st', some n)) : inRun ag cl a L st = (st', some n) := by
 obtain ⟨q, rfl⟩ := hp
 rw [inRun_append, h]
def outRun (ag : Nat × Nat → Bool) (cl : Nat → Nat) (bes : Nat × Nat → List (Nat × Int × Int)) : Nat → Nat → SSt → Came × Option (Nat × Nat)
 | 0, _, st => (st.1, none)
 | f + 1, k, st => match st.2[k]? with
   | none => (st.1, none)
   | some a => match inRun ag cl a (bes a) st with
     | (st', none) => outRun ag cl bes f (k + 1) st'
     | (st', some n) => (st'.1, some n)
def tellL (G : List TyD) (cl : Nat → Nat) (first : Nat × Nat) : List Int :=
 if agB G first then wayL (outRun (agB G) cl (besG G) (G.length * G.length + 1) 0 ([(first, (0, 0), 0)], [first])).1 first ((outRun (agB G) cl (besG G) (G.length * G.length + 1) 0 ([(first, (0, 0), 0)], [first])).2.getD first) else []
structure SInv (G : List TyD) (first : Nat × Nat) (st : SSt) (s : Option (Nat × Nat)) : Prop where
 keys : st.1.map (·.1) = st.2 ++ s.toList
 nodup : (st.2 ++ s.toList).Nodup
 bnd : ∀ c ∈ st.1, c.1.1 < G.length ∧ c.1.2 < G.length
 ag : ∀ q ∈ st.2, agB G q = true
 chain : Chain st.1 first
 head : ∃ h : 0 < st.1.length, st.1[0].1 = first
theorem SInv.start {G : List TyD} {first : Nat × Nat} (h1 : first.1 < G.length) (h2 : first.2 < G.length) (ha : agB G first = true) : SInv G first ([(first, (0, 0), 0)], [first]) none :=
 ⟨rfl, by simp, fun c hc => by simp at hc; subst hc; exact ⟨h1, h2⟩, fun q hq => by simp at hq; subst hq; exact ha, fun m h => .inl (by simp at h; subst h; rfl), ⟨by simp, rfl⟩⟩
theorem SInv.len {G : List TyD} {first : Nat × Nat} {st : SSt} (h : SInv G first st none) : st.1.length = st.2.length := by
 have := congrArg List.length h.keys; simpa using this
theorem chain_snoc {C : Came} {first nx a : Nat × Nat} {k : Nat} (h : Chain C first) (ha : ∃ q, ∃ h : q < C.length, C[q].1 = a) : Chain (C ++ [(nx, a, k)]) first := by
 intro m hm
 by_cases hlt : m < C.length
 ·rw [List.getElem_append_left hlt]
  rcases h m hlt with h | ⟨q, hq, e⟩
  ·exact .inl h
  ·exact .inr ⟨q, hq, by rw [List.getElem_append_left (by omega)]; exact e⟩
 ·have hme : m = C.length := by simp at hm; omega
  subst hme
  obtain ⟨q, hq, e⟩ := ha
  refine .inr ⟨q, hq, ?_⟩
  rw [List.getElem_append_left hq, List.getElem_append_right (Nat.le_refl _)]
  simpa using e
theorem SInv.step {G : List TyD} {first a : Nat × Nat} {cl : Nat → Nat} {st : SSt} (h : SInv G first st none) (x : Nat × Int × Int) (hb : (nxP x).1 < G.length ∧ (nxP x).2 < G.length) (hk : ∃ k : Nat, st.2[k]? = some a) :
    SInv G first (inStep (agB G) cl a st x).1 (inStep (agB G) cl a st x).2 ∧ (∃ k : Nat, (inStep (agB G) cl a st x).1.2[k]? = some a) ∧ st.2 <+: (inStep (agB G) cl a st x).1.2 := by
  have hkeys : st.1.map (·.1) = st.2 := by have := h.keys; simpa using this
  have hnd : st.2.Nodup := by have := h.nodup; simpa using this
  obtain ⟨k, hk⟩ := hk
  have ha : ∃ q, ∃ h : q < st.1.length, st.1[q].1 = a := by
   have hl := h.len
   obtain ⟨hkl, e⟩ := List.getElem?_eq_some_iff.1 hk
   refine ⟨k, by omega, ?_⟩
   have h1 : (st.1.map (·.1))[k]'(by simp; omega) = st.2[k] := by simp [hkeys]
   rw [← e, ← h1]; simp
  unfold inStep
  split
  ·exact ⟨h, ⟨k, hk⟩, List.prefix_refl _⟩
  ·rename_i hno
   rw [hkeys] at hno
   have hnew : nxP x ∉ st.2 := fun e => hno (.inl e)
   have hnd' : (st.2 ++ [nxP x]).Nodup := by
    rw [List.nodup_append]
    exact ⟨hnd, by simp, fun p hp q hq e => by simp at hq; subst hq; exact hnew (e ▸ hp)⟩
   have hbnd : ∀ c ∈ st.1 ++ [(nxP x, a, x.1)], c.1.1 < G.length ∧ c.1.2 < G.length := fun c hc => by
    rw [List.mem_append, List.mem_singleton] at hc
    rcases hc with hc | rfl
    ·exact h.bnd c hc
    ·exact hb
   have hhead : ∃ h : 0 < (st.1 ++ [(nxP x, a, x.1)]).length, (st.1 ++ [(nxP x, a, x.1)])[0].1 = first := by
    obtain ⟨h0, e⟩ := h.head
    exact ⟨by simp, by rw [List.getElem_append_left h0]; exact e⟩
   have hks : ((st.1 ++ [(nxP x, a, x.1)]).map (·.1)) = st.2 ++ [nxP x] := by rw [List.map_append, hkeys]; rfl
   split
   ·rename_i hag
    refine ⟨⟨by simpa using hks, by simpa using hnd', hbnd, fun q hq => ?_, chain_snoc h.chain ha, hhead⟩, ⟨k, ?_⟩, List.prefix_append _ _⟩
    ·rw [List.mem_append, List.mem_singleton] at hq
     rcases hq with hq | rfl
     ·exact h.ag q hq
     ·exact hag
    ·have := (List.getElem?_eq_some_iff.1 hk).1
     show (st.2 ++ [nxP x])[k]? = _
     rw [List.getElem?_append_left this]; exact hk
   ·exact ⟨⟨by simpa using hks, by simpa using hnd', hbnd, h.ag, chain_snoc h.chain ha, hhead⟩, ⟨k, hk⟩, List.prefix_refl _⟩
theorem nodup_le : ∀ (m : Nat) (l : List Nat), l.Nodup → (∀ x ∈ l, x < m) → l.length ≤ m
 | 0, l, _, h => by
   cases l with
   | nil => simp
   | cons x l => have := h x (by simp); omega
 | m + 1, l, hn, h => by
   have h1 := nodup_le m (l.filter (fun x => decide (x ≠ m))) (hn.filter _) (fun x hx => by
    rw [List.mem_filter, decide_eq_true_eq] at hx
    have := h x hx.1; omega)
   have h2 : l.length ≤ (l.filter (fun x => decide (x ≠ m))).length + 1 := by
    clear h1 h
    induction l with
    | nil => simp
    | cons x l ih =>
      rw [List.nodup_cons] at hn
      rw [List.filter_cons]
      by_cases hx : x = m
      ·subst hx
       have : l.filter (fun y => decide (y ≠ x)) = l := by
        rw [List.filter_eq_self]
        intro y hy
        simp only [decide_eq_true_eq]
        rintro rfl; exact hn.1 hy
       rw [this]
       simp
      ·have hd : decide (x ≠ m) = true := by simpa using hx
       rw [if_pos hd, List.length_cons, List.length_cons]
       have := ih hn.2
       omega
   omega
theorem SInv.small {G : List TyD} {first : Nat × Nat} {st : SSt} {s : Option (Nat × Nat)} (h : SInv G first st s) : st.1.length ≤ G.length * G.length := by
 have hnd : (st.1.map (·.1)).Nodup := by rw [h.keys]; exact h.nodup
 have h1 := nodup_le (G.length * G.length) ((st.1.map (·.1)).map fun p => p.1 * G.length + p.2) (by
  rw [List.Nodup, List.pairwise_map]
  refine List.Pairwise.imp_of_mem (fun {a b} ha hb hne e => hne ?_) hnd
  obtain ⟨c, hc, rfl⟩ := List.mem_map.1 ha
  obtain ⟨d, hd, rfl⟩ := List.mem_map.1 hb
  obtain ⟨a1, a2⟩ := h.bnd c hc
  obtain ⟨b1, b2⟩ := h.bnd d hd
  have e1 : c.1.1 = d.1.1 := by
   rcases Nat.lt_trichotomy c.1.1 d.1.1 with hl | he | hg
   ·have := Nat.mul_le_mul_right G.length (show c.1.1 + 1 ≤ d.1.1 from hl)
    rw [Nat.add_mul] at this; omega
   ·exact he
   ·have := Nat.mul_le_mul_right G.length (show d.1.1 + 1 ≤ c.1.1 from hg)
    rw [Nat.add_mul] at this; omega
  rw [e1] at e
  exact Prod.ext e1 (by omega)) (fun x hx => by
  obtain ⟨p, hp, rfl⟩ := List.mem_map.1 hx
  obtain ⟨c, hc, rfl⟩ := List.mem_map.1 hp
  obtain ⟨a1, a2⟩ := h.bnd c hc
  have := Nat.mul_le_mul_right G.length (show c.1.1 + 1 ≤ G.length from a1)
  rw [Nat.add_mul] at this; omega)
 simpa using h1
end Go.Proofs.YteaokkaidcbdlaaGreatDoor

namespace Go.Proofs.YteaokkaidcbdlaaGreatDoor
open Go Go.RowKit Go.Shelf
attribute [local go_sem] Oper.semAt_some
theorem besL_mem {A B : List Int} {x : Nat × Int × Int} (h : x ∈ besL A B) : x.2.1 ∈ A ∧ x.2.2 ∈ B := by
 unfold besL at h
 obtain ⟨⟨⟨p, q⟩, k⟩, hy, rfl⟩ := List.mem_map.1 h
 have := List.fst_mem_of_mem_zipIdx hy
 exact ⟨(List.of_mem_zip this).1, (List.of_mem_zip this).2⟩
theorem GrAt.cells {W : World} {o : Option Addr} {cap : Nat} {G : List TyD} (h : GrAt W (.slice o G.length cap) G) {i : Nat} (hi : i < G.length) :
    ∃ b off u1 u2 u3, o = some ⟨b, off, none⟩ ∧ TyL W u1 u2 u3 G[i] ∧ ∀ W', Holds W W' → ∀ j u, (tyC G[i] u1 u2 u3)[j]? = some u → W'.cell? ⟨b, off + i * 10 + j, none⟩ = some u := by
  obtain ⟨-, -, -, hat⟩ := h.at
  obtain ⟨b, off, rfl, u1, u2, u3, gl, k0, k1, k2, k3, k4, k5, k6, k7, k8, k9⟩ := hat i G[i] (List.getElem?_eq_getElem hi)
  refine ⟨b, off, u1, u2, u3, rfl, gl, fun W' hb j u hu => hb _ _ ?_⟩
  match j with
  | 0 => simp [tyC] at hu; subst hu; exact k0
  | 1 => simp [tyC] at hu; subst hu; exact k1
  | 2 => simp [tyC] at hu; subst hu; exact k2
  | 3 => simp [tyC] at hu; subst hu; exact k3
  | 4 => simp [tyC] at hu; subst hu; exact k4
  | 5 => simp [tyC] at hu; subst hu; exact k5
  | 6 => simp [tyC] at hu; subst hu; exact k6
  | 7 => simp [tyC] at hu; subst hu; exact k7
  | 8 => simp [tyC] at hu; subst hu; exact k8
  | 9 => simp [tyC] at hu; subst hu; exact k9
  | j + 10 => simp [tyC] at hu
theorem build141z (w : World) : (Instr.build 141 #[]).run Tryz.prog w = .ok (.agg #[.int .i64 0, .int .i64 0, .int .i64 0]) w := run_build w 141 _ _ (by kernel_rfl)
def pairCells (l : List (Nat × Nat)) : List Value := l.flatMap fun p => [.int .i64 p.1, .int .i64 p.2]
structure TI (W wr : World) (gv cv : Value) (first last : Nat × Nat) (N mbk b7 b8 b9 : Nat) (C : Came) (Q : List (Nat × Nat)) (qv : Value) (ms : List Nat) : Prop where
 bel : Below W.heap.size W wr
 hN : W.heap.size + 3 ≤ N
 ge : N ≤ mbk ∧ N ≤ b7 ∧ N ≤ b8 ∧ N ≤ b9
 g : Boxed wr W.heap.size 23 gv
 c : Boxed wr (W.heap.size + 1) 37 cv
 f : Blk wr (W.heap.size + 2) [.int .i64 first.1, .int .i64 first.2] 64
 mb : Boxed wr b7 142 (.map (some mbk))
 mp : MapC wr mbk C
 qb : Boxed wr b8 33 qv
 row : wr.ownsRow N 64 2 qv Q.length (pairCells Q)
 lb : Blk wr b9 [.int .i64 last.1, .int .i64 last.2] 64
 op : Open' wr N ms
 ap : some b9 ≠ qv.ownBlock
theorem TI.below {W wr w' : World} {gv cv qv : Value} {first last : Nat × Nat} {N mbk b7 b8 b9 : Nat} {C : Came} {Q : List (Nat × Nat)} {ms : List Nat} (h : TI W wr gv cv first last N mbk b7 b8 b9 C Q qv ms) (hb : Below wr.heap.size wr w') : TI W w' gv cv first last N mbk b7 b8 b9 C Q qv ms :=
 ⟨h.bel.trans (hb.mono h.bel.size), h.hN, h.ge, (hb.block _ h.g.lt).trans h.g, (hb.block _ h.c.lt).trans h.c, h.f.below hb h.f.lt, (hb.block _ h.mb.lt).trans h.mb, h.mp.below hb h.mp.lt, (hb.block _ h.qb.lt).trans h.qb, Row.below h.row hb, h.lb.below hb h.lb.lt, h.op.below hb, h.ap⟩
theorem TI.put {W wr : World} {gv cv qv : Value} {first last : Nat × Nat} {N mbk b7 b8 b9 : Nat} {C : Came} {Q : List (Nat × Nat)} {ms : List Nat} (h : TI W wr gv cv first last N mbk b7 b8 b9 C Q qv ms) {l : Nat} {o : Obj} (o' : Obj) (hl : wr.heap[l]? = some o) (ho : o.isCells = false) (hlN : mbk < l) (hms : ∀ D ∈ ms, D < l) :
    TI W (wr.putObj l o') gv cv first last N mbk b7 b8 b9 C Q qv ms := by
  have hot : ∀ b x, wr.heap[b]? = some x → b ≠ l → (wr.putObj l o').heap[b]? = some x := fun b x hb hne => (World.putObj_heap_other (by omega)).trans hb
  have hN := h.hN
  have hge := h.ge
  refine ⟨h.bel.grown (grownBy_putObj' wr l o') h.bel.size (fun j e => by cases e; omega), h.hN, h.ge, hot _ _ h.g (by omega), hot _ _ h.c (by omega), hot _ _ h.f (by omega), hot _ _ h.mb ?_, h.mp.block ((World.putObj_heap_other (by omega))), hot _ _ h.qb ?_, ownsRow_putObj h.row o' hl ho, hot _ _ h.lb ?_, h.op.keeps fun D hD => World.putObj_heap_other (by have := hms D hD; omega), h.ap⟩
  ·rintro rfl; rw [h.mb] at hl; cases hl; cases ho
  ·rintro rfl; rw [h.qb] at hl; cases hl; cases ho
  ·rintro rfl; have := h.lb; unfold Blk at this; rw [this] at hl; cases hl; cases ho
theorem AMap.ne_cells {w : World} {m b : Nat} {kt : TypeId} {K : Type} {enc : K → Value} {L : List (K × Value)} (h : AMap w m kt enc L) {cs : Array Value} {t : TypeId} {f : Nat × Nat} (hb : w.heap[b]? = some (.cells cs t f)) : b ≠ m := by
 rintro rfl
 obtain ⟨es, clock, hm, _⟩ := h.at'
 rw [hb] at hm; cases hm
theorem row_ne_map {w : World} {m base : Nat} {kt e : TypeId} {sz n : Nat} {K : Type} {enc : K → Value} {L : List (K × Value)} {v : Value} {xs : List Value} (h : AMap w m kt enc L) (hr : w.ownsRow base e sz v n xs) : some m ≠ v.ownBlock := by
 rcases hr.2 with ⟨rfl, _⟩ | ⟨g, cap, cur, rfl, _, hgb, _⟩
 ·simp [Value.ownBlock]
 ·simp only [Value.ownBlock, ne_eq, Option.some.injEq]
  exact fun e => h.ne_cells hgb e.symm
theorem TI.putm {W wr w' : World} {gv cv qv : Value} {first last : Nat × Nat} {N mbk b7 b8 b9 : Nat} {C : Came} {Q : List (Nat × Nat)} {ms : List Nat} (h : TI W wr gv cv first last N mbk b7 b8 b9 C Q qv ms) (hg : wr.grownBy w' (some mbk)) {C' : Came} (hM : MapC w' mbk C') : TI W w' gv cv first last N mbk b7 b8 b9 C' Q qv ms := by
 have hk : ∀ b x, wr.heap[b]? = some x → b ≠ mbk → w'.heap[b]? = some x := fun b x hb hne => (hg.block b (Array.getElem?_eq_some_iff.1 hb).1 (by simpa using hne)).trans hb
 have hge := h.ge
 have hN := h.hN
 refine ⟨h.bel.grown hg h.bel.size (fun j e => by cases e; omega), h.hN, h.ge, hk _ _ h.g (h.mp.ne_cells h.g), hk _ _ h.c (h.mp.ne_cells h.c), hk _ _ h.f (h.mp.ne_cells h.f), hk _ _ h.mb (h.mp.ne_cells h.mb), hM, hk _ _ h.qb (h.mp.ne_cells h.qb), ?_, hk _ _ h.lb (h.mp.ne_cells h.lb), ?_, h.ap⟩
 ·refine h.row.kept hg (.inr ?_)
  exact fun e => row_ne_map h.mp h.row e.symm
 ·refine h.op.grown hg (fun r e => ?_)
  cases e
  obtain ⟨es, clock, hm, _⟩ := h.mp.at'
  exact ⟨_, hm, fun ds e => by cases e⟩
theorem grownBy_setN (w : World) (b i : Nat) (v : Value) : w.grownBy (w.setCell ⟨b, i, none⟩ v) (some b) := by
 refine ⟨rfl, rfl, rfl, by simp, fun k _ hne => ?_⟩
 show (w.heap.modify b _)[k]? = _
 rw [Array.getElem?_modify, if_neg (fun e => hne (by rw [e]))]
theorem TI.setl {W wr : World} {gv cv qv : Value} {first last : Nat × Nat} {N mbk b7 b8 b9 : Nat} {C : Came} {Q : List (Nat × Nat)} {ms : List Nat} (h : TI W wr gv cv first last N mbk b7 b8 b9 C Q qv ms) (nx : Nat × Nat) : TI W ((wr.setCell ⟨b9, 0, none⟩ (.int .i64 nx.1)).setCell ⟨b9, 1, none⟩ (.int .i64 nx.2)) gv cv first nx N mbk b7 b8 b9 C Q qv ms := by
 have hg : wr.grownBy ((wr.setCell ⟨b9, 0, none⟩ (.int .i64 nx.1)).setCell ⟨b9, 1, none⟩ (.int .i64 nx.2)) (some b9) := by
  have g1 := grownBy_setN wr b9 0 (.int .i64 nx.1)
  have g2 := grownBy_setN (wr.setCell ⟨b9, 0, none⟩ (.int .i64 nx.1)) b9 1 (.int .i64 nx.2)
  exact ⟨g2.os.trans g1.os, g2.tape.trans g1.tape, g2.output.trans g1.output, Nat.le_trans g1.size g2.size, fun i hi hne => (g2.block i (Nat.lt_of_lt_of_le hi g1.size) hne).trans (g1.block i hi hne)⟩
 have hk : ∀ b x, wr.heap[b]? = some x → b ≠ b9 → ((wr.setCell ⟨b9, 0, none⟩ (.int .i64 nx.1)).setCell ⟨b9, 1, none⟩ (.int .i64 nx.2)).heap[b]? = some x := fun b x hb hne => (hg.block b (Array.getElem?_eq_some_iff.1 hb).1 (by simpa using hne)).trans hb
 have hge := h.ge
 have hN := h.hN
 have hty : ∀ b v t, Boxed wr b t v → b ≠ b9 := by
  rintro b v t hb rfl
  have := h.lb
  unfold Blk at this
  unfold Boxed at hb
  rw [hb] at this; cases this
 refine ⟨h.bel.grown hg h.bel.size (fun j e => by cases e; omega), h.hN, h.ge, hk _ _ h.g (hty _ _ _ h.g), hk _ _ h.c (hty _ _ _ h.c), hk _ _ h.f (by omega), hk _ _ h.mb (hty _ _ _ h.mb), h.mp.block (hg.block _ h.mp.lt (fun e => h.mp.ne_cells h.lb (by cases e; rfl))), hk _ _ h.qb (hty _ _ _ h.qb), h.row.kept hg (.inr fun e => h.ap e.symm), (h.lb.set 0 _).set 1 _, h.op.grown hg (fun r e => by
  cases e
  exact ⟨_, h.lb, fun ds e => by cases e⟩), h.ap⟩
theorem pairCells_snoc (l : List (Nat × Nat)) (p : Nat × Nat) : pairCells (l ++ [p]) = pairCells l ++ [.int .i64 p.1, .int .i64 p.2] := by unfold pairCells; simp
theorem TI.app {W wr w' : World} {gv cv qv : Value} {first last : Nat × Nat} {N mbk b7 b8 b9 : Nat} {C : Came} {Q : List (Nat × Nat)} {ms : List Nat} (h : TI W wr gv cv first last N mbk b7 b8 b9 C Q qv ms) (tmp : Obj) (nx : Nat × Nat) {qv' : Value} (hown : w'.ownsRow N 64 2 qv' (Q.length + 1) (pairCells Q ++ [.int .i64 nx.1, .int .i64 nx.2])) (hg : (wr.alloc tmp).grownBy w' qv.ownBlock) (hap : some b9 ≠ qv'.ownBlock) :
    TI W (w'.setCell ⟨b8, 0, none⟩ qv') gv cv first last N mbk b7 b8 b9 C (Q ++ [nx]) qv' ms := by
  have hrA := h.row.alloc tmp
  have hge := h.ge
  have hN := h.hN
  have hk : ∀ b x, wr.heap[b]? = some x → some b ≠ qv.ownBlock → w'.heap[b]? = some x := fun b x hb hne => by
   have hlt := (Array.getElem?_eq_some_iff.1 hb).1
   exact (hg.block b (by simp; omega) hne).trans ((Below.heap_alloc _ _ _ hlt).trans hb)
  have hbx : ∀ b v t, Boxed wr b t v → t ≠ 64 → some b ≠ qv.ownBlock := fun b v t hb ht => hb.not_row ht h.row
  have hlo : ∀ b, b < N → some b ≠ qv.ownBlock := fun b hb e => by have := (h.row.lt b e.symm).1; omega
  have hsz : wr.heap.size ≤ w'.heap.size := Nat.le_trans (by simp) hg.size
  have q8 : Boxed w' b8 33 qv := hk _ _ h.qb (hbx _ _ _ h.qb (by decide))
  have hty : ∀ b v t, Boxed wr b t v → t ≠ 33 → b ≠ b8 := by
   rintro b v t hb ht rfl
   have := h.qb
   unfold Boxed at this hb
   rw [hb] at this; cases this; exact ht rfl
  have hset : ∀ b x, w'.heap[b]? = some x → b ≠ b8 → (w'.setCell ⟨b8, 0, none⟩ qv').heap[b]? = some x := fun b x hb hne => by
   show (w'.heap.modify b8 _)[b]? = _
   rw [Array.getElem?_modify, if_neg (by omega)]; exact hb
  have hb0 : Below W.heap.size W w' := (h.bel.alloc h.bel.size tmp).grown hg (by simp; have := h.bel.size; omega) (fun j e => by have := (h.row.lt j e).1; omega)
  have hM : MapC w' mbk C := (h.mp.alloc tmp).kept hg (row_ne_map (h.mp.alloc tmp) hrA)
  have hl9 : Blk w' b9 _ 64 := hk _ _ h.lb h.ap
  refine ⟨hb0.setCell (p := ⟨b8, 0, none⟩) (show W.heap.size ≤ b8 by omega) qv', hN, hge, hset _ _ (hk _ _ h.g (hlo _ (by omega))) (hty _ _ _ h.g (by decide)), hset _ _ (hk _ _ h.c (hlo _ (by omega))) (hty _ _ _ h.c (by decide)), hset _ _ (hk _ _ h.f (hlo _ (by omega))) (by omega), hset _ _ (hk _ _ h.mb (hbx _ _ _ h.mb (by decide))) (hty _ _ _ h.mb (by decide)), hM.set qv' (fun e => ?_), q8.set qv', ?_, hset _ _ hl9 ?_, ?_, hap⟩
  ·exact hM.ne_cells q8 e.symm
  ·rw [pairCells_snoc, List.length_append]
   exact hown.kept (grownBy_setCell' w' b8 qv') (.inr fun e => q8.not_row (by decide) hown e.symm)
  ·rintro rfl
   unfold Blk at hl9
   unfold Boxed at q8
   rw [hl9] at q8; cases q8
  ·have h1 := (h.op.below ((Below.refl _ _).alloc (Nat.le_refl _) tmp)).grown hg (fun r e => by
     rcases hrA.2 with ⟨rfl, _⟩ | ⟨g, cap, cur, rfl, _, hgb, _⟩
     ·simp [Value.ownBlock] at e
     ·simp only [Value.ownBlock, Option.some.injEq] at e
      subst e
      exact ⟨_, hgb, fun ds e => by cases e⟩)
   exact h1.grown (grownBy_setCell' w' b8 qv') (fun r e => by cases e; exact ⟨_, q8, fun ds e => by cases e⟩)
theorem row2_cell {w : World} {base : Nat} {o : Option Addr} {n c : Nat} {l : List (Nat × Nat)} (h : w.ownsRow base 64 2 (.slice o n c) l.length (pairCells l)) (k : Nat) (hk : k < l.length) :
    ∃ g, o = some ⟨g, 0, none⟩ ∧ n = l.length ∧ w.cell? ⟨g, k * 2, none⟩ = some (.int .i64 l[k].1) ∧ w.cell? ⟨g, k * 2 + 1, none⟩ = some (.int .i64 l[k].2) := by
  have h' := h
  have hp : ∀ (l : List (Nat × Nat)) (k : Nat) (hk : k < l.length), (pairCells l)[k * 2]? = some (.int .i64 l[k].1) ∧ (pairCells l)[k * 2 + 1]? = some (.int .i64 l[k].2) := by
   intro l
   induction l with
   | nil => intro k hk; simp at hk
   | cons p l ih =>
     intro k hk
     cases k with
     | zero => exact ⟨rfl, rfl⟩
     | succ k =>
       obtain ⟨e1, e2⟩ := ih k (by simpa using hk)
       unfold pairCells at e1 e2 ⊢
       rw [List.flatMap_cons, show (k + 1) * 2 = k * 2 + 2 by omega]
       exact ⟨e1, e2⟩
  obtain ⟨e1, e2⟩ := hp l k hk
  rcases h.2 with ⟨h0, h1⟩ | ⟨g, cap, cur, h0, _⟩
  ·omega
  ·cases h0
   refine ⟨g, rfl, rfl, ?_, ?_⟩
   ·rw [World.ownsRow.cellAt h' (k * 2) (by omega), e1]
   ·rw [World.ownsRow.cellAt h' (k * 2 + 1) (by omega), e2]
end Go.Proofs.YteaokkaidcbdlaaGreatDoor

namespace Go.Proofs.YteaokkaidcbdlaaGreatDoor
open Go Go.RowKit Go.Shelf
attribute [local go_sem] Oper.semAt_some
set_option maxRecDepth 100000 in
theorem arr_eq (t : Array Value) (n : Nat) (h : t.size = n) : t = ((List.range n).map fun i => t.getD i undef).toArray := by
 subst h
 apply Array.ext
 ·simp
 ·intro i h1 h2
  simp [h1]
theorem pack98 (t : Array Value) (d : List Deferred) (hs : t.size = 98) (v0 : Value) (v1 : Value) (v2 : Value) (v3 : Value) (v4 : Value) (v5 : Value) (v6 : Value) (v7 : Value) (v8 : Value) (v9 : Value) (v10 : Value) (h0 : t.getD 0 undef = v0) (h1 : t.getD 1 undef = v1) (h2 : t.getD 2 undef = v2) (h3 : t.getD 3 undef = v3) (h4 : t.getD 4 undef = v4) (h5 : t.getD 5 undef = v5) (h6 : t.getD 6 undef = v6) (h7 : t.getD 7 undef = v7) (h8 : t.getD 8 undef = v8) (h9 : t.getD 9 undef = v9) (h10 : t.getD 10 undef = v10) (h94 : t.getD 94 undef = undef) (h95 : t.getD 95 undef = undef) (h96 : t.getD 96 undef = undef) (h97 : t.getD 97 undef = undef) :
    ∃ u : Nat → Value, (Act.mk t d) = { tmps := #[v0, v1, v2, v3, v4, v5, v6, v7, v8, v9, v10, u 11, u 12, u 13, u 14, u 15, u 16, u 17, u 18, u 19, u 20, u 21, u 22, u 23, u 24, u 25, u 26, u 27, u 28, u 29, u 30, u 31, u 32, u 33, u 34, u 35, u 36, u 37, u 38, u 39, u 40, u 41, u 42, u 43, u 44, u 45, u 46, u 47, u 48, u 49, u 50, u 51, u 52, u 53, u 54, u 55, u 56, u 57, u 58, u 59, u 60, u 61, u 62, u 63, u 64, u 65, u 66, u 67, u 68, u 69, u 70, u 71, u 72, u 73, u 74, u 75, u 76, u 77, u 78, u 79, u 80, u 81, u 82, u 83, u 84, u 85, u 86, u 87, u 88, u 89, u 90, u 91, u 92, u 93, undef, undef, undef, undef], defers := d } := by
  refine ⟨fun i => t.getD i undef, ?_⟩
  have e1 := arr_eq t 98 hs
  have e2 : ∀ f : Nat → Value, ((List.range 98).map f).toArray = #[f 0, f 1, f 2, f 3, f 4, f 5, f 6, f 7, f 8, f 9, f 10, f 11, f 12, f 13, f 14, f 15, f 16, f 17, f 18, f 19, f 20, f 21, f 22, f 23, f 24, f 25, f 26, f 27, f 28, f 29, f 30, f 31, f 32, f 33, f 34, f 35, f 36, f 37, f 38, f 39, f 40, f 41, f 42, f 43, f 44, f 45, f 46, f 47, f 48, f 49, f 50, f 51, f 52, f 53, f 54, f 55, f 56, f 57, f 58, f 59, f 60, f 61, f 62, f 63, f 64, f 65, f 66, f 67, f 68, f 69, f 70, f 71, f 72, f 73, f 74, f 75, f 76, f 77, f 78, f 79, f 80, f 81, f 82, f 83, f 84, f 85, f 86, f 87, f 88, f 89, f 90, f 91, f 92, f 93, f 94, f 95, f 96, f 97] := fun f => rfl
  rw [e2] at e1
  rw [h0, h1, h2, h3, h4, h5, h6, h7, h8, h9, h10, h94, h95, h96, h97] at e1
  rw [← e1]
set_option maxRecDepth 100000 in
theorem pack98b (t : Array Value) (d : List Deferred) (hs : t.size = 98) (v0 : Value) (v1 : Value) (v2 : Value) (v3 : Value) (v4 : Value) (v5 : Value) (v6 : Value) (v7 : Value) (v8 : Value) (v9 : Value) (v10 : Value) (v11 : Value) (v12 : Value) (h0 : t.getD 0 undef = v0) (h1 : t.getD 1 undef = v1) (h2 : t.getD 2 undef = v2) (h3 : t.getD 3 undef = v3) (h4 : t.getD 4 undef = v4) (h5 : t.getD 5 undef = v5) (h6 : t.getD 6 undef = v6) (h7 : t.getD 7 undef = v7) (h8 : t.getD 8 undef = v8) (h9 : t.getD 9 undef = v9) (h10 : t.getD 10 undef = v10) (h11 : t.getD 11 undef = v11) (h12 : t.getD 12 undef = v12) (h94 : t.getD 94 undef = undef) (h95 : t.getD 95 undef = undef) (h96 : t.getD 96 undef = undef) (h97 : t.getD 97 undef = undef) :
    ∃ u : Nat → Value, (Act.mk t d) = { tmps := #[v0, v1, v2, v3, v4, v5, v6, v7, v8, v9, v10, v11, v12, u 13, u 14, u 15, u 16, u 17, u 18, u 19, u 20, u 21, u 22, u 23, u 24, u 25, u 26, u 27, u 28, u 29, u 30, u 31, u 32, u 33, u 34, u 35, u 36, u 37, u 38, u 39, u 40, u 41, u 42, u 43, u 44, u 45, u 46, u 47, u 48, u 49, u 50, u 51, u 52, u 53, u 54, u 55, u 56, u 57, u 58, u 59, u 60, u 61, u 62, u 63, u 64, u 65, u 66, u 67, u 68, u 69, u 70, u 71, u 72, u 73, u 74, u 75, u 76, u 77, u 78, u 79, u 80, u 81, u 82, u 83, u 84, u 85, u 86, u 87, u 88, u 89, u 90, u 91, u 92, u 93, undef, undef, undef, undef], defers := d } := by
  refine ⟨fun i => t.getD i undef, ?_⟩
  have e1 := arr_eq t 98 hs
  have e2 : ∀ f : Nat → Value, ((List.range 98).map f).toArray = #[f 0, f 1, f 2, f 3, f 4, f 5, f 6, f 7, f 8, f 9, f 10, f 11, f 12, f 13, f 14, f 15, f 16, f 17, f 18, f 19, f 20, f 21, f 22, f 23, f 24, f 25, f 26, f 27, f 28, f 29, f 30, f 31, f 32, f 33, f 34, f 35, f 36, f 37, f 38, f 39, f 40, f 41, f 42, f 43, f 44, f 45, f 46, f 47, f 48, f 49, f 50, f 51, f 52, f 53, f 54, f 55, f 56, f 57, f 58, f 59, f 60, f 61, f 62, f 63, f 64, f 65, f 66, f 67, f 68, f 69, f 70, f 71, f 72, f 73, f 74, f 75, f 76, f 77, f 78, f 79, f 80, f 81, f 82, f 83, f 84, f 85, f 86, f 87, f 88, f 89, f 90, f 91, f 92, f 93, f 94, f 95, f 96, f 97] := fun f => rfl
  rw [e2] at e1
  rw [h0, h1, h2, h3, h4, h5, h6, h7, h8, h9, h10, h11, h12, h94, h95, h96, h97] at e1
  rw [← e1]
structure RI (W wr : World) (G : List TyD) (cl : Nat → Nat) (gv cv : Value) (first : Nat × Nat) (N b7 b8 b9 ab gb pb k : Nat) (a : Nat × Nat) (st : SSt) (ms : List Nat) (p : List (Nat × Int × Int)) (qv : Value) : Prop where
 none' : (inRun (agB G) cl a p st).2 = none
 ti : TI W wr gv cv first first N N b7 b8 b9 (inRun (agB G) cl a p st).1.1 (inRun (agB G) cl a p st).1.2 qv ms
 at' : Boxed wr ab 3 (.int .i64 k)
 gb : Boxed wr gb 23 gv
 pbk : Blk wr pb [.int .i64 a.1, .int .i64 a.2] 64
 inv : SInv G first (inRun (agB G) cl a p st).1 none
 q : (inRun (agB G) cl a p st).1.2[k]? = some a
 pa : some pb ≠ qv.ownBlock
theorem RI.below {W wr w' : World} {G : List TyD} {cl : Nat → Nat} {gv cv qv : Value} {first a : Nat × Nat} {N b7 b8 b9 ab gb pb k : Nat} {st : SSt} {ms : List Nat} {p : List (Nat × Int × Int)} (h : RI W wr G cl gv cv first N b7 b8 b9 ab gb pb k a st ms p qv) (hb : Below wr.heap.size wr w') :
    RI W w' G cl gv cv first N b7 b8 b9 ab gb pb k a st ms p qv :=
  ⟨h.none', h.ti.below hb, (hb.block _ h.at'.lt).trans h.at', (hb.block _ h.gb.lt).trans h.gb, h.pbk.below hb h.pbk.lt, h.inv, h.q, h.pa⟩
theorem RI.put {W wr : World} {G : List TyD} {cl : Nat → Nat} {gv cv qv : Value} {first a : Nat × Nat} {N b7 b8 b9 ab gb pb k : Nat} {st : SSt} {ms : List Nat} {p : List (Nat × Int × Int)} (h : RI W wr G cl gv cv first N b7 b8 b9 ab gb pb k a st ms p qv) {l : Nat} {o : Obj} (o' : Obj) (hl : wr.heap[l]? = some o) (ho : o.isCells = false) (hlN : N < l) (hms : ∀ D ∈ ms, D < l) :
    RI W (wr.putObj l o') G cl gv cv first N b7 b8 b9 ab gb pb k a st ms p qv := by
  have hot : ∀ b x, wr.heap[b]? = some x → b ≠ l → (wr.putObj l o').heap[b]? = some x := fun b x hb hne => (World.putObj_heap_other (by omega)).trans hb
  refine ⟨h.none', h.ti.put o' hl ho hlN hms, hot _ _ h.at' ?_, hot _ _ h.gb ?_, hot _ _ h.pbk ?_, h.inv, h.q, h.pa⟩
  ·rintro rfl; rw [h.at'] at hl; cases hl; cases ho
  ·rintro rfl; rw [h.gb] at hl; cases hl; cases ho
  ·rintro rfl; have := h.pbk; unfold Blk at this; rw [this] at hl; cases hl; cases ho
theorem RI.of {W wr : World} {G : List TyD} {cl : Nat → Nat} {gv cv qv : Value} {first a : Nat × Nat} {N b7 b8 b9 ab gb pb k : Nat} {st s : SSt} {ms : List Nat} {p : List (Nat × Int × Int)} (h : inRun (agB G) cl a p st = (s, none)) (ti : TI W wr gv cv first first N N b7 b8 b9 s.1 s.2 qv ms) (at' : Boxed wr ab 3 (.int .i64 k))
    (gb' : Boxed wr gb 23 gv) (pb' : Blk wr pb [.int .i64 a.1, .int .i64 a.2] 64) (inv : SInv G first s none) (q : s.2[k]? = some a) (pa : some pb ≠ qv.ownBlock) : RI W wr G cl gv cv first N b7 b8 b9 ab gb pb k a st ms p qv :=
  ⟨by rw [h], by rw [h]; exact ti, at', gb', pb', by rw [h]; exact inv, by rw [h]; exact q, pa⟩
theorem info64 : (Tryz.prog.info? 64).map (fun i => (i.zero, i.size, i.bytes)) = some (some (.agg #[.int .i64 0, .int .i64 0]), 2, 16) := by kernel_rfl
theorem keepsFrom_below {B : Nat} {w w' : World} (h : Below w.heap.size w w') : KeepsFrom B w w' := ⟨h.size, fun k _ _ h0 _ => (h.block k (Array.getElem?_eq_some_iff.1 h0).1).trans h0⟩
set_option maxRecDepth 100000 in
set_option maxHeartbeats 16000000 in
theorem tellApart_any (o : Option Addr) (cap : Nat) (G : List TyD) (cg ccap : Nat) (cl : Nat → Nat) (first : Nat × Nat) (W : World) (hG : GrAt W (.slice o G.length cap) G) (hlen : G.length ≤ 410) (hR : ∀ t ∈ G, (refsOf t).length ≤ 100000) (hz : ∀ t ∈ G, ∀ x ∈ refsOf t, 0 ≤ x ∧ x < G.length)
    (hcl : ∀ q, q < G.length → W.cell? ⟨cg, q, none⟩ = some (.int .i64 (cl q))) (h1 : first.1 < G.length) (h2 : first.2 < G.length) (hag : ∀ p : Nat × Nat, p.1 < G.length → p.2 < G.length → agB G p = true → (refsOf (G.getD p.1 default)).length ≤ (refsOf (G.getD p.2 default)).length) :
    Calls Tryz.prog 68 #[.slice o G.length cap, .slice (some ⟨cg, 0, none⟩) G.length ccap, prV first] W fun e w' => ∃ v, e = .returned v ∧ w'.ownsRow W.heap.size 3 1 v (tellL G cl first).length ((tellL G cl first).map (.int .i64)) ∧ Below W.heap.size W w' := by
  refine (callsIn_wide (n := 2)).1 ?_
  refine callsIn_of_wp_marks Tryz.func68 rfl trivial ?_ rfl
  unfold prV pairV
  simp only [Tryz.ntmps68, List.size_toArray, List.length_cons, List.length_nil, Nat.reduceAdd, Nat.reduceSub, Array.replicate_succ, Array.replicate_zero, List.push_toArray, List.append_toArray, List.nil_append, List.cons_append]
  obtain ⟨b, off, u1, u2, u3, rfl, gl1, hc1⟩ := hG.cells h1
  obtain ⟨b', off', v1, v2, v3, e', gl2, hc2⟩ := hG.cells h2
  cases e'
  have i1 : (first.1 : Int) < G.length := by omega
  have i2 : (first.2 : Int) < G.length := by omega
  gi_wp2
  have hb0 : Below W.heap.size W (((W.alloc (.cells #[.slice (some ⟨b, off, none⟩) G.length cap] 23)).alloc (.cells #[.slice (some ⟨cg, 0, none⟩) G.length ccap] 37)).alloc (.cells #[.int .i64 first.1, .int .i64 first.2] 64)) :=
   (((Below.refl _ _).alloc (Nat.le_refl _) _).alloc (by simp) _).alloc (by simp; omega) _
  have g0 := ((Boxed.new W 23 (.slice (some ⟨b, off, none⟩) G.length cap)).alloc (.cells #[.slice (some ⟨cg, 0, none⟩) G.length ccap] 37)).alloc (.cells #[.int .i64 first.1, .int .i64 first.2] 64)
  have c0 := (Boxed.new (W.alloc (.cells #[.slice (some ⟨b, off, none⟩) G.length cap] 23)) 37 (.slice (some ⟨cg, 0, none⟩) G.length ccap)).alloc (.cells #[.int .i64 first.1, .int .i64 first.2] 64)
  have f0 := Blk.new ((W.alloc (.cells #[.slice (some ⟨b, off, none⟩) G.length cap] 23)).alloc (.cells #[.slice (some ⟨cg, 0, none⟩) G.length ccap] 37)) [.int .i64 first.1, .int .i64 first.2] 64
  rw [World.size_alloc] at c0
  rw [World.size_alloc, World.size_alloc] at f0
  change Blk (((W.alloc (.cells #[.slice (some ⟨b, off, none⟩) G.length cap] 23)).alloc (.cells #[.slice (some ⟨cg, 0, none⟩) G.length ccap] 37)).alloc (.cells #[.int .i64 first.1, .int .i64 first.2] 64)) _ _ _ at f0
  have hs0 : (((W.alloc (.cells #[.slice (some ⟨b, off, none⟩) G.length cap] 23)).alloc (.cells #[.slice (some ⟨cg, 0, none⟩) G.length ccap] 37)).alloc (.cells #[.int .i64 first.1, .int .i64 first.2] 64)).heap.size = W.heap.size + 3 := by simp
  generalize ((W.alloc (.cells #[.slice (some ⟨b, off, none⟩) G.length cap] 23)).alloc (.cells #[.slice (some ⟨cg, 0, none⟩) G.length ccap] 37)).alloc (.cells #[.int .i64 first.1, .int .i64 first.2] 64) = W0 at hb0 g0 c0 f0 hs0 ⊢
  have hA := hide (fun W' (hb : Below W0.heap.size W0 W') => agree_any G[first.1] G[first.2] u1 u2 u3 v1 v2 v3 W' (gl1.go (.below (hb0.trans (hb.mono hb0.size)))) (gl2.go (.below (hb0.trans (hb.mono hb0.size)))))
  have hK1 : ∀ W', Below W0.heap.size W0 W' → ∀ j u, (tyC G[first.1] u1 u2 u3)[j]? = some u → W'.cell? ⟨b, off + first.1 * 10 + j, none⟩ = some u := fun W' hb => hc1 W' (.below (hb0.trans (hb.mono hb0.size)))
  have hK2 : ∀ W', Below W0.heap.size W0 W' → ∀ j u, (tyC G[first.2] v1 v2 v3)[j]? = some u → W'.cell? ⟨b, off + first.2 * 10 + j, none⟩ = some u := fun W' hb => hc2 W' (.below (hb0.trans (hb.mono hb0.size)))
  have hGb : ∀ W', Below W0.heap.size W0 W' → W'.cell? ⟨W.heap.size, 0, none⟩ = some (.slice (some ⟨b, off, none⟩) G.length cap) := fun W' hb => Boxed.cell ((hb.block _ g0.lt).trans g0)
  have hP0 : ∀ W', Below W0.heap.size W0 W' → W'.cell? ⟨W.heap.size + 1 + 1, 0, none⟩ = some (.int .i64 first.1) := fun W' hb => by have := (f0.below hb f0.lt).cell 0; simpa using this
  have hP1 : ∀ W', Below W0.heap.size W0 W' → W'.cell? ⟨W.heap.size + 1 + 1, 1, none⟩ = some (.int .i64 first.2) := fun W' hb => by have := (f0.below hb f0.lt).cell 1; simpa using this
  have hagd : agB G first = agreeB G[first.1] G[first.2] := by unfold agB; simp [List.getD_eq_getElem?_getD, h1, h2]
  obtain ⟨bx, hbx⟩ : ∃ bx, agreeB G[first.1] G[first.2] = bx := ⟨_, rfl⟩
  rw [hbx] at hA hagd
  clear hbx
  generalize hgi : G[first.1] = t1 at hA hK1
  generalize hgj : G[first.2] = t2 at hA hK2
  have HS0 := Lib.hid hs0
  clear hgi hgj hc1 hc2 gl1 gl2 hs0
  refine wpIn_wide.2 ?_
  go_step3
  refine (wpIn_wide (n := 2)).1 ?_
  refine wpIn_seq ?_
  refine wpIn_seq ?_
  refine wpIn_wide.2 ?_
  refine wp_region_quiet (C := fun w' => Below W0.heap.size W0 w') (by kernel_rfl) (by kernel_rfl) (below_drewN' (Below.refl _ _) 1) ?_
  simp only []
  repeat (first
  | go_big_quiet_skip
  | (go_big_quiet_want; go_big_quiet_op; first
    | go_big_quiet_on
    | (refine ⟨_, fun _ _ => rfl, ?_⟩; go_big_quiet_on)
    | (refine ⟨.slice (some ⟨b, off, none⟩) G.length cap, ?_, ?_⟩
       ·intro w1 hb
        have e := hGb w1 hb
        simp [e, go_sem]
        done
       go_big_quiet_on)
    | (refine ⟨.int .i64 first.1, ?_, ?_⟩
       ·intro w1 hb
        have e := hP0 w1 hb
        simp [e, go_sem]
        done
       go_big_quiet_on)
    | (refine ⟨.int .i64 first.2, ?_, ?_⟩
       ·intro w1 hb
        have e := hP1 w1 hb
        simp [e, go_sem]
        done
       go_big_quiet_on)
    | (refine ⟨tyVal t1 u1 u2 u3, ?_, ?_⟩
       ·intro w1 hb
        have e0 := hK1 w1 hb 0 _ rfl
        have e1 := hK1 w1 hb 1 _ rfl
        have e2 := hK1 w1 hb 2 _ rfl
        have e3 := hK1 w1 hb 3 _ rfl
        have e4 := hK1 w1 hb 4 _ rfl
        have e5 := hK1 w1 hb 5 _ rfl
        have e6 := hK1 w1 hb 6 _ rfl
        have e7 := hK1 w1 hb 7 _ rfl
        have e8 := hK1 w1 hb 8 _ rfl
        have e9 := hK1 w1 hb 9 _ rfl
        rw [Nat.add_zero] at e0
        simp [e0, e1, e2, e3, e4, e5, e6, e7, e8, e9, tyVal, go_sem]
        done
       go_big_quiet_on)
    | (refine ⟨tyVal t2 v1 v2 v3, ?_, ?_⟩
       ·intro w1 hb
        have e0 := hK2 w1 hb 0 _ rfl
        have e1 := hK2 w1 hb 1 _ rfl
        have e2 := hK2 w1 hb 2 _ rfl
        have e3 := hK2 w1 hb 3 _ rfl
        have e4 := hK2 w1 hb 4 _ rfl
        have e5 := hK2 w1 hb 5 _ rfl
        have e6 := hK2 w1 hb 6 _ rfl
        have e7 := hK2 w1 hb 7 _ rfl
        have e8 := hK2 w1 hb 8 _ rfl
        have e9 := hK2 w1 hb 9 _ rfl
        rw [Nat.add_zero] at e0
        simp [e0, e1, e2, e3, e4, e5, e6, e7, e8, e9, tyVal, go_sem]
        done
       go_big_quiet_on)
    | (apply Exists.intro
       refine ⟨fun w1 hb => ?_, ?_⟩
       ·with_reducible refine (unhide hA w1 hb).mono ?_
        rintro e w2 ⟨rfl, hb2⟩
        exact ⟨rfl, hb.trans (hb2.mono hb.size)⟩
       go_big_quiet_on)))
  refine wpQuiet_nil ?_
  rintro w1 hb1
  have hbel1 : Below W.heap.size W w1 := hb0.trans (hb1.mono hb0.size)
  cases bx
  ·gi_wp2
   rw [Exit.noGoto_ret]
   refine ⟨_, results_tmp rfl _ _ _, _, rfl, ?_, hbel1⟩
   have ht : tellL G cl first = [] := by unfold tellL; rw [hagd]; rfl
   rw [ht]
   exact World.ownsRow_nil _ _ _ _
  have g1 : Boxed w1 W.heap.size 23 _ := (hb1.block _ g0.lt).trans g0
  have c1 : Boxed w1 (W.heap.size + 1) 37 _ := (hb1.block _ c0.lt).trans c0
  have f1 := f0.below hb1 f0.lt
  have hN : W.heap.size + 3 ≤ w1.heap.size := by rw [← HS0.out]; exact hb1.size
  clear hA hK1 hK2 hGb hP0 hP1 g0 c0 f0 hb0 hb1 HS0
  obtain ⟨kl, hkl⟩ := key_pr (p := first) (by omega) (by omega)
  obtain ⟨w2, hrun, hM2, hg2⟩ := (AMap.made w1 64 prV).update law64 prV_inj Tryz.underlying142 hkl (strideV ((0, 0), 0))
  have hrun2 : (Instr.mapUpdate 142 (.map (some w1.heap.size)) (.agg #[.int .i64 first.1, .int .i64 first.2]) (.agg #[.int .i64 0, .int .i64 0, .int .i64 0])).run Tryz.prog (w1.alloc (.map #[] 0)) = .ok () w2 := hrun
  have hmm := @run_makeMap Tryz.prog
  have hbz := fun w => build141z w
  have fA := f1.alloc (.map #[] 0)
  have hp0 : (w1.alloc (.map #[] 0)).cell? ⟨W.heap.size + 1 + 1, 0, none⟩ = some (.int .i64 first.1) := fA.cell 0
  have hp1 : (w1.alloc (.map #[] 0)).cell? ⟨W.heap.size + 1 + 1, 1, none⟩ = some (.int .i64 first.2) := fA.cell 1
  have f2 := fA.kept hg2 (by simp; omega)
  have g2 := (g1.alloc (.map #[] 0)).kept hg2 (by simp; omega)
  have c2 := (c1.alloc (.map #[] 0)).kept hg2 (by simp; omega)
  have hbel2 : Below W.heap.size W w2 := (hbel1.alloc hbel1.size (.map #[] 0)).grown hg2 (by simp; omega) (fun j e => by cases e; omega)
  have hsz2 : w1.heap.size + 1 ≤ w2.heap.size := by have := hg2.size; simpa using this
  have hq0 : ∀ o1, (w2.alloc o1).cell? ⟨W.heap.size + 1 + 1, 0, none⟩ = some (.int .i64 first.1) := fun o1 => (f2.alloc o1).cell 0
  have hq1 : ∀ o1, (w2.alloc o1).cell? ⟨W.heap.size + 1 + 1, 1, none⟩ = some (.int .i64 first.2) := fun o1 => (f2.alloc o1).cell 1
  have hr0 : ∀ o1 o2 o3, (((w2.alloc o1).alloc o2).alloc o3).cell? ⟨W.heap.size + 1 + 1, 0, none⟩ = some (.int .i64 first.1) := fun o1 o2 o3 => (((f2.alloc o1).alloc o2).alloc o3).cell 0
  have hr1 : ∀ o1 o2 o3, (((w2.alloc o1).alloc o2).alloc o3).cell? ⟨W.heap.size + 1 + 1, 1, none⟩ = some (.int .i64 first.2) := fun o1 o2 o3 => (((f2.alloc o1).alloc o2).alloc o3).cell 1
  have HSZ := Lib.hid hsz2
  clear hrun hsz2
  gi_wp2
  have hTI : TI W ((((w2.alloc (.cells #[.map (some w1.heap.size)] 142)).alloc (.cells #[.int .i64 first.1, .int .i64 first.2] 64)).alloc (.cells #[.slice (some ⟨w2.heap.size + 1, 0, none⟩) 1 1] 33)).alloc (.cells #[.int .i64 first.1, .int .i64 first.2] 64)) (.slice (some ⟨b, off, none⟩) G.length cap) (.slice (some ⟨cg, 0, none⟩) G.length ccap) first first w1.heap.size w1.heap.size w2.heap.size (w2.heap.size + 1 + 1) (w2.heap.size + 1 + 1 + 1) [(first, (0, 0), 0)] [first] (.slice (some ⟨w2.heap.size + 1, 0, none⟩) 1 1) [] := by
   have hb4 : Below w2.heap.size w2 ((((w2.alloc (.cells #[.map (some w1.heap.size)] 142)).alloc (.cells #[.int .i64 first.1, .int .i64 first.2] 64)).alloc (.cells #[.slice (some ⟨w2.heap.size + 1, 0, none⟩) 1 1] 33)).alloc (.cells #[.int .i64 first.1, .int .i64 first.2] 64)) := ((((Below.refl _ _).alloc (Nat.le_refl _) _).alloc (by simp) _).alloc (by simp; omega) _).alloc (by simp; omega) _
   have hsz := HSZ.out
   refine ⟨hbel2.trans (hb4.mono hbel2.size), hN, ⟨Nat.le_refl _, by omega, by omega, by omega⟩, (hb4.block _ g2.lt).trans g2, (hb4.block _ c2.lt).trans c2, f2.below hb4 f2.lt, ?_, hM2.below hb4 hM2.lt, ?_, ?_, ?_, Open'.nil _ _, by simp [Value.ownBlock]; omega⟩
   ·exact (((Boxed.new w2 142 (.map (some w1.heap.size))).alloc _).alloc _).alloc _
   ·have := (Boxed.new ((w2.alloc (.cells #[.map (some w1.heap.size)] 142)).alloc (.cells #[.int .i64 first.1, .int .i64 first.2] 64)) 33 (.slice (some ⟨w2.heap.size + 1, 0, none⟩) 1 1)).alloc (.cells #[.int .i64 first.1, .int .i64 first.2] 64)
    simpa using this
   ·have h1 := ((Blk.new (w2.alloc (.cells #[.map (some w1.heap.size)] 142)) [.int .i64 first.1, .int .i64 first.2] 64).alloc (.cells #[.slice (some ⟨w2.heap.size + 1, 0, none⟩) 1 1] 33)).alloc (.cells #[.int .i64 first.1, .int .i64 first.2] 64)
    rw [World.size_alloc] at h1
    exact ⟨rfl, .inr ⟨_, 1, _, rfl, by omega, h1, Nat.le_refl _, by decide, rfl, rfl⟩⟩
   ·have := Blk.new (((w2.alloc (.cells #[.map (some w1.heap.size)] 142)).alloc (.cells #[.int .i64 first.1, .int .i64 first.2] 64)).alloc (.cells #[.slice (some ⟨w2.heap.size + 1, 0, none⟩) 1 1] 33)) [.int .i64 first.1, .int .i64 first.2] 64
    simpa using this
  generalize ((((w2.alloc (.cells #[.map (some w1.heap.size)] 142)).alloc (.cells #[.int .i64 first.1, .int .i64 first.2] 64)).alloc (.cells #[.slice (some ⟨w2.heap.size + 1, 0, none⟩) 1 1] 33)).alloc (.cells #[.int .i64 first.1, .int .i64 first.2] 64)) = W3 at hTI ⊢
  generalize w2.heap.size = b7 at hTI ⊢
  generalize b7 + 1 + 1 + 1 = b9 at hTI ⊢
  generalize b7 + 1 + 1 = b8 at hTI ⊢
  generalize w1.heap.size = N at hTI ⊢
  refine wpIn_label ?_
  gi_wp2
  have hT4 := hTI.below ((Below.refl _ _).alloc (Nat.le_refl _) (.cells #[.int .i64 0] 3))
  have hAb4 := Boxed.new W3 3 (.int .i64 0)
  have hS0 := SInv.start h1 h2 hagd
  obtain ⟨R, hR0⟩ : ∃ R, outRun (agB G) cl (besG G) (G.length * G.length + 1) 0 ([(first, (0, 0), 0)], [first]) = R := ⟨_, rfl⟩
  have ht : tellL G cl first = wayL R.1 first (R.2.getD first) := by unfold tellL; rw [hagd, if_pos rfl, hR0]
  have HT := Lib.hid ht
  clear ht hTI hmm hbz
  refine wpIn_loop (fun a' wr => ∃ (ms : List Nat) (st : SSt) (qv : Value) (ab : Nat),
   (SInv G first st none ∧ TI W wr (.slice (some ⟨b, off, none⟩) G.length cap) (.slice (some ⟨cg, 0, none⟩) G.length ccap) first first N N b7 b8 b9 st.1 st.2 qv ms ∧ Boxed wr ab 3 (.int .i64 ms.length) ∧ ms.length ≤ st.2.length ∧ outRun (agB G) cl (besG G) (G.length * G.length + 1 - ms.length) ms.length st = R) ∧
   ∃ u : Nat → Value, a' = { tmps := #[.slice (some ⟨b, off, none⟩) G.length cap, .slice (some ⟨cg, 0, none⟩) G.length ccap, .agg #[.int .i64 first.1, .int .i64 first.2], .pointer (some ⟨W.heap.size, 0, none⟩), .pointer (some ⟨W.heap.size + 1, 0, none⟩), .pointer (some ⟨W.heap.size + 1 + 1, 0, none⟩), .slice none 0 0, .pointer (some ⟨b7, 0, none⟩), .pointer (some ⟨b8, 0, none⟩), .pointer (some ⟨b9, 0, none⟩), .pointer (some ⟨ab, 0, none⟩), u 11, u 12, u 13, u 14, u 15, u 16, u 17, u 18, u 19, u 20, u 21, u 22, u 23, u 24, u 25, u 26, u 27, u 28, u 29, u 30, u 31, u 32, u 33, u 34, u 35, u 36, u 37, u 38, u 39, u 40, u 41, u 42, u 43, u 44, u 45, u 46, u 47, u 48, u 49, u 50, u 51, u 52, u 53, u 54, u 55, u 56, u 57, u 58, u 59, u 60, u 61, u 62, u 63, u 64, u 65, u 66, u 67, u 68, u 69, u 70, u 71, u 72, u 73, u 74, u 75, u 76, u 77, u 78, u 79, u 80, u 81, u 82, u 83, u 84, u 85, u 86, u 87, u 88, u 89, u 90, u 91, u 92, u 93, undef, undef, undef, undef], defers := marks ms }) (fun a' _ => G.length * G.length - a'.defers.length) ?start ?round
  case start => exact ⟨[], ([(first, (0, 0), 0)], [first]), .slice (some ⟨b7 + 1, 0, none⟩) 1 1, W3.heap.size, ⟨hS0, hT4, hAb4, Nat.zero_le _, hR0⟩, pack98 _ _ rfl _ _ _ _ _ _ _ _ _ _ _ rfl rfl rfl rfl rfl rfl rfl rfl rfl rfl rfl rfl rfl rfl rfl⟩
  case round =>
   clear hT4 hAb4 hS0 hR0
   rintro a' wr ⟨ms, st, qv, ab, ⟨hS, hT, hAb, hle, hout⟩, u, rfl⟩
   obtain ⟨oq, cq, rfl⟩ := row_form hT.row
   have ca := hAb.cell
   have cq8 := hT.qb.cell
   have cf0 : wr.cell? ⟨W.heap.size + 1 + 1, 0, none⟩ = some (.int .i64 first.1) := hT.f.cell 0
   have cf1 : wr.cell? ⟨W.heap.size + 1 + 1, 1, none⟩ = some (.int .i64 first.2) := hT.f.cell 1
   have hsq : G.length * G.length ≤ 200000 := Nat.le_trans (Nat.mul_le_mul hlen hlen) (by decide)
   by_cases hlt : ms.length < st.2.length
   ·have hlt' : (ms.length : Int) < st.2.length := by omega
    obtain ⟨gq, rfl, -, cQ0, cQ1⟩ := row2_cell hT.row ms.length hlt
    have hcgc := hT.g.cell
    obtain ⟨a, ha⟩ : ∃ a, st.2[ms.length] = a := ⟨_, rfl⟩
    rw [ha] at cQ0 cQ1
    have hak : st.2[ms.length]? = some a := by rw [List.getElem?_eq_getElem hlt, ha]
    have HBS := hide (fun w => besides_any (some ⟨b, off, none⟩) G.length cap a.1 a.2 w)
    unfold pairV at HBS
    gi_wp2
    refine wpIn_wide.2 ?_
    refine region_tail 5 (by kernel_rfl) (by kernel_rfl) ?_
    simp only [List.take_succ_cons, List.take_zero, List.drop_succ_cons, List.drop_zero]
    repeat (go_big_quiet_step (fail))
    refine wpQuiet_nil ?_
    rintro _ ⟨nq, rfl⟩
    go_wp2_with (go_at_call 111; refine (unhide HBS _).mono ?_; rintro e w5 ⟨rfl, rfl⟩)
    have hbw : Below wr.heap.size wr (((wr.drewN nq).alloc (.cells #[.slice (some ⟨b, off, none⟩) G.length cap] 23)).alloc (.cells #[.int .i64 a.1, .int .i64 a.2] 64)) := ((below_drewN' (Below.refl _ _) nq).alloc (Nat.le_refl _) _).alloc (by simp) _
    have hT5 := hT.below hbw
    have hA5 : Boxed _ ab 3 _ := (hbw.block _ hAb.lt).trans hAb
    have bgb := (Boxed.new (wr.drewN nq) 23 (.slice (some ⟨b, off, none⟩) G.length cap)).alloc (.cells #[.int .i64 a.1, .int .i64 a.2] 64)
    have bpb := Blk.new ((wr.drewN nq).alloc (.cells #[.slice (some ⟨b, off, none⟩) G.length cap] 23)) [.int .i64 a.1, .int .i64 a.2] 64
    rw [World.size_alloc] at bpb
    have hDlt : ∀ D ∈ ms, D < wr.heap.size := fun D hD => (Array.getElem?_eq_some_iff.1 (hT.op.at' D hD)).1
    have hNlt := hT.mp.lt
    have h9lt := hT.lb.lt
    have h8lt := hT.qb.lt
    have hw5 := hbw.size
    have hab : a.1 < G.length ∧ a.2 < G.length := by
     have hkeys : st.1.map (·.1) = st.2 := by have := hS.keys; simpa using this
     have : a ∈ st.1.map (·.1) := by rw [hkeys]; exact List.mem_of_getElem? hak
     obtain ⟨c, hc, rfl⟩ := List.mem_map.1 this
     exact hS.bnd c hc
    have hR0 : RI W (((wr.drewN nq).alloc (.cells #[.slice (some ⟨b, off, none⟩) G.length cap] 23)).alloc (.cells #[.int .i64 a.1, .int .i64 a.2] 64)) G cl (.slice (some ⟨b, off, none⟩) G.length cap) (.slice (some ⟨cg, 0, none⟩) G.length ccap) first N b7 b8 b9 ab wr.heap.size (wr.heap.size + 1) ms.length a st ms [] _ := ⟨rfl, hT5, hA5, bgb, bpb, hS, hak, fun e => by have := (hT.row.lt _ e.symm).2; omega⟩
    have hgd1 : G.getD a.1 default = G[a.1]'hab.1 := by simp [List.getD_eq_getElem?_getD, hab.1]
    have hgd2 : G.getD a.2 default = G[a.2]'hab.2 := by simp [List.getD_eq_getElem?_getD, hab.2]
    have hAB := hag a hab.1 hab.2 (hS.ag a (List.mem_of_getElem? hak))
    have hLe : besG G a = besL (refsOf (G[a.1]'hab.1)) (refsOf (G[a.2]'hab.2)) := by unfold besG; rw [hgd1, hgd2]
    rw [hgd1, hgd2] at hAB
    have HIN := hide (fun (l : Nat) (J Jx : List (Nat × Int × Int) → World → Prop) hJ hJb hY W' h0 => besides_in l wr.heap.size (wr.heap.size + 1) (.slice (some ⟨b, off, none⟩) G.length cap) G a.1 a.2 hab.1 hab.2 hAB (hR _ (List.getElem_mem hab.2)) J Jx hJ hJb hY W' h0)
    rw [← hLe] at HIN
    clear hT5 hA5 bgb bpb hgd1 hgd2 hAB hLe hcgc ca cq8 cQ0 cQ1 cf0 cf1 HBS
    generalize ((wr.drewN nq).alloc (.cells #[.slice (some ⟨b, off, none⟩) G.length cap] 23)).alloc (.cells #[.int .i64 a.1, .int .i64 a.2] 64) = w5 at hbw hw5 hR0 ⊢
    refine wpIn_block ?_
    refine wpIn_rangeGivesX (gf := 160) (lb := #[.pointer (some ⟨wr.heap.size, 0, none⟩), .pointer (some ⟨wr.heap.size + 1, 0, none⟩)]) besV (besG G a) (by simp [go_sem]) (enters_of Tryz.func160 (by kernel_rfl) rfl) (fun _ => rfl)
     KInts (fun _ _ _ h k => h.trans k) (fun W l _ o' _ hl ho => KInts.put o' hl ho)
     (fun p W' => ∃ qv, RI W W' G cl (.slice (some ⟨b, off, none⟩) G.length cap) (.slice (some ⟨cg, 0, none⟩) G.length ccap) first N b7 b8 b9 ab wr.heap.size (wr.heap.size + 1) ms.length a st ms p qv)
     (fun c p W' => c = .exit 0 ∧ ∃ qv nx st', inRun (agB G) cl a p st = (st', some nx) ∧ SInv G first st' (some nx) ∧ TI W W' (.slice (some ⟨b, off, none⟩) G.length cap) (.slice (some ⟨cg, 0, none⟩) G.length ccap) first nx N N b7 b8 b9 st'.1 st'.2 qv ms)
     ⟨_, hR0⟩ ?it ?ib ?ip ?ix
     (fun x a' W' => ∃ nb, Blk W' nb [.int .i64 x.2.1, .int .i64 x.2.2] 64 ∧ ∃ u : Nat → Value, a' = { tmps := #[.slice (some ⟨b, off, none⟩) G.length cap, .slice (some ⟨cg, 0, none⟩) G.length ccap, .agg #[.int .i64 first.1, .int .i64 first.2], .pointer (some ⟨W.heap.size, 0, none⟩), .pointer (some ⟨W.heap.size + 1, 0, none⟩), .pointer (some ⟨W.heap.size + 1 + 1, 0, none⟩), .slice none 0 0, .pointer (some ⟨b7, 0, none⟩), .pointer (some ⟨b8, 0, none⟩), .pointer (some ⟨b9, 0, none⟩), .pointer (some ⟨ab, 0, none⟩), .int .i64 x.1, .pointer (some ⟨nb, 0, none⟩), u 13, u 14, u 15, u 16, u 17, u 18, u 19, u 20, u 21, u 22, u 23, u 24, u 25, u 26, u 27, u 28, u 29, u 30, u 31, u 32, u 33, u 34, u 35, u 36, u 37, u 38, u 39, u 40, u 41, u 42, u 43, u 44, u 45, u 46, u 47, u 48, u 49, u 50, u 51, u 52, u 53, u 54, u 55, u 56, u 57, u 58, u 59, u 60, u 61, u 62, u 63, u 64, u 65, u 66, u 67, u 68, u 69, u 70, u 71, u 72, u 73, u 74, u 75, u 76, u 77, u 78, u 79, u 80, u 81, u 82, u 83, u 84, u 85, u 86, u 87, u 88, u 89, u 90, u 91, u 92, u 93, undef, undef, undef, undef], defers := [] })
     ?ax ?assign ?body ?done ?stop
    case it =>
     intro l J Jx hJI hJb hY W' h0
     refine unhide HIN l J Jx (fun p W' h => ?_) hJb hY W' h0
     obtain ⟨qv, hr⟩ := hJI p W' h
     exact ⟨hr.gb.cell, hr.pbk.cell 0, hr.pbk.cell 1, hG.below hr.ti.bel⟩
    case ib =>
     rintro p W1 W2 ⟨qv, hr⟩ hb
     exact ⟨qv, hr.below hb⟩
    case ip =>
     rintro p W1 l o o' ⟨qv, hr⟩ hl ho hoc
     exact ⟨qv, hr.put o' ho hoc (by omega) (fun D hD => by have := hDlt D hD; omega)⟩
    case ix =>
     rintro c p W1 l o o' ⟨rfl, qv, nx, st', h1', h2', h3'⟩ hl ho hoc
     exact ⟨rfl, qv, nx, st', h1', h2', h3'.put o' ho hoc (by omega) (fun D hD => by have := hDlt D hD; omega)⟩
    case ax =>
     rintro x a' W1 l o o' ⟨nb, hnb, hu⟩ hl ho hoc
     refine ⟨nb, ?_, hu⟩
     have hne : nb ≠ l := by
      rintro rfl; unfold Blk at hnb; rw [hnb] at ho; cases ho; cases hoc
     exact (World.putObj_heap_other (by omega)).trans hnb
    case assign =>
     rintro l pre x W1 K hpx ⟨qv, hr⟩ hK
     unfold besV pairV
     gi_wp2
     refine hK _ _ ((Below.refl _ _).alloc (Nat.le_refl _) _) (KInts.below ((Below.refl _ _).alloc (Nat.le_refl _) _)) ⟨qv, hr.below ((Below.refl _ _).alloc (Nat.le_refl _) _)⟩ ⟨W1.heap.size, Blk.new W1 _ 64, pack98b _ _ rfl _ _ _ _ _ _ _ _ _ _ _ _ _ rfl rfl rfl rfl rfl rfl rfl rfl rfl rfl rfl rfl rfl rfl rfl rfl rfl⟩
    case body =>
     rintro l pre x a' W1 hpx ⟨qv, hr⟩ ⟨nb, hnb, u', rfl⟩
     obtain ⟨x0, x1, x2⟩ := x
     have hxm : (x0, x1, x2) ∈ besG G a := hpx.subset (by simp)
     have hxr : (0 ≤ x1 ∧ x1 < G.length) ∧ (0 ≤ x2 ∧ x2 < G.length) := by
      obtain ⟨m1, m2⟩ := besL_mem hxm
      rw [show G.getD a.1 default = G[a.1]'hab.1 by simp [List.getD_eq_getElem?_getD, hab.1]] at m1
      rw [show G.getD a.2 default = G[a.2]'hab.2 by simp [List.getD_eq_getElem?_getD, hab.2]] at m2
      exact ⟨hz _ (List.getElem_mem hab.1) _ m1, hz _ (List.getElem_mem hab.2) _ m2⟩
     obtain ⟨⟨h10, h11⟩, h20, h21⟩ := hxr
     obtain ⟨i, rfl⟩ := Int.eq_ofNat_of_zero_le h10
     obtain ⟨j, rfl⟩ := Int.eq_ofNat_of_zero_le h20
     have hi : i < G.length := by omega
     have hj : j < G.length := by omega
     have hnx : nxP (x0, (i : Int), (j : Int)) = (i, j) := rfl
     have hpre : inRun (agB G) cl a pre st = ((inRun (agB G) cl a pre st).1, none) := Prod.ext rfl hr.none'
     have hsnoc := inRun_snoc (x := (x0, (i : Int), (j : Int))) hpre
     have hstep := SInv.step (cl := cl) hr.inv (x0, (i : Int), (j : Int)) ⟨hi, hj⟩ ⟨_, hr.q⟩
     obtain ⟨qv, rfl⟩ : ∃ q, qv = q := ⟨_, rfl⟩
     obtain ⟨oq1, cq1, rfl⟩ := row_form hr.ti.row
     obtain ⟨st1, hst1⟩ : ∃ s, (inRun (agB G) cl a pre st).1 = s := ⟨_, rfl⟩
     have hTb := hr.ti
     have hqk := hr.q
     have hpa0 := hr.pa
     rw [hst1] at hsnoc hstep hTb hqk hpa0
     have c7 := hTb.mb.cell
     have hn0 : W1.cell? ⟨nb, 0, none⟩ = some (.int .i64 (i : Int)) := hnb.cell 0
     have hn1 : W1.cell? ⟨nb, 1, none⟩ = some (.int .i64 (j : Int)) := hnb.cell 1
     obtain ⟨kl2, hkl2⟩ := key_pr (p := (i, j)) (by simp; omega) (by simp; omega)
     have hlook := hTb.mp.lookup law64 prV_inj Tryz.underlying142 (Tryz.zeroValue141 W1) true hkl2
     have hmx : Tryz.prog.follows .mixedOrders = true := by kernel_rfl
     dsimp only [Int.ofNat_eq_natCast]
     have hcont : ∀ W' : World, Below W1.heap.size W1 W' → inStep (agB G) cl a st1 (x0, (i : Int), (j : Int)) = (st1, none) → xPost w5.heap.size KInts (fun p W' => ∃ qv, RI W W' G cl (.slice (some ⟨b, off, none⟩) G.length cap) (.slice (some ⟨cg, 0, none⟩) G.length ccap) first N b7 b8 b9 ab wr.heap.size (wr.heap.size + 1) ms.length a st ms p qv)
         (fun c p W' => c = .exit 0 ∧ ∃ qv nx st', inRun (agB G) cl a p st = (st', some nx) ∧ SInv G first st' (some nx) ∧ TI W W' (.slice (some ⟨b, off, none⟩) G.length cap) (.slice (some ⟨cg, 0, none⟩) G.length ccap) first nx N N b7 b8 b9 st'.1 st'.2 qv ms) (pre ++ [(x0, (i : Int), (j : Int))]) W1 .normal W' := by
       intro W' hb hst
       rw [hst] at hsnoc
       have hr' := hr.below hb
       rw [hst] at hstep
       exact ⟨keepsFrom_below hb, KInts.below hb, _, RI.of hsnoc (hTb.below hb) hr'.at' hr'.gb hr'.pbk hstep.1 hqk hpa0⟩
     have HCT := hide hcont
     clear hcont
     by_cases hin : (i, j) ∈ st1.1.map (·.1)
     ·
      obtain ⟨s, hs⟩ : ∃ s, lookA (cameA st1.1) (i, j) = some (strideV s) := by
       obtain ⟨c, hc, he⟩ := List.mem_map.1 hin
       obtain ⟨m, hm, rfl⟩ := List.mem_iff_getElem.1 hc
       have hnd : (st1.1.map (·.1)).Nodup := by have := hTb.mp.nodup; rwa [came_keys] at this
       rw [← he]
       exact ⟨_, lookA_came hnd hm⟩
      rw [hs] at hlook
      simp only [Option.getD_some, Option.isSome_some, if_true] at hlook
      unfold prV pairV strideV at hlook
      have hst : inStep (agB G) cl a st1 (x0, (i : Int), (j : Int)) = (st1, none) := by unfold inStep; rw [if_pos (.inl (by rw [hnx]; exact hin))]
      have HST := Lib.hid hst
      clear hst hs hstep hsnoc hpre hst1 hnx hin
      gi_wp2
      have hb12 : Below W1.heap.size W1 (W1.alloc (.cells #[.int .i64 s.1.1, .int .i64 s.1.2, .int .i64 s.2] 141)) := (Below.refl _ _).alloc (Nat.le_refl _) _
      generalize W1.alloc (.cells #[.int .i64 s.1.1, .int .i64 s.1.2, .int .i64 s.2] 141) = W2 at hb12 ⊢
      refine quiet_round (C := fun w' => ∃ n, w' = W2.drewN n) hmx (by kernel_rfl) (by kernel_rfl) (by rintro ⟨a, w, h⟩; exact h) ⟨1, rfl⟩ ?_
      simp only []
      repeat (go_big_quiet_step (fail))
      refine wpQuiet_nil ?_
      rintro _ ⟨nd, rfl⟩
      gi_wp2
      exact unhide HCT _ (below_drewN' hb12 nd) HST.out
     ·rw [lookA_none (by rw [came_keys]; exact hin)] at hlook
      simp only [Option.getD_none, Option.isSome_none, if_true] at hlook
      unfold prV pairV at hlook
      gi_wp2
      have hb12 : Below W1.heap.size W1 (W1.alloc (.cells #[.int .i64 0, .int .i64 0, .int .i64 0] 141)) := (Below.refl _ _).alloc (Nat.le_refl _) _
      have hT2 := hTb.below hb12
      have hR2 := hr.below hb12
      have hnb2 := hnb.below hb12 hnb.lt
      generalize W1.alloc (.cells #[.int .i64 0, .int .i64 0, .int .i64 0] 141) = W2 at hb12 hT2 hR2 hnb2 ⊢
      clear hn0 hn1 c7 hlook
      have hn0 : W2.cell? ⟨nb, 0, none⟩ = some (.int .i64 (i : Int)) := hnb2.cell 0
      have hn1 : W2.cell? ⟨nb, 1, none⟩ = some (.int .i64 (j : Int)) := hnb2.cell 1
      have hc4 := hT2.c.cell
      have hci : W2.cell? ⟨cg, i, none⟩ = some (.int .i64 (cl i)) := Holds.below hT2.bel _ _ (hcl i hi)
      have hcj : W2.cell? ⟨cg, j, none⟩ = some (.int .i64 (cl j)) := Holds.below hT2.bel _ _ (hcl j hj)
      by_cases hcc : cl i = cl j
      ·have hce : ((cl i : Int) == (cl j : Int)) = true := by simp [hcc]
       have hst : inStep (agB G) cl a st1 (x0, (i : Int), (j : Int)) = (st1, none) := by unfold inStep; rw [if_pos (.inr (by rw [hnx]; exact hcc))]
       have HST := Lib.hid hst
       clear hst hcc hstep hsnoc hpre hst1 hnx
       refine quiet_round (C := fun w' => ∃ n, w' = W2.drewN n) hmx (by kernel_rfl) (by kernel_rfl) (by rintro ⟨a, w, h⟩; exact h) ⟨1, rfl⟩ ?_
       simp only []
       repeat (go_big_quiet_step (fail))
       refine wpQuiet_nil ?_
       rintro _ ⟨nd, rfl⟩
       gi_wp2
       exact unhide HCT _ (below_drewN' hb12 nd) HST.out
      ·have hce : ((cl i : Int) == (cl j : Int)) = false := by simp; omega
       have hno : ¬ (nxP (x0, (i : Int), (j : Int)) ∈ st1.1.map (·.1) ∨ cl (nxP (x0, (i : Int), (j : Int))).1 = cl (nxP (x0, (i : Int), (j : Int))).2) := by
        rw [hnx]; rintro (h | h)
        ·exact hin h
        ·exact hcc h
       refine quiet_round (C := fun w' => ∃ n, w' = W2.drewN n) hmx (by kernel_rfl) (by kernel_rfl) (by rintro ⟨a, w, h⟩; exact h) ⟨1, rfl⟩ ?_
       simp only []
       repeat (go_big_quiet_step (fail))
       refine wpQuiet_nil ?_
       rintro _ ⟨nd, rfl⟩
       gi_wp2
       have hb23 : Below W2.heap.size W2 (W2.drewN nd) := below_drewN' (Below.refl _ _) nd
       have hT3 := hT2.below hb23
       have hR3 := hR2.below hb23
       have hnb3 := hnb2.below hb23 hnb2.lt
       have hb13 := hb12.trans (hb23.mono hb12.size)
       generalize W2.drewN nd = W3 at hT3 hR3 hnb3 hb13 ⊢
       clear hn0 hn1 hc4 hci hcj hb23 hT2 hR2 hnb2 hb12 hTb
       have hn0 : W3.cell? ⟨nb, 0, none⟩ = some (.int .i64 (i : Int)) := hnb3.cell 0
       have hn1 : W3.cell? ⟨nb, 1, none⟩ = some (.int .i64 (j : Int)) := hnb3.cell 1
       have c7 := hT3.mb.cell
       have c8 := hT3.qb.cell
       have c10 := hR3.at'.cell
       have hkl : ms.length < st1.2.length := (List.getElem?_eq_some_iff.1 hqk).1
       have hkl' : (ms.length : Int) < st1.2.length := by omega
       have hka : st1.2[ms.length] = a := (List.getElem?_eq_some_iff.1 hqk).2
       obtain ⟨gq1, rfl, -, cq0, cq1'⟩ := row2_cell hT3.row ms.length hkl
       rw [hka] at cq0 cq1'
       have hbd := build141 a.1 a.2 x0
       refine tail_round 8 hmx (by kernel_rfl) (by kernel_rfl) (by rintro ⟨a, w, h⟩; exact h) ?_
       simp only [List.take_succ_cons, List.take_zero, List.drop_succ_cons, List.drop_zero]
       repeat (go_big_quiet_step (fail))
       refine wpQuiet_nil ?_
       rintro _ ⟨nd2, rfl⟩
       have hb34 : Below W3.heap.size W3 (W3.drewN nd2) := below_drewN' (Below.refl _ _) nd2
       have hT4 := hT3.below hb34
       have hR4 := hR3.below hb34
       have hnb4 := hnb3.below hb34 hnb3.lt
       have hb14 := hb13.trans (hb34.mono hb13.size)
       obtain ⟨W5, hrun5, hM5, hg5⟩ := hT4.mp.update law64 prV_inj Tryz.underlying142 hkl2 (strideV (a, x0))
       unfold prV pairV strideV at hrun5
       rw [putA_new (by rw [came_keys]; exact hin)] at hM5
       have hM5' : MapC W5 N (st1.1 ++ [((i, j), a, x0)]) := by unfold MapC cameA; rw [List.map_append]; exact hM5
       generalize W3.drewN nd2 = W4 at hT4 hR4 hnb4 hb14 hrun5 hg5 ⊢
       clear hT3 hR3 hnb3 hb13 hn0 hn1 c7 c8 c10 cq0 cq1' hb34
       go_wp2
       gi_wp2
       have hkeep : ∀ (b : Nat) (cs : Array Value) (t : TypeId) (f : Nat × Nat), W4.heap[b]? = some (.cells cs t f) → W5.heap[b]? = some (.cells cs t f) := fun b cs t f hb => (hg5.block b (Array.getElem?_eq_some_iff.1 hb).1 (by simpa using hT4.mp.ne_cells hb)).trans hb
       have hT5 := hT4.putm hg5 hM5'
       have hA5 : Boxed W5 ab 3 _ := hkeep _ _ _ _ hR4.at'
       have hG5 : Boxed W5 wr.heap.size 23 _ := hkeep _ _ _ _ hR4.gb
       have hP5 : Blk W5 (wr.heap.size + 1) _ 64 := hkeep _ _ _ _ hR4.pbk
       have hnb5 : Blk W5 nb _ 64 := hkeep _ _ _ _ hnb4
       have hKF15 : KeepsFrom w5.heap.size W1 W5 := (keepsFrom_below hb14).trans (KeepsFrom.of_grownBy hg5 (fun r e => by cases e; omega))
       have hKI15 : KInts W1 W5 := (KInts.below hb14).trans (KInts.grown hg5 (fun r e cs f hc => by cases e; exact hT4.mp.ne_cells hc rfl))
       have hsz15 : W1.heap.size ≤ W5.heap.size := Nat.le_trans hb14.size hg5.size
       clear hkeep hT4 hR4 hnb4 hb14 hrun5 hM5 hM5' hg5
       obtain ⟨bi, offi, y1, y2, y3, ei, gli, hci⟩ := hG.cells hi
       obtain ⟨bj, offj, z1, z2, z3, ej, glj, hcj⟩ := hG.cells hj
       cases ei
       cases ej
       have hi' : (i : Int) < G.length := by omega
       have hj' : (j : Int) < G.length := by omega
       have hw0 : ∀ W', Below W5.heap.size W5 W' → Below W.heap.size W W' := fun W' hb => hT5.bel.trans (hb.mono hT5.bel.size)
       have hA := hide (fun W' (hb : Below W5.heap.size W5 W') => agree_any G[i] G[j] y1 y2 y3 z1 z2 z3 W' (gli.go (.below (hw0 W' hb))) (glj.go (.below (hw0 W' hb))))
       have hK1 : ∀ W', Below W5.heap.size W5 W' → ∀ k u, (tyC G[i] y1 y2 y3)[k]? = some u → W'.cell? ⟨b, off + i * 10 + k, none⟩ = some u := fun W' hb => hci W' (.below (hw0 W' hb))
       have hK2 : ∀ W', Below W5.heap.size W5 W' → ∀ k u, (tyC G[j] z1 z2 z3)[k]? = some u → W'.cell? ⟨b, off + j * 10 + k, none⟩ = some u := fun W' hb => hcj W' (.below (hw0 W' hb))
       have hGb : ∀ W', Below W5.heap.size W5 W' → W'.cell? ⟨W.heap.size, 0, none⟩ = some (.slice (some ⟨b, off, none⟩) G.length cap) := fun W' hb => Boxed.cell ((hb.block _ hT5.g.lt).trans hT5.g)
       have hP0 : ∀ W', Below W5.heap.size W5 W' → W'.cell? ⟨nb, 0, none⟩ = some (.int .i64 (i : Int)) := fun W' hb => (hnb5.below hb hnb5.lt).cell 0
       have hP1 : ∀ W', Below W5.heap.size W5 W' → W'.cell? ⟨nb, 1, none⟩ = some (.int .i64 (j : Int)) := fun W' hb => (hnb5.below hb hnb5.lt).cell 1
       have hagij : agB G (i, j) = agreeB G[i] G[j] := by unfold agB; simp [List.getD_eq_getElem?_getD, hi, hj]
       obtain ⟨bx, hbx⟩ : ∃ bx, agreeB G[i] G[j] = bx := ⟨_, rfl⟩
       rw [hbx] at hA hagij
       generalize hgi : G[i] = ti at hA hK1
       generalize hgj : G[j] = tj at hA hK2
       have HST := Lib.hid (show inStep (agB G) cl a st1 (x0, (i : Int), (j : Int)) = if bx then ((st1.1 ++ [((i, j), a, x0)], st1.2 ++ [(i, j)]), none) else ((st1.1 ++ [((i, j), a, x0)], st1.2), some (i, j)) by
        unfold inStep; rw [if_neg hno, hnx, hagij])
       clear hbx hgi hgj hci hcj hw0 gli glj hagij hno hin hcc hce hbd
       refine quiet_round (C := fun w' => Below W5.heap.size W5 w') hmx (by kernel_rfl) (by kernel_rfl) (by rintro ⟨a, w, h⟩; exact h) (below_drewN' (Below.refl _ _) 1) ?_
       simp only []
       repeat (first
       | go_big_quiet_skip
       | (go_big_quiet_want; go_big_quiet_op; first
         | go_big_quiet_on
         | (refine ⟨_, fun _ _ => rfl, ?_⟩; go_big_quiet_on)
         | (refine ⟨.slice (some ⟨b, off, none⟩) G.length cap, ?_, ?_⟩
            ·intro w1 hb
             have e := hGb w1 hb
             simp [e, go_sem]
             done
            go_big_quiet_on)
         | (refine ⟨.int .i64 (i : Int), ?_, ?_⟩
            ·intro w1 hb
             have e := hP0 w1 hb
             simp [e, go_sem]
             done
            go_big_quiet_on)
         | (refine ⟨.int .i64 (j : Int), ?_, ?_⟩
            ·intro w1 hb
             have e := hP1 w1 hb
             simp [e, go_sem]
             done
            go_big_quiet_on)
         | (refine ⟨tyVal ti y1 y2 y3, ?_, ?_⟩
            ·intro w1 hb
             have e0 := hK1 w1 hb 0 _ rfl
             have e1 := hK1 w1 hb 1 _ rfl
             have e2 := hK1 w1 hb 2 _ rfl
             have e3 := hK1 w1 hb 3 _ rfl
             have e4 := hK1 w1 hb 4 _ rfl
             have e5 := hK1 w1 hb 5 _ rfl
             have e6 := hK1 w1 hb 6 _ rfl
             have e7 := hK1 w1 hb 7 _ rfl
             have e8 := hK1 w1 hb 8 _ rfl
             have e9 := hK1 w1 hb 9 _ rfl
             rw [Nat.add_zero] at e0
             simp [e0, e1, e2, e3, e4, e5, e6, e7, e8, e9, tyVal, go_sem]
             done
            go_big_quiet_on)
         | (refine ⟨tyVal tj z1 z2 z3, ?_, ?_⟩
            ·intro w1 hb
             have e0 := hK2 w1 hb 0 _ rfl
             have e1 := hK2 w1 hb 1 _ rfl
             have e2 := hK2 w1 hb 2 _ rfl
             have e3 := hK2 w1 hb 3 _ rfl
             have e4 := hK2 w1 hb 4 _ rfl
             have e5 := hK2 w1 hb 5 _ rfl
             have e6 := hK2 w1 hb 6 _ rfl
             have e7 := hK2 w1 hb 7 _ rfl
             have e8 := hK2 w1 hb 8 _ rfl
             have e9 := hK2 w1 hb 9 _ rfl
             rw [Nat.add_zero] at e0
             simp [e0, e1, e2, e3, e4, e5, e6, e7, e8, e9, tyVal, go_sem]
             done
            go_big_quiet_on)
         | (apply Exists.intro
            refine ⟨fun w1 hb => ?_, ?_⟩
            ·with_reducible refine (unhide hA w1 hb).mono ?_
             rintro e w2 ⟨rfl, hb2⟩
             exact ⟨rfl, hb.trans (hb2.mono hb.size)⟩
            go_big_quiet_on)))
       refine wpQuiet_nil ?_
       rintro w6 hb56
       have hT6 := hT5.below hb56
       have hn0 := hP0 w6 hb56
       have hn1 := hP1 w6 hb56
       clear hA hK1 hK2 hGb hP0 hP1
       cases bx
       ·have hst := HST.out
        simp only [Bool.false_eq_true, if_false] at hst
        rw [hst] at hsnoc hstep
        have HSN := Lib.hid hsnoc
        have HSI := hide hstep.1
        clear hst hsnoc hstep
        have z90 := hT6.lb.frozen 0
        have z91 := hT6.lb.frozen 1
        have c90 : w6.cell? ⟨b9, 0, none⟩ = some (.int .i64 first.1) := hT6.lb.cell 0
        have c91 : w6.cell? ⟨b9, 1, none⟩ = some (.int .i64 first.2) := hT6.lb.cell 1
        gi_wp2
        have hKF : KeepsFrom w5.heap.size W1 ((w6.setCell ⟨b9, 0, none⟩ (.int .i64 (i : Int))).setCell ⟨b9, 1, none⟩ (.int .i64 (j : Int))) := hKF15.trans ((keepsFrom_below hb56).trans (((KeepsOthers.setCell _ _ _).from _).trans ((KeepsOthers.setCell _ _ _).from _)))
        have hTl := hT6.setl (i, j)
        exact ⟨hKF, rfl, _, i, j, _, _, HSN.out, unhide HSI, hTl⟩
       ·have hst := HST.out
        simp only [if_true] at hst
        rw [hst] at hsnoc hstep
        have HSN := Lib.hid hsnoc
        have HSI := hide hstep.1
        have HQK := hide hstep.2.1
        clear hst hsnoc hstep
        have c8 := hT6.qb.cell
        have z8 := hT6.qb.frozen
        obtain ⟨i0, hi0, hz0, hz1, hz2⟩ := info_parts info64
        have hql : st1.2.length ≤ 200000 := by
         have := hr.inv.small
         rw [hr.inv.len, hst1] at this
         omega
        gi_wp2_with (gi_at_builtin; refine wpListIn_append_own _ rfl _ _ 33 rfl N 64 i0 (.agg #[.int .i64 0, .int .i64 0]) 2 16 Tryz.underlying33 hi0 hz0 hz1 hz2 rfl (by decide) _ _ _ rfl (hT6.row.alloc _) ⟨w6.heap.size, 0, none⟩ 1 1 [.int .i64 (i : Int), .int .i64 (j : Int)] rfl rfl ?c1 ?c2 ?c3 ?c4 ?c5 ?_)
        case c2 => exact ⟨rfl, rfl⟩
        case c3 => unfold maxLen; omega
        case c4 => omega
        case c5 => have := hT6.mp.lt; omega
        intro v' w7 hown' hgrow _
        have hbig : ∀ (bb : Nat) (v0 v1 : Value), w7.heap[bb]? = some (.cells [v0, v1].toArray 64 (0, 0)) → some bb ≠ v'.ownBlock := by
         intro bb v0 v1 hbb
         rcases hown'.2 with ⟨rfl, _⟩ | ⟨g, cap', cur, rfl, _, hgb, h3, _, h5, _⟩
         ·simp [Value.ownBlock]
         ·simp only [Value.ownBlock, ne_eq, Option.some.injEq]
          rintro rfl
          rw [hbb] at hgb
          cases hgb
          simp at h5
          omega
        have hkeep7 : ∀ (bb : Nat) (cs : Array Value) (t : TypeId) (f : Nat × Nat), w6.heap[bb]? = some (.cells cs t f) → some bb ≠ (Value.slice (some ⟨gq1, 0, none⟩) st1.2.length cq1).ownBlock → w7.heap[bb]? = some (.cells cs t f) := fun bb cs t f hbb hne => by
         have hlt := (Array.getElem?_eq_some_iff.1 hbb).1
         exact (hgrow.block bb (by simp; omega) hne).trans ((Below.heap_alloc _ _ _ hlt).trans hbb)
        have hA6 : Boxed w6 ab 3 _ := (hb56.block _ hA5.lt).trans hA5
        have hG6 : Boxed w6 wr.heap.size 23 _ := (hb56.block _ hG5.lt).trans hG5
        have hP6 := hP5.below hb56 hP5.lt
        have hpa : some (wr.heap.size + 1) ≠ (Value.slice (some ⟨gq1, 0, none⟩) st1.2.length cq1).ownBlock := hpa0
        have hP7 : Blk w7 (wr.heap.size + 1) _ 64 := hkeep7 _ _ _ _ hP6 hpa
        have hA7 : Boxed w7 ab 3 _ := hkeep7 _ _ _ _ hA6 (hA6.not_row (by decide) hT6.row)
        have hG7 : Boxed w7 wr.heap.size 23 _ := hkeep7 _ _ _ _ hG6 (hG6.not_row (by decide) hT6.row)
        have hq8 : Boxed w7 b8 33 _ := hkeep7 _ _ _ _ hT6.qb (hT6.qb.not_row (by decide) hT6.row)
        have hap7 := hbig b9 _ _ (hkeep7 _ _ _ _ hT6.lb hT6.ap)
        have hpa7 := hbig _ _ _ hP7
        have hT7 := hT6.app (.cells #[.int .i64 (i : Int), .int .i64 (j : Int)] 64) (i, j) hown' hgrow hap7
        have c87 := hq8.cell
        have z87 := hq8.frozen
        have hne8 : ∀ bb v t, Boxed w7 bb t v → t ≠ 33 → bb ≠ b8 := by
         rintro bb v t hb ht rfl
         unfold Boxed at hb hq8
         rw [hb] at hq8; cases hq8; exact ht rfl
        have hKI17 : KInts W1 (w7.setCell ⟨b8, 0, none⟩ v') := by
         refine hKI15.trans ((KInts.below hb56).trans ((KInts.below ((Below.refl _ _).alloc (Nat.le_refl _) (.cells #[.int .i64 (i : Int), .int .i64 (j : Int)] 64))).trans ((KInts.grown hgrow ?_).trans (KInts.grown (grownBy_setCell' w7 b8 v') ?_))))
         ·intro r e cs f hc
          have hrow6 := hT6.row.alloc (.cells #[.int .i64 (i : Int), .int .i64 (j : Int)] 64)
          rcases hrow6.2 with ⟨h0, _⟩ | ⟨g, cap', cur, h0, _, hgb, _⟩
          ·cases h0
          ·cases h0
           simp only [Value.ownBlock, Option.some.injEq] at e
           subst e
           rw [hgb] at hc; cases hc
         ·intro r e cs f hc
          cases e
          unfold Boxed at hq8
          rw [hq8] at hc; cases hc
        have hKO7 : KeepsOthers (w6.alloc (.cells #[.int .i64 (i : Int), .int .i64 (j : Int)] 64)) w7 := KeepsOthers.of_grownBy hgrow (fun r o e ho => by
         have hrow6 := hT6.row.alloc (.cells #[.int .i64 (i : Int), .int .i64 (j : Int)] 64)
         rcases hrow6.2 with ⟨h0, _⟩ | ⟨g, cap', cur, h0, _, hgb, _⟩
         ·cases h0
         ·cases h0
          simp only [Value.ownBlock, Option.some.injEq] at e
          subst e
          rw [hgb] at ho; cases ho; rfl)
        have hKF : KeepsFrom w5.heap.size W1 (w7.setCell ⟨b8, 0, none⟩ v') := hKF15.trans ((keepsFrom_below hb56).trans ((keepsFrom_below ((Below.refl _ _).alloc (Nat.le_refl _) _)).trans ((hKO7.from _).trans ((KeepsOthers.setCell _ _ _).from _))))
        obtain ⟨g7, cap7, rfl⟩ := ownsRow_succ hown'
        gi_wp2
        exact ⟨hKF, hKI17, _, RI.of HSN.out hT7 (hA7.other (hne8 _ _ _ hA7 (by decide)) _) (hG7.other (hne8 _ _ _ hG7 (by decide)) _) (hP7.other 0 _ (fun e => by
         unfold Blk at hP7
         unfold Boxed at hq8
         rw [e, hq8] at hP7; cases hP7)) (unhide HSI) (by obtain ⟨k', hk'⟩ := unhide HQK; rw [List.getElem?_append_left hkl]; exact hqk) hpa7⟩
    case done =>
     rintro W6 ⟨qv, hr⟩ hK6
     have ca6 := hr.at'.cell
     have hlast : (inRun (agB G) cl a (besG G a) st) = ((inRun (agB G) cl a (besG G a) st).1, none) := Prod.ext rfl hr.none'
     have hR : outRun (agB G) cl (besG G) (G.length * G.length + 1 - (ms.length + 1)) (ms.length + 1) (inRun (agB G) cl a (besG G a) st).1 = R := by
      rw [← hout]
      obtain ⟨f, hf⟩ : ∃ f, G.length * G.length + 1 - ms.length = f + 1 := ⟨G.length * G.length - ms.length, by have := hS.small; rw [hS.len] at this; omega⟩
      rw [hf, show G.length * G.length + 1 - (ms.length + 1) = f by omega]
      rw [outRun, hak]
      simp only
      rw [hlast]
     have hkl : ms.length < (inRun (agB G) cl a (besG G a) st).1.2.length := (List.getElem?_eq_some_iff.1 hr.q).1
     have hsm := hS.small
     rw [hS.len] at hsm
     have HRR := Lib.hid hR
     have HAK := Lib.hid hak
     clear hlast hR hout hak HIN hle
     gi_wp2
     have hbA : Below W6.heap.size W6 (W6.alloc (.cells #[.int .i64 ((ms.length : Int) + 1)] 3)) := (Below.refl _ _).alloc (Nat.le_refl _) _
     refine ⟨⟨w5.heap.size :: ms, (inRun (agB G) cl a (besG G a) st).1, qv, W6.heap.size, ⟨hr.inv, ⟨?_, hr.ti.hN, hr.ti.ge, ?_, ?_, ?_, ?_, ?_, ?_, ?_, ?_, ?_, hr.ti.ap⟩, ?_, hkl, HRR.out⟩, pack98 _ _ rfl _ _ _ _ _ _ _ _ _ _ _ rfl rfl rfl rfl rfl rfl rfl rfl rfl rfl rfl rfl rfl rfl rfl⟩, ?_⟩
     ·exact (hr.ti.below hbA).bel
     ·exact (hr.ti.below hbA).g
     ·exact (hr.ti.below hbA).c
     ·exact (hr.ti.below hbA).f
     ·exact (hr.ti.below hbA).mb
     ·exact (hr.ti.below hbA).mp
     ·exact (hr.ti.below hbA).qb
     ·exact (hr.ti.below hbA).row
     ·exact (hr.ti.below hbA).lb
     ·exact (hr.ti.op.cons hK6 (by omega) (fun h => by have := hDlt _ h; omega)).below hbA
     ·have := Boxed.new W6 3 (.int .i64 ((ms.length : Int) + 1))
      simpa using this
     ·simp [marks]; omega
    case stop =>
     rintro c pre W6 hpre ⟨rfl, qv, nx, st', hrun, hS', hT'⟩ hK6
     have cf0 : W6.cell? ⟨W.heap.size + 1 + 1, 0, none⟩ = some (.int .i64 first.1) := hT'.f.cell 0
     have cf1 : W6.cell? ⟨W.heap.size + 1 + 1, 1, none⟩ = some (.int .i64 first.2) := hT'.f.cell 1
     have cl0 : W6.cell? ⟨b9, 0, none⟩ = some (.int .i64 nx.1) := hT'.lb.cell 0
     have cl1 : W6.cell? ⟨b9, 1, none⟩ = some (.int .i64 nx.2) := hT'.lb.cell 1
     have cm := hT'.mb.cell
     have hix : ∃ m, ∃ h : m < st'.1.length, st'.1[m].1 = nx := by
      have hk := hS'.keys
      have : nx ∈ st'.1.map (·.1) := by rw [hk]; simp
      obtain ⟨c, hc, rfl⟩ := List.mem_map.1 this
      obtain ⟨m, hm, rfl⟩ := List.mem_iff_getElem.1 hc
      exact ⟨m, hm, rfl⟩
     have HWB := hide (wayBack_any N st'.1 first nx W6 hT'.mp hS'.chain hix (Nat.le_trans hS'.small hsq) (fun c hc => by have := hS'.bnd c hc; omega))
     unfold prV pairV at HWB
     have hR : R = (st'.1, some nx) := by
      rw [← hout]
      obtain ⟨f, hf⟩ : ∃ f, G.length * G.length + 1 - ms.length = f + 1 := ⟨G.length * G.length - ms.length, by have := hS.small; rw [hS.len] at this; omega⟩
      rw [hf, outRun, hak]
      simp only
      rw [inRun_stop hpre hrun]
     have HR := Lib.hid hR
     clear hR hout hak HIN hle hrun hix
     gi_wp2_with (refine ⟨trivial, ?_⟩; gi_at_call 112; refine (callsIn_wide.2 (unhide HWB)).mono ?_; clear HWB; rintro e w7 ⟨v7, rfl, r7, hb7⟩)
     have h7 := hT'.below hb7
     have hop : Open' w7 N (w5.heap.size :: ms) := (hT'.op.cons hK6 (by omega) (fun h => by have := hDlt _ h; omega)).below hb7
     refine leaves_marks (w5.heap.size :: ms) _ hop.at' hop.nodup ?_
     refine ⟨_, results_tmp rfl _ _ _, v7, rfl, ?_, ?_⟩
     ·rw [HT.out, HR.out]
      exact shut_row _ _ hop.at' hop.nodup (Row.mono r7 hT'.bel.size)
     ·exact shut_below (Nat.le_refl _) _ _ (fun D hD => by have := hop.ge D hD; have := hT'.hN; omega) h7.bel.size h7.bel
   ·have hge : ¬ ((ms.length : Int) < st.2.length) := by omega
    have cl0 : wr.cell? ⟨b9, 0, none⟩ = some (.int .i64 first.1) := hT.lb.cell 0
    have cl1 : wr.cell? ⟨b9, 1, none⟩ = some (.int .i64 first.2) := hT.lb.cell 1
    have cm := hT.mb.cell
    have HWB := hide (wayBack_any N st.1 first first wr hT.mp hS.chain (by obtain ⟨h0, e⟩ := hS.head; exact ⟨0, h0, e⟩) (Nat.le_trans hS.small hsq) (fun c hc => by have := hS.bnd c hc; omega))
    unfold prV pairV at HWB
    have hR : R = (st.1, none) := by
     obtain ⟨f, hf⟩ : ∃ f, G.length * G.length + 1 - ms.length = f + 1 := ⟨G.length * G.length - ms.length, by have := hS.small; rw [hS.len] at this; omega⟩
     rw [hf] at hout
     have hq : st.2[ms.length]? = none := List.getElem?_eq_none (by omega)
     simpa [outRun, hq] using hout.symm
    have HR := Lib.hid hR
    clear hR hout
    gi_wp2_with (refine ⟨trivial, ?_⟩; gi_at_call 112; refine (callsIn_wide.2 (unhide HWB)).mono ?_; clear HWB; rintro e w5 ⟨v5, rfl, r5, hb5⟩)
    have h5 := hT.below hb5
    refine leaves_marks ms _ h5.op.at' h5.op.nodup ?_
    refine ⟨_, results_tmp rfl _ _ _, v5, rfl, ?_, ?_⟩
    ·rw [HT.out, HR.out]
     exact shut_row ms _ h5.op.at' h5.op.nodup (Row.mono r5 hT.bel.size)
    ·exact shut_below (Nat.le_refl _) ms _ (fun D hD => by have := h5.op.ge D hD; have := hT.hN; omega) h5.bel.size h5.bel
end Go.Proofs.YteaokkaidcbdlaaGreatDoor

