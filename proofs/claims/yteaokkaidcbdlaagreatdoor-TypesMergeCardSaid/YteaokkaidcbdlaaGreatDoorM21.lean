/- Part 21 of 53: the texts Eq, Bs, one behind the other. -/
import Derived.Test.YteaokkaidcbdlaaGreatDoorM18
import Derived.Test.YteaokkaidcbdlaaGreatDoorM20
import Derived.Test.YteaokkaidcbdlaaGreatDoorM4
namespace Go.Proofs.YteaokkaidcbdlaaGreatDoor
open Go Go.RowKit Go.Shelf
def Fit (G : List TyD) : Prop := G.length ≤ 410 ∧ (∀ t ∈ G, (refsOf t).length ≤ 100000) ∧ ∀ t ∈ G, ∀ x ∈ refsOf t, 0 ≤ x ∧ x < G.length
def equalL (G : List TyD) (i j : Int) : Bool × Int :=
 if checkedR G [i, j] ≠ 0 then (false, checkedR G [i, j]) else (decide ((classesL G).getD i.toNat 0 = (classesL G).getD j.toNat 0), 0)
theorem classesL_len (G : List TyD) : (classesL G).length = G.length := by
 unfold classesL
 have h0 := (leasts_spec (fun f i => agreeB (G.getD f default) (G.getD i default)) G.length).1
 generalize (leastsS (fun f i => agreeB (G.getD f default) (G.getD i default)) G.length).2 = c at h0
 generalize G.length + 1 = m
 induction m generalizing c with
 | zero => exact h0
 | succ m ih =>
   unfold settle
   split
   ·exact h0
   ·exact ih _ (leasts_spec _ _).1
theorem row_some {w : World} {base : Nat} {e : TypeId} {sz n c : Nat} {o : Option Addr} {xs : List Value} (h : w.ownsRow base e sz (.slice o n c) n xs) (hn : 0 < n) : ∃ g, o = some ⟨g, 0, none⟩ := by
 rcases h.2 with ⟨e0, e1⟩ | ⟨g, c2, cur, e0, _⟩
 ·omega
 ·injection e0 with e0; exact ⟨g, e0⟩
set_option maxRecDepth 100000 in
set_option maxHeartbeats 8000000 in
theorem equal_any (gv : Value) (G : List TyD) (i j : Int) (W : World) (hG0 : GrAt W gv G) (hz : GrZ G) (hfit : checkedR G [i, j] = 0 → Fit G) :
    Calls Tryz.prog 23 #[gv, .int .i64 i, .int .i64 j] W fun e w' => e = .returned (.tuple #[.bool (equalL G i j).1, .int .i64 (equalL G i j).2]) ∧ Below W.heap.size W w' := by
  obtain ⟨o, cap, rfl⟩ := hG0.form
  have bA := Blk.new W [.int .i64 i, .int .i64 j] 3
  have hbA := (Below.refl W.heap.size W).alloc (Nat.le_refl _) (.cells #[.int .i64 i, .int .i64 j] 3)
  change Blk (W.alloc (.cells #[.int .i64 i, .int .i64 j] 3)) _ _ _ at bA
  have hL : SliceOf 1 (IntAt (W.alloc (.cells #[.int .i64 i, .int .i64 j] 3))) (.slice (some ⟨W.heap.size, 0, none⟩) 2 2) [i, j] := by
   refine ⟨some ⟨W.heap.size, 0, none⟩, 2, rfl, Nat.le_refl _, by decide, fun q x hx => ⟨_, 0, rfl, ?_⟩⟩
   unfold IntAt
   match q with
   | 0 => simp at hx; subst hx; exact bA.cell 0
   | 1 => simp at hx; subst hx; exact bA.cell 1
   | q + 2 => simp at hx
  have HC := hide (checked_any _ G _ (hG0.below hbA) hz _ [i, j] hL)
  by_cases h0 : checkedR G [i, j] = 0
  ·obtain ⟨h1, h2, h3⟩ := hfit h0
   have hij : idxB G.length i = true ∧ idxB G.length j = true := by
    unfold checkedR at h0
    split at h0
    ·contradiction
    ·split at h0
     ·rename_i hh; simpa using hh
     ·contradiction
   have hi : 0 ≤ i ∧ i < G.length := by have := hij.1; unfold idxB at this; simp at this; omega
   have hj : 0 ≤ j ∧ j < G.length := by have := hij.2; unfold idxB at this; simp at this; omega
   obtain ⟨a, rfl⟩ := Int.eq_ofNat_of_zero_le hi.1
   obtain ⟨b, rfl⟩ := Int.eq_ofNat_of_zero_le hj.1
   have ha : a < (classesL G).length := by rw [classesL_len]; omega
   have hb : b < (classesL G).length := by rw [classesL_len]; omega
   have HX := Lib.hid (show equalL G a b = (decide ((classesL G)[a] = (classesL G)[b]), 0) by
    unfold equalL
    rw [if_neg (by simp [h0])]
    simp [List.getD_eq_getElem?_getD, ha, hb])
   have HK := hide (fun (w1 : World) (h : Below W.heap.size W w1) => classes_any _ G w1 (hG0.below h) h1 h2 h3)
   have HCell := hide (fun (w3 : World) (base g c : Nat) (hr : w3.ownsRow base 3 1 (.slice (some ⟨g, 0, none⟩) G.length c) G.length (natsV (classesL G))) (q : Nat) (hq : q < (classesL G).length) => show w3.cell? ⟨g, q, none⟩ = some (.int .i64 ((classesL G)[q] : Nat)) from by
    have hq2 : q < G.length := by rw [classesL_len] at hq; exact hq
    rw [Row1.cells hr q hq2]
    unfold natsV
    rw [List.getElem?_map, List.getElem?_eq_getElem hq]; rfl)
   rw [h0] at HC
   have hbA' := hbA
   have hpos : 0 < G.length := by omega
   have ha' : (a : Int) < G.length := by omega
   have hb' : (b : Int) < G.length := by omega
   generalize hxa : (classesL G)[a] = xa at HX
   generalize hxb : (classesL G)[b] = xb at HX
   have HXA := Lib.hid hxa
   have HXB := Lib.hid hxb
   clear hxa hxb h0 hij hi hj h1 h2 h3 hfit hz hG0 hL bA
   by_cases hxx : xa = xb
   all_goals
    go_enter Tryz.func23, Tryz.ntmps23
    go_wp2_with (first | (go_at_call 57; refine (unhide HC).mono ?_; clear HC; rintro e w1 ⟨rfl, hb1⟩; have hb1' := hbA'.trans (hb1.mono hbA'.size)) | (go_at_call 64; refine (unhide HK w1 hb1').mono ?_; clear HK; rintro e w3 ⟨v3, rfl, hr3, hb3⟩; obtain ⟨o3, c3, rfl⟩ := row_form hr3; obtain ⟨g3, rfl⟩ := row_some hr3 hpos; have hca := unhide HCell w3 _ _ _ hr3 a ha; have hcb := unhide HCell w3 _ _ _ hr3 b hb; rw [HXA.out] at hca; rw [HXB.out] at hcb; have hbe := hb1'.trans (hb3.mono hb1'.size); have hBD := fun nq => below_drewN' hbe nq))
    go_quiet (fail)
    go_wp2
    go_ret2
    exact ⟨by rw [HX.out]; first | (simp [hxx]; done) | (simp [hxx]; omega), hBD nq⟩
  ·have HX := Lib.hid (show equalL G i j = (false, checkedR G [i, j]) by unfold equalL; rw [if_pos h0])
   clear hfit hG0 hz hL bA
   generalize checkedR G [i, j] = ck at h0 HC HX
   go_enter Tryz.func23, Tryz.ntmps23
   go_wp2_with (first | (go_at_call 57; refine (unhide HC).mono ?_; clear HC; rintro e w1 ⟨rfl, hb1⟩; have hb1' := hbA.trans (hb1.mono hbA.size)))
   go_ret2
   exact ⟨(by rw [HX.out]; rfl), hb1'⟩
end Go.Proofs.YteaokkaidcbdlaaGreatDoor

namespace Go.Proofs.YteaokkaidcbdlaaGreatDoor
open Go Go.RowKit Go.Shelf
attribute [local go_sem] Oper.semAt_some
def KInts (W W' : World) : Prop := ∀ (b : Nat) (cs : Array Value) (f : Nat × Nat), W.heap[b]? = some (.cells cs 3 f) → W'.heap[b]? = some (.cells cs 3 f)
theorem KInts.trans {A B C : World} (h : KInts A B) (k : KInts B C) : KInts A C := fun b cs f hb => k b cs f (h b cs f hb)
theorem KInts.below {W W' : World} (h : Below W.heap.size W W') : KInts W W' := fun b _ _ hb => (h.block b (Array.getElem?_eq_some_iff.1 hb).1).trans hb
theorem KInts.put {W : World} {l : Nat} {o : Obj} (o' : Obj) (hl : W.heap[l]? = some o) (ho : o.isCells = false) : KInts W (W.putObj l o') := fun b cs f hb => by
 have hne : l ≠ b := by
  rintro rfl
  rw [hl] at hb; cases hb; cases ho
 exact (World.putObj_heap_other (by omega)).trans hb
theorem KInts.grown {W W' : World} {row : Option Nat} (hg : W.grownBy W' row) (h : ∀ r, row = some r → ∀ cs f, W.heap[r]? ≠ some (.cells cs 3 f)) : KInts W W' := fun b cs f hb => by
 refine (hg.block b (Array.getElem?_eq_some_iff.1 hb).1 (fun e => h b e.symm cs f hb)).trans hb
theorem KInts.row {W W' : World} (hk : KInts W W') {base sz n : Nat} {v : Value} {xs : List Value} (h : W.ownsRow base 3 sz v n xs) : W'.ownsRow base 3 sz v n xs := by
 refine ⟨h.1, ?_⟩
 rcases h.2 with h0 | ⟨g, cap, cur, rfl, hg, hc, hr⟩
 ·exact .inl h0
 ·exact .inr ⟨g, cap, cur, rfl, hg, hk _ _ _ hc, hr⟩
theorem besides_any (o : Option Addr) (n c : Nat) (i j : Int) (w : World) :
    Calls Tryz.prog 111 #[.slice o n c, pairV i j] w fun e w' => e = .returned (.func (.func 160) #[] #[.pointer (some ⟨w.heap.size, 0, none⟩), .pointer (some ⟨w.heap.size + 1, 0, none⟩)]) ∧ w' = (w.alloc (.cells #[.slice o n c] 23)).alloc (.cells #[.int .i64 i, .int .i64 j] 64) := by
  unfold pairV
  go_enter Tryz.func111, Tryz.ntmps111
  go_wp2
  go_ret
  exact ⟨rfl, rfl⟩
def besL (A B : List Int) : List (Nat × Int × Int) := (A.zip B).zipIdx.map fun x => (x.2, x.1)
def besV (x : Nat × Int × Int) : Array Value := #[.int .i64 x.1, pairV x.2.1 x.2.2]
theorem besL_len (A B : List Int) (h : A.length ≤ B.length) : (besL A B).length = A.length := by unfold besL; simp; omega
theorem besL_succ (A B : List Int) (h : A.length ≤ B.length) (k : Nat) (hk : k < A.length) : (besL A B).take (k + 1) = (besL A B).take k ++ [(k, A[k], B[k])] := by
 have hl : k < (besL A B).length := by rw [besL_len A B h]; exact hk
 rw [List.take_succ_eq_append_getElem hl]
 simp [besL]
theorem row_cell {w : World} {base : Nat} {o : Option Addr} {n c : Nat} {l : List Int} (h : w.ownsRow base 3 1 (.slice o n c) l.length (l.map (.int .i64))) (k : Nat) (hk : k < l.length) :
    ∃ g, o = some ⟨g, 0, none⟩ ∧ n = l.length ∧ w.cell? ⟨g, k, none⟩ = some (.int .i64 l[k]) := by
  have h' := h
  rcases h.2 with ⟨h0, h1⟩ | ⟨g, cap, cur, h0, _⟩
  ·omega
  ·cases h0
   refine ⟨g, rfl, rfl, ?_⟩
   rw [Row1.cells h' k hk]
   simp [List.getElem?_eq_getElem hk]
set_option maxRecDepth 100000 in
set_option maxHeartbeats 8000000 in
theorem besides_in (l gb pb : Nat) (gv : Value) (G : List TyD) (i j : Nat) (hi : i < G.length) (hj : j < G.length) (hAB : (refsOf G[i]).length ≤ (refsOf G[j]).length) (hBl : (refsOf G[j]).length ≤ 100000)
    (J Jx : List (Nat × Int × Int) → World → Prop)
    (hJ : ∀ p W, J p W → W.cell? ⟨gb, 0, none⟩ = some gv ∧ W.cell? ⟨pb, 0, none⟩ = some (.int .i64 i) ∧ W.cell? ⟨pb, 1, none⟩ = some (.int .i64 j) ∧ GrAt W gv G)
    (hJb : ∀ p W W', J p W → Below W.heap.size W W' → J p W')
    (hY : ∀ p x W, p ++ [x] <+: besL (refsOf G[i]) (refsOf G[j]) → J p W → YieldAt Fence.wide 0 Tryz.prog l (besV x) W fun e W' => (e = .returned (.bool true) ∧ J (p ++ [x]) W' ∧ KInts W W') ∨ (e = .returned (.bool false) ∧ Jx (p ++ [x]) W'))
    (W : World) (h0 : J [] W) :
    CallsIn Fence.wide 1 Tryz.prog 160 #[.func (.yield l) #[] #[], .pointer (some ⟨gb, 0, none⟩), .pointer (some ⟨pb, 0, none⟩)] W fun e W' => (∃ v, e = .returned v) ∧ (J (besL (refsOf G[i]) (refsOf G[j])) W' ∨ ∃ p, p <+: besL (refsOf G[i]) (refsOf G[j]) ∧ Jx p W') := by
  refine callsIn_of_wp Tryz.func160 rfl trivial ?_ rfl
  simp only [Tryz.ntmps160, List.size_toArray, List.length_cons, List.length_nil, Nat.reduceAdd, Nat.reduceSub, Array.replicate_succ, Array.replicate_zero, List.push_toArray, List.append_toArray, List.nil_append, List.cons_append]
  obtain ⟨c0, c1, c2, hG⟩ := hJ _ _ h0
  obtain ⟨o, cap, rfl⟩ := hG.form
  obtain ⟨-, -, -, hat⟩ := hG.at
  obtain ⟨b, off, rfl, hTj⟩ := hat j G[j] (List.getElem?_eq_getElem hj)
  obtain ⟨b', off', e', hTi⟩ := hat i G[i] (List.getElem?_eq_getElem hi)
  cases e'
  have hi' : (i : Int) < G.length := by omega
  have hj' : (j : Int) < G.length := by omega
  have HB := hide (references_any b (off + j * 10) G[j] W hTj hBl)
  have HA := hide (fun W1 (h : Below W.heap.size W W1) => references_any b (off + i * 10) G[i] W1 (hTi.go (.below h)) (Nat.le_trans hAB hBl))
  have HL := hide (besL_succ _ _ hAB)
  have HN := Lib.hid (besL_len _ _ hAB)
  have HY := hide hY
  have HJB := hide hJb
  have HJ := hide hJ
  clear hY hJb hJ hat hTi hTj hG
  generalize refsOf G[i] = A at *
  generalize refsOf G[j] = B at *
  gi_wp2_with (refine ⟨trivial, ?_⟩; gi_at_call 104; first
   | (refine (callsIn_wide.2 (unhide HB)).mono ?_; clear HB; rintro e w1 ⟨vB, rfl, rB, hb1⟩; obtain ⟨oB, cB, rfl⟩ := row_form rB; have hJ1 := unhide HJB _ _ _ h0 hb1; obtain ⟨d0, d1, d2, -⟩ := unhide HJ _ _ hJ1)
   | (refine (callsIn_wide.2 (unhide HA w1 hb1)).mono ?_; clear HA; rintro e w2 ⟨vA, rfl, rA, hb2⟩; obtain ⟨oA, cA, rfl⟩ := row_form rA; have hJ2 := unhide HJB _ _ _ hJ1 hb2; have rB2 := Row.below rB hb2))
  gi_loopw [18] (fun q wr => ∃ k : Nat, k ≤ A.length ∧ q = .int .i64 k ∧ J ((besL A B).take k) wr ∧ wr.ownsRow w1.heap.size 3 1 (.slice oA A.length cA) A.length (A.map (.int .i64)) ∧ wr.ownsRow W.heap.size 3 1 (.slice oB B.length cB) B.length (B.map (.int .i64))) (fun q _ => A.length - (intOf q).toNat)
  case atStart => exact ⟨0, Nat.zero_le _, rfl, by simpa using hJ2, rA, rB2⟩
  case round =>
   obtain ⟨k, hk, rfl, hJk, rAk, rBk⟩ := hrel
   by_cases hlt : k < A.length
   ·have hlt' : (k : Int) < A.length := by omega
    have hltB' : (k : Int) < B.length := by omega
    have hltB : k < B.length := by omega
    obtain ⟨gA, rfl, -, cA1⟩ := row_cell rAk k hlt
    obtain ⟨gB, rfl, -, cB1⟩ := row_cell rBk k hltB
    have hs := unhide HL k hlt
    obtain ⟨fn, tmps, assign, body, hy, hR⟩ := unhide HY _ (k, A[k], B[k]) wr (by rw [← hs]; exact List.take_prefix _ _) hJk
    unfold besV pairV at hy
    dsimp only at hy
    have HS := Lib.hid hs
    clear hs
    generalize A[k] = x at *
    generalize B[k] = y at *
    gi_wp2
    refine hR.mono ?_
    rintro e W3 (⟨rfl, hJ3, hk3⟩ | ⟨rfl, hJx3⟩)
    ·gi_wp2
     go_roundw
     case rel => exact ⟨k + 1, by omega, by go_num, by rw [HS.out]; exact hJ3, hk3.row rAk, hk3.row rBk⟩
     case measure => simp [intOf]; omega
    ·gi_wp2
     refine bodyPost_ret (results_none rfl _ _ _) rfl ?_
     exact ⟨⟨_, rfl⟩, .inr ⟨_, by rw [← HS.out]; exact List.take_prefix _ _, hJx3⟩⟩
   ·obtain rfl : k = A.length := by omega
    rw [List.take_of_length_le (by rw [HN.out]; exact Nat.le_refl _)] at hJk
    gi_wp2
    go_end0
    exact ⟨⟨_, rfl⟩, .inl hJk⟩
end Go.Proofs.YteaokkaidcbdlaaGreatDoor

