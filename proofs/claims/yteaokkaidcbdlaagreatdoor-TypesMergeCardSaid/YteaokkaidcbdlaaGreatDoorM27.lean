/- Part 27 of 53: the texts Rv, one behind the other. -/
import Derived.Test.YteaokkaidcbdlaaGreatDoorM25
import Derived.Test.YteaokkaidcbdlaaGreatDoorM22
namespace Go.Proofs.YteaokkaidcbdlaaGreatDoor
open Go Go.RowKit Go.Shelf
attribute [local go_sem] Oper.semAt_some
theorem shut_other : ∀ (ms : List Nat) (w : World) (b : Nat), b ∉ ms → (shut w ms).heap[b]? = w.heap[b]?
 | [], _, _, _ => rfl
 | D :: ms, w, b, h => by
   have h1 : D ≠ b := fun e => h (by rw [e]; simp)
   exact (shut_other ms _ b (fun e => h (by simp [e]))).trans (World.putObj_heap_other (by omega))
set_option maxRecDepth 100000 in
theorem pack61 (t : Array Value) (d : List Deferred) (hs : t.size = 61) (v0 : Value) (v1 : Value) (v2 : Value) (v3 : Value) (v4 : Value) (v5 : Value) (v6 : Value) (v7 : Value) (v8 : Value) (v9 : Value) (v10 : Value) (h0 : t.getD 0 undef = v0) (h1 : t.getD 1 undef = v1) (h2 : t.getD 2 undef = v2) (h3 : t.getD 3 undef = v3) (h4 : t.getD 4 undef = v4) (h5 : t.getD 5 undef = v5) (h6 : t.getD 6 undef = v6) (h7 : t.getD 7 undef = v7) (h8 : t.getD 8 undef = v8) (h9 : t.getD 9 undef = v9) (h10 : t.getD 10 undef = v10) :
    ∃ u : Nat → Value, (Act.mk t d) = { tmps := #[v0, v1, v2, v3, v4, v5, v6, v7, v8, v9, v10, u 11, u 12, u 13, u 14, u 15, u 16, u 17, u 18, u 19, u 20, u 21, u 22, u 23, u 24, u 25, u 26, u 27, u 28, u 29, u 30, u 31, u 32, u 33, u 34, u 35, u 36, u 37, u 38, u 39, u 40, u 41, u 42, u 43, u 44, u 45, u 46, u 47, u 48, u 49, u 50, u 51, u 52, u 53, u 54, u 55, u 56, u 57, u 58, u 59, u 60], defers := d } := by
  refine ⟨fun i => t.getD i undef, ?_⟩
  have e1 := arr_eq t 61 hs
  have e2 : ∀ f : Nat → Value, ((List.range 61).map f).toArray = #[f 0, f 1, f 2, f 3, f 4, f 5, f 6, f 7, f 8, f 9, f 10, f 11, f 12, f 13, f 14, f 15, f 16, f 17, f 18, f 19, f 20, f 21, f 22, f 23, f 24, f 25, f 26, f 27, f 28, f 29, f 30, f 31, f 32, f 33, f 34, f 35, f 36, f 37, f 38, f 39, f 40, f 41, f 42, f 43, f 44, f 45, f 46, f 47, f 48, f 49, f 50, f 51, f 52, f 53, f 54, f 55, f 56, f 57, f 58, f 59, f 60] := fun f => rfl
  rw [e2] at e1
  rw [h0, h1, h2, h3, h4, h5, h6, h7, h8, h9, h10] at e1
  rw [← e1]
def IRd (W : World) (G : List TyD) (sf : Nat → Nat) (fv : Value) (N mbk b8 b9 : Nat) (R : List Nat) (ms : List Nat) (cb : Nat) (pv : Value) (p : List Addr) (W' : World) : Prop :=
 ∃ rv, RInv G (addRs sf R (p.map (valI W))) ∧ TR W W' fv N mbk b8 b9 (addRs sf R (p.map (valI W))) rv ms ∧ Boxed W' cb 126 pv
set_option maxRecDepth 100000 in
set_option maxHeartbeats 16000000 in
theorem reachedFrom_any (o : Option Addr) (cap : Nat) (G : List TyD) (a : Nat) (ff : Nat) (caps : Array Value) (sf : Nat → Nat) (W : World) (hG : GrAt W (.slice o G.length cap) G) (hlen : G.length ≤ 410) (hz : ∀ t ∈ G, ∀ x ∈ refsOf t, 0 ≤ x ∧ x < G.length) (ha : a < G.length)
    (hsb : ∀ x, x < G.length → sf x < G.length) (hsf : ∀ W', Below W.heap.size W W' → ∀ x : Nat, x < G.length → Calls Tryz.prog ff (#[.int .i64 x] ++ caps) W' fun e w' => e = .returned (.int .i64 (sf x)) ∧ w' = W') (hff : ∀ args w, (callFunc ff args).run Tryz.prog w = .ok (.enter ff args) w) :
    Calls Tryz.prog 74 #[.slice o G.length cap, .int .i64 a, .func (.func ff) #[] caps] W fun e w' => ∃ v mbk, e = .returned (.tuple #[v, .map (some mbk)]) ∧ w'.ownsRow W.heap.size 3 1 v (reachL sf G a).length (natsV (reachL sf G a)) ∧ MapN w' mbk (reachL sf G a) ∧ W.heap.size ≤ mbk ∧ RInv G (reachL sf G a) ∧ Below W.heap.size W w' := by
  refine (callsIn_wide (n := 2)).1 ?_
  refine callsIn_of_wp_marks Tryz.func74 rfl trivial ?_ rfl
  simp only [Tryz.ntmps74, List.size_toArray, List.length_cons, List.length_nil, Nat.reduceAdd, Nat.reduceSub, Array.replicate_succ, Array.replicate_zero, List.push_toArray, List.append_toArray, List.nil_append, List.cons_append]
  have hb0 : Below W.heap.size W (W.alloc (.cells #[.func (.func ff) #[] caps] 94)) := (Below.refl _ _).alloc (Nat.le_refl _) _
  have HSF := hide hsf
  have hs1 := (callsIn_wide (n := 1)).2 (unhide HSF _ hb0 a ha)
  have f0 := Boxed.new W 94 (.func (.func ff) #[] caps)
  clear hsf
  gi_wp2
  refine ⟨trivial, ?_⟩
  refine hs1.mono ?_
  rintro e w' ⟨rfl, rfl⟩
  clear hs1
  generalize hWf : W.alloc (.cells #[.func (.func ff) #[] caps] 94) = Wf at hb0 f0 ⊢
  have hsz : Wf.heap.size = W.heap.size + 1 := by rw [← hWf]; simp
  clear hWf
  obtain ⟨kl, hkl⟩ := key_nat (n := sf a) (by have := hsb a ha; omega)
  obtain ⟨Wm, hWm⟩ : ∃ Wm, ((Wf.alloc (.cells #[.int .i64 (sf a)] 3)).alloc (.cells #[.slice (some ⟨Wf.heap.size, 0, none⟩) 1 1] 37)) = Wm := ⟨_, rfl⟩
  have b8f : Boxed Wm (Wf.heap.size + 1) 37 (.slice (some ⟨Wf.heap.size, 0, none⟩) 1 1) := by
   rw [← hWm]; have := Boxed.new (Wf.alloc (.cells #[.int .i64 (sf a)] 3)) 37 (.slice (some ⟨Wf.heap.size, 0, none⟩) 1 1); rwa [World.size_alloc] at this
  have hrb : Blk Wm Wf.heap.size [.int .i64 (sf a)] 3 := by
   rw [← hWm]; exact (Blk.new Wf [.int .i64 (sf a)] 3).alloc _
  have hbm : Below Wf.heap.size Wf Wm := by
   rw [← hWm]; exact ((Below.refl _ _).alloc (Nat.le_refl _) _).alloc (by simp) _
  obtain ⟨w2, hrun, hM2, hg2⟩ := (AMap.made Wm 3 natI).update law3 natI_inj' Tryz.underlying95 (k := sf a) hkl (natI 0)
  have hrun2 : (Instr.mapUpdate 95 (.map (some Wm.heap.size)) (.int .i64 (sf a)) (.int .i64 0)).run Tryz.prog (Wm.alloc (.map #[] 0)) = .ok () w2 := hrun
  have hmm := @run_makeMap Tryz.prog
  have c8f := (b8f.alloc (.map #[] 0)).cell
  have crf : (Wm.alloc (.map #[] 0)).cell? ⟨Wf.heap.size, 0, none⟩ = some (.int .i64 (sf a)) := (hrb.alloc (.map #[] 0)).cell 0
  have HSZ := Lib.hid hsz
  have HWM := Lib.hid hWm
  have c80 : ((Wf.alloc (.cells #[.int .i64 (sf a)] 3)).alloc (.cells #[.slice (some ⟨Wf.heap.size, 0, none⟩) 1 1] 37)) = Wm := hWm
  clear hrun hsz hWm
  gi_wp2
  have hbA : Below w2.heap.size w2 (w2.alloc (.cells #[.map (some Wm.heap.size)] 95)) := (Below.refl _ _).alloc (Nat.le_refl _) _
  have hszw : Wm.heap.size + 1 ≤ w2.heap.size := by have := hg2.size; simpa using this
  have hb2 : Below W.heap.size W w2 := ((hb0.trans (hbm.mono hb0.size)).alloc (Nat.le_trans hb0.size hbm.size) (.map #[] 0)).grown hg2 (by simp; have := hb0.size; have := hbm.size; omega) (fun j e => by cases e; have := hb0.size; have := hbm.size; omega)
  have hkp : ∀ (b : Nat) (o : Obj), Wm.heap[b]? = some o → w2.heap[b]? = some o := fun b o hb => by
   have hlt := (Array.getElem?_eq_some_iff.1 hb).1
   exact (hg2.block b (by simp; omega) (by simp; omega)).trans ((Below.heap_alloc _ _ _ hlt).trans hb)
  have hTR : TR W (w2.alloc (.cells #[.map (some Wm.heap.size)] 95)) (.func (.func ff) #[] caps) Wf.heap.size Wm.heap.size (Wf.heap.size + 1) w2.heap.size [sf a] (.slice (some ⟨Wf.heap.size, 0, none⟩) 1 1) [] := by
   have hs := HSZ.out
   have hsm := hbm.size
   refine ⟨hb2.trans (hbA.mono hb2.size), by omega, ⟨by omega, by omega, by omega⟩, (hbA.block _ ?_).trans (hkp _ _ ((hbm.block _ f0.lt).trans f0)), (hbA.block _ ?_).trans (hkp _ _ b8f), ⟨rfl, .inr ⟨_, 1, _, rfl, Nat.le_refl _, (hbA.block _ ?_).trans (hkp _ _ hrb), Nat.le_refl _, by decide, rfl, rfl⟩⟩, Boxed.new _ _ _, hM2.alloc _, Open'.nil _ _⟩
   ·omega
   ·have := b8f.lt; omega
   ·omega
  have hR0 : RInv G [sf a] := ⟨by simp, fun x hx => by simp at hx; subst hx; exact hsb a ha⟩
  obtain ⟨RR, hRR⟩ : ∃ RR, reachF sf G (G.length + 1) 0 [sf a] = RR := ⟨_, rfl⟩
  have HT := Lib.hid (show reachL sf G a = RR from hRR)
  clear hbA hszw hb2 hkp hM2 hg2 hrb b8f hbm f0 hb0 HSZ HWM c8f crf c80 hrun2 hmm
  generalize w2.alloc (.cells #[.map (some Wm.heap.size)] 95) = W3 at hTR ⊢
  generalize w2.heap.size = b9 at hTR ⊢
  generalize Wf.heap.size + 1 = b8 at hTR ⊢
  generalize Wf.heap.size = N at hTR ⊢
  generalize Wm.heap.size = mbk at hTR ⊢
  refine wpIn_loop (fun a' wr => ∃ (ms : List Nat) (R : List Nat) (rv : Value),
   (RInv G R ∧ TR W wr (.func (.func ff) #[] caps) N mbk b8 b9 R rv ms ∧ ms.length ≤ R.length ∧ reachF sf G (G.length + 1 - ms.length) ms.length R = RR) ∧
   ∃ u : Nat → Value, a' = { tmps := #[.slice o G.length cap, .int .i64 a, .func (.func ff) #[] caps, undef, undef, .pointer (some ⟨W.heap.size, 0, none⟩), .slice none 0 0, .map none, .pointer (some ⟨b8, 0, none⟩), .pointer (some ⟨b9, 0, none⟩), .int .i64 ms.length, u 11, u 12, u 13, u 14, u 15, u 16, u 17, u 18, u 19, u 20, u 21, u 22, u 23, u 24, u 25, u 26, u 27, u 28, u 29, u 30, u 31, u 32, u 33, u 34, u 35, u 36, u 37, u 38, u 39, u 40, u 41, u 42, u 43, u 44, u 45, u 46, u 47, u 48, u 49, u 50, u 51, u 52, u 53, u 54, u 55, u 56, u 57, u 58, u 59, u 60], defers := marks ms }) (fun a' _ => G.length - a'.defers.length) ?start ?round
  case start => exact ⟨[], [sf a], .slice (some ⟨N, 0, none⟩) 1 1, ⟨hR0, hTR, Nat.zero_le _, hRR⟩, pack61 _ _ rfl _ _ _ _ _ _ _ _ _ _ _ rfl rfl rfl rfl rfl rfl rfl rfl rfl rfl rfl⟩
  case round =>
   clear hTR hR0 hRR
   rintro a' wr ⟨ms, R, rv, ⟨hS, hT, hle, hout⟩, u, rfl⟩
   obtain ⟨oq, cq, rfl⟩ := row_form hT.row
   have cq8 := hT.qb.cell
   have hRl := hS.len
   by_cases hlt : ms.length < R.length
   ·have hlt' : (ms.length : Int) < R.length := by omega
    obtain ⟨gq, rfl⟩ := row_some hT.row (by omega)
    obtain ⟨t, ht⟩ : ∃ t, R[ms.length] = t := ⟨_, rfl⟩
    have htk : R[ms.length]? = some t := by rw [List.getElem?_eq_getElem hlt, ht]
    have hcr : wr.cell? ⟨gq, ms.length, none⟩ = some (.int .i64 t) := by
     rw [Row1.cells hT.row ms.length hlt]
     unfold natsV
     rw [List.getElem?_map, htk]; rfl
    have htn : t < G.length := hS.bnd t (List.mem_of_getElem? htk)
    have htn' : (t : Int) < G.length := by omega
    obtain ⟨b, off, y1, y2, y3, rfl, -, -⟩ := hG.cells htn
    have hTy : TyAt W b (off + t * 10) G[t] := by
     obtain ⟨b2, off2, e2, h⟩ := hG.at.2.2.2 t G[t] (List.getElem?_eq_getElem htn)
     cases e2; exact h
    obtain ⟨L, hL, hPT⟩ := places_ty _ _ _ _ hTy
    have HPL := hide (fun w => places_any ⟨b, off + t * 10, none⟩ w)
    have HPT := hide hPT
    clear hPT
    gi_wp2_with (refine ⟨trivial, ?_⟩; gi_at_call 116; refine (callsIn_wide.2 (unhide HPL _)).mono ?_; rintro e w5 ⟨rfl, rfl⟩)
    have hbw : Below wr.heap.size wr (wr.alloc (.cells #[.pointer (some ⟨b, off + t * 10, none⟩)] 126)) := (Below.refl _ _).alloc (Nat.le_refl _) _
    have hT5 := hT.below hbw
    have hcb := Boxed.new wr 126 (.pointer (some ⟨b, off + t * 10, none⟩))
    have hDlt : ∀ D ∈ ms, D < wr.heap.size := fun D hD => (Array.getElem?_eq_some_iff.1 (hT.op.at' D hD)).1
    have hmlt := hT.mp.lt
    have h8lt := hT.qb.lt
    have hw5 := hbw.size
    have hval : ∀ x ∈ L, ∃ v : Int, W.cell? x = some (.int .i64 v) ∧ 0 ≤ v ∧ v < G.length := by
     intro x hx
     have h1 : W.cell? x ∈ (refsOf G[t]).map cellI := by rw [← hL]; exact List.mem_map_of_mem hx
     obtain ⟨y, hy, e⟩ := List.mem_map.1 h1
     exact ⟨y, e.symm, hz _ (List.getElem_mem htn) _ hy⟩
    have hLv : L.map (valI W) = refsOf G[t] := by
     have h2 : (L.map (valI W)).map cellI = (refsOf G[t]).map cellI := by
      rw [← hL, List.map_map]
      apply List.map_congr_left
      intro x hx
      obtain ⟨v, hv, _⟩ := hval x hx
      unfold valI cellI
      simp [hv]
     exact (List.map_inj_right (fun x y h => by unfold cellI at h; simpa using h)).1 h2
    have HL := Lib.hid hL
    have HVL := hide hval
    have HLV := Lib.hid hLv
    clear hL hval hLv hcr cq8 HPL hTy
    generalize wr.alloc (.cells #[.pointer (some ⟨b, off + t * 10, none⟩)] 126) = w5 at hbw hT5 hcb hw5 ⊢
    refine wpIn_rangeGives (gf := 168) (lb := #[.pointer (some ⟨wr.heap.size, 0, none⟩)]) (fun x : Addr => #[.pointer (some x)]) L (by simp [go_sem]) (enters_of Tryz.func168 (by kernel_rfl) rfl) (fun _ => rfl)
     (IRd W G sf (.func (.func ff) #[] caps) N mbk b8 b9 R ms wr.heap.size (.pointer (some ⟨b, off + t * 10, none⟩)))
     ⟨_, hS, hT5, hcb⟩ ?it ?ia ?ip ?a1 ?assign ?body ?done
    case it =>
     intro l J hJI hY W' h0
     refine unhide HPT wr.heap.size l J (fun p W' h => ?_) hY W' h0
     obtain ⟨rv, _, hr, hb⟩ := hJI p W' h
     exact ⟨hb.cell, .below hr.bel⟩
    case ia =>
     rintro pre W' o' ⟨rv, h1, h2, h3⟩
     exact ⟨rv, h1, h2.below ((Below.refl _ _).alloc (Nat.le_refl _) _), h3.alloc _⟩
    case ip =>
     rintro pre W' l o1 o' ⟨rv, h1, h2, h3⟩ hl ho hoc
     refine ⟨rv, h1, h2.put o' ho hoc (by omega) (fun D hD => by have := hDlt D hD; omega), ?_⟩
     have hne : wr.heap.size ≠ l := by
      rintro rfl; rw [h3] at ho; cases ho; cases hoc
     exact (World.putObj_heap_other (by omega)).trans h3
    case assign =>
     intro l x W' K hK
     gi_wp2
     exact hK
    case body =>
     rintro l pre x W1 hpx ⟨rv, hS1, hT1, hcb1⟩
     obtain ⟨v, hv, hv0, hv1⟩ := unhide HVL x (hpx.subset (by simp))
     obtain ⟨i, rfl⟩ := Int.eq_ofNat_of_zero_le hv0
     have hi : i < G.length := by omega
     have hvx : valI W x = i := by unfold valI; rw [hv]
     obtain ⟨R1, hR1⟩ : ∃ R1, addRs sf R (pre.map (valI W)) = R1 := ⟨_, rfl⟩
     have hsn : addRs sf R ((pre ++ [x]).map (valI W)) = addR sf R1 (i : Int) := by rw [List.map_append, List.map_singleton, addRs_snoc, hR1, hvx]
     rw [hR1] at hS1 hT1
     have hx0 : W1.cell? x = some (.int .i64 (i : Int)) := Holds.below hT1.bel _ _ hv
     have c5 := hT1.f.cell
     have HC := hide (fun w1 (hb : ∃ n, w1 = W1.drewN n) => unhide HSF w1 (by obtain ⟨n, rfl⟩ := hb; exact below_drewN' hT1.bel n) i hi)
     have hmx : Tryz.prog.follows .mixedOrders = true := by kernel_rfl
     gi_wp2
     refine quiet_round (C := fun w' => ∃ n, w' = W1.drewN n) hmx (by kernel_rfl) (by kernel_rfl) (by rintro ⟨a, w, h⟩; exact absurd h.1 (by simp)) ⟨1, rfl⟩ ?_
     simp only []
     repeat (go_big_quiet_step (fail))
     go_big_quiet_want
     go_big_quiet_op
     refine ⟨.int .i64 (sf i), fun nn => (unhide HC (W1.drewN nn) ⟨nn, rfl⟩).mono ?_, ?_⟩
     ·rintro e w2 ⟨rfl, rfl⟩
      exact ⟨rfl, nn, rfl⟩
     go_big_quiet_on
     repeat (go_big_quiet_step (fail))
     refine wpQuiet_nil ?_
     rintro _ ⟨nd, rfl⟩
     have hb12 : Below W1.heap.size W1 (W1.drewN nd) := below_drewN' (Below.refl _ _) nd
     have hT2 := hT1.below hb12
     have hcb2 : Boxed (W1.drewN nd) wr.heap.size 126 _ := (hb12.block _ hcb1.lt).trans hcb1
     generalize W1.drewN nd = W2 at hb12 hT2 hcb2 ⊢
     have c9 := hT2.mb.cell
     have hsi := hsb i hi
     obtain ⟨kl, hkl⟩ := key_nat (n := sf i) (by omega)
     have hlook := hT2.mp.lookup law3 natI_inj' Tryz.underlying95 (Tryz.zeroValue3 W2) true (k := sf i) hkl
     clear hx0 c5 HC hT1 hcb1
     by_cases hin : sf i ∈ R1
     ·obtain ⟨m, hm, e⟩ := List.mem_iff_getElem.1 hin
      have hlk := lookA_num hS1.nodup hm
      rw [e] at hlk
      rw [hlk] at hlook
      unfold natI at hlook
      simp only [Option.getD_some, Option.isSome_some, if_true] at hlook
      have had : addR sf R1 (i : Int) = R1 := by unfold addR; rw [if_pos (by simpa using hin)]
      rw [had] at hsn
      have HSN := Lib.hid hsn
      clear hsn had hlk e
      gi_wp2
      exact ⟨keepsFrom_below hb12, rv, by rw [HSN.out]; exact hS1, by rw [HSN.out]; exact hT2, hcb2⟩
     ·rw [lookA_none (by rw [numA_keys]; exact hin)] at hlook
      unfold natI at hlook
      simp only [Option.getD_none, Option.isSome_none, if_true] at hlook
      obtain ⟨o1, c1, rfl⟩ := row_form hT2.row
      have c8 := hT2.qb.cell
      obtain ⟨W3, hrun3, hM3, hg3⟩ := hT2.mp.update law3 natI_inj' Tryz.underlying95 (k := sf i) hkl (natI R1.length)
      unfold natI at hrun3
      rw [putA_new (by rw [numA_keys]; exact hin), ← numA_snoc] at hM3
      have hrow3 : W3.ownsRow N 3 1 (.slice o1 R1.length c1) R1.length (natsV R1) := hT2.row.kept hg3 (.inr fun e => row_ne_map hT2.mp hT2.row e.symm)
      have hq3 : Boxed W3 b8 37 _ := (hg3.block _ hT2.qb.lt (by simpa using hT2.mp.ne_cells hT2.qb)).trans hT2.qb
      have c83 := hq3.cell
      have z83 := hq3.frozen
      have hcb3 : Boxed W3 wr.heap.size 126 _ := (hg3.block _ hcb2.lt (by simpa using hT2.mp.ne_cells hcb2)).trans hcb2
      have had : addR sf R1 (i : Int) = R1 ++ [sf i] := by unfold addR; rw [if_neg (by simpa using hin)]; rfl
      have hS3 := hS1.add hsb hv0 hv1
      rw [had] at hsn hS3
      have HSN := Lib.hid hsn
      have hKF13 : KeepsFrom w5.heap.size W1 W3 := (keepsFrom_below hb12).trans (KeepsFrom.of_grownBy hg3 (fun r e => by cases e; omega))
      have hRl1 := hS1.len
      obtain ⟨i0, hi0, hz0, hz1, hz2⟩ := info_parts info3
      have hsz3 : N ≤ W3.heap.size := by have := hT2.mp.lt; have := hT2.ge; have := hg3.size; omega
      clear hsn had hin
      gi_wp2_with (gi_at_builtin; refine wpListIn_append_own _ rfl _ _ 37 rfl N 3 i0 (.int .i64 0) 1 8 Tryz.underlying37 hi0 hz0 hz1 hz2 rfl (by decide) _ _ _ rfl (hrow3.alloc _) ⟨W3.heap.size, 0, none⟩ 1 1 [.int .i64 (sf i)] rfl rfl ?c1 ?c2 ?c3 ?c4 ?c5 ?_)
      case c1 =>
       intro q u hq
       match q with
       | 0 => simp at hq; subst hq; exact (Blk.new W3 [.int .i64 (sf i)] 3).cell 0
       | q + 1 => simp at hq
      case c2 => intro u hu; simp at hu; subst hu; rfl
      case c3 => unfold maxLen; omega
      case c4 => omega
      case c5 => simp; omega
      intro v' w7 hown' hgrow _
      have hT7 := hT2.more hg3 (sf i) hM3 (.cells #[.int .i64 (sf i)] 3) hown' hgrow
      have hrA := hrow3.alloc (.cells #[.int .i64 (sf i)] 3)
      have hq7 : Boxed w7 b8 37 _ := (hq3.alloc (.cells #[.int .i64 (sf i)] 3)).kept hgrow (hq3.not_row (by decide) hrow3)
      have hcb7 : Boxed w7 wr.heap.size 126 _ := (hcb3.alloc (.cells #[.int .i64 (sf i)] 3)).kept hgrow (hcb3.not_row (by decide) hrow3)
      have hne : wr.heap.size ≠ b8 := by omega
      have hcbF := hcb7.other hne v'
      have c87 := hq7.cell
      have z87 := hq7.frozen
      have hKO7 : KeepsOthers (W3.alloc (.cells #[.int .i64 (sf i)] 3)) w7 := KeepsOthers.of_grownBy hgrow (fun r o e ho => by
       rcases hrA.2 with ⟨h0, _⟩ | ⟨g, cap', cur, h0, _, hgb, _⟩
       ·rw [h0] at e; simp [Value.ownBlock] at e
       ·cases h0
        simp only [Value.ownBlock, Option.some.injEq] at e
        subst e
        rw [hgb] at ho; cases ho; rfl)
      have hKF : KeepsFrom w5.heap.size W1 (w7.setCell ⟨b8, 0, none⟩ v') := hKF13.trans ((keepsFrom_below ((Below.refl _ _).alloc (Nat.le_refl _) _)).trans ((hKO7.from _).trans ((KeepsOthers.setCell _ _ _).from _)))
      obtain ⟨g7, cap7, rfl⟩ := ownsRow_succ hown'
      gi_wp2
      exact ⟨_, by rw [HSN.out]; exact hS3, by rw [HSN.out]; exact hT7, hcbF⟩
    case done =>
     rintro W6 ⟨rv, hS6, hT6, hcb6⟩ hK6
     have HO := Lib.hid hout
     have hR : reachF sf G (G.length + 1 - (ms.length + 1)) (ms.length + 1) (addRs sf R (L.map (valI W))) = RR := by
      rw [← HO.out]
      obtain ⟨f, hf⟩ : ∃ f, G.length + 1 - ms.length = f + 1 := ⟨G.length - ms.length, by omega⟩
      rw [hf, show G.length + 1 - (ms.length + 1) = f by omega, reachF, htk]
      simp only
      rw [HLV.out]
      congr 2
      simp [List.getD_eq_getElem?_getD, htn]
     have hpl := (addRs_pre sf (L.map (valI W)) R).length_le
     have HRR := Lib.hid hR
     have HTK := Lib.hid htk
     clear hR hout htk
     gi_wp2
     refine ⟨⟨w5.heap.size :: ms, _, rv, ⟨hS6, ⟨hT6.bel, hT6.hN, hT6.ge, hT6.f, hT6.qb, hT6.row, hT6.mb, hT6.mp, hT6.op.cons hK6 (by have := hT6.ge; omega) (fun h => by have := hDlt _ h; omega)⟩, by simp; omega, HRR.out⟩, pack61 _ _ rfl _ _ _ _ _ _ _ _ _ _ _ rfl rfl rfl rfl rfl rfl rfl rfl rfl rfl (congrArg (Value.int .i64) (by simp))⟩, ?_⟩
     simp [marks]; omega
   ·have hge : ¬ ((ms.length : Int) < R.length) := by omega
    have cm := hT.mb.cell
    have hR : RR = R := by
     obtain ⟨f, hf⟩ : ∃ f, G.length + 1 - ms.length = f + 1 := ⟨G.length - ms.length, by omega⟩
     rw [hf] at hout
     have hq : R[ms.length]? = none := List.getElem?_eq_none (by omega)
     simpa [reachF, hq] using hout.symm
    have HR := Lib.hid hR
    clear hR hout
    gi_wp2
    refine wpIn_wide.2 ?_
    go_quiet (fail)
    gi_wp2
    have h5 := hT.below (below_drewN' (Below.refl _ _) nq)
    have hmm : mbk ∉ ms := fun h => by
     obtain ⟨es, clock, hm, _⟩ := h5.mp.at'
     have := h5.op.at' _ h
     rw [hm] at this; cases this
    refine leaves_marks ms _ h5.op.at' h5.op.nodup ?_
    rw [HT.out, HR.out]
    refine ⟨_, results_tmp2 rfl _ _ _, _, mbk, rfl, ?_, h5.mp.block (shut_other ms _ mbk hmm), by have := hT.hN; have := hT.ge; omega, hS, ?_⟩
    ·exact shut_row ms _ h5.op.at' h5.op.nodup (Row.mono h5.row (by have := hT.hN; omega))
    ·exact shut_below (Nat.le_refl _) ms _ (fun D hD => by have := h5.op.ge D hD; have := hT.hN; omega) h5.bel.size h5.bel
end Go.Proofs.YteaokkaidcbdlaaGreatDoor

