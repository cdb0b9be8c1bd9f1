/- Part 37 of 51: the texts Um, Wr, one behind the other. -/
import Derived.Test.YteaokkaidcbdlaaGreatDoorQ36
import Derived.Test.YteaokkaidcbdlaaGreatDoorQ32
import Derived.Tactics
import Derived.Tactics2
import Derived.WalkKit
import Derived.LoopTactic
import Derived.Outline
import Derived.Lib.Hide
import Derived.Handy
import Derived.KernelRfl
import Derived.Deep.LoopGhost
import Derived.CallsIn
import Derived.Deep.QuietTactic
import Derived.BigQuiet
import Derived.Deep.Draws
import Derived.WalkSpells
import Derived.Lib.Walk
import Derived.Lib.Strings
import Derived.Maps.OwnOps
import Derived.Maps.OwnSet
import Derived.Deep.RegionWith
import Derived.StillTailTactics
import Derived.WalkMore
import Derived.RangeFuncNested
import Derived.RangeFuncBound
import Derived.RangeFuncCalls
import Derived.RangeFuncLeaves
import Derived.RangeFuncBox
import Derived.Shelf.Abstract
import Derived.OwnWalkIn
import Derived.TacticsInMore
import Derived.LoopNIn
import Derived.LoopIn
import Derived.RecoverIn
import Derived.Maps.AppendAt
import Derived.RegionTactic
import Derived.ChangeAlike
import Derived.OwnWalk
import Derived.Deep.AppendLies
import Derived.Deep.DeepCutAuto
import Derived.Deep.RegionLaw
import Derived.Deep.RegionHeld3
import Derived.Laws.EntriesVeiled
import Derived.Test.YteaokkaidcbdlaaGreatDoorQ2
import Derived.Shelf.Strings.BuilderK
/- numbered (81): the types that are reached from one, by their new numbers. -/
namespace Go.Proofs.YteaokkaidcbdlaaGreatDoor
open Go Go.RowKit Go.Shelf
attribute [local go_sem] Oper.semAt_some
/-! ### numbered (81): the types that are reached from one, by their new numbers -/
theorem num127 {W : World} {b : Nat} {o : Option Addr} {c : Nat} {tt : List Int} (hb : Boxed W b 37 (.slice o tt.length c)) (h : SliceOf 1 (IntAt W) (.slice o tt.length c) tt) {x : Int} (h0 : 0 ≤ x) (h1 : x < tt.length) :
    Calls Tryz.prog 127 #[.int .i64 x, .pointer (some ⟨b, 0, none⟩)] W fun e w' => e = .returned (.int .i64 (toF tt x)) ∧ w' = W := by
  obtain ⟨i, rfl⟩ := Int.eq_ofNat_of_zero_le h0
  have hi : i < tt.length := by omega
  obtain ⟨-, -, -, hat⟩ := h.at
  obtain ⟨b', off, rfl, hc⟩ := hat i tt[i] (List.getElem?_eq_getElem hi)
  have hv : toF tt (i : Int) = tt[i] := by unfold toF; simp [List.getD_eq_getElem?_getD, hi]
  rw [hv]
  generalize tt[i] = y at hc ⊢
  unfold IntAt at hc
  rw [Nat.mul_one] at hc
  have hbc := hb.cell
  clear hat
  go_enter Tryz.func127, Tryz.ntmps127
  go_wp2
  go_ret
  exact ⟨rfl, rfl⟩
/-- The number of a class among those that are reached, and 0 if it is none of them. -/
def numN (R : List Nat) (c : Nat) : Nat := if c ∈ R then R.idxOf c else 0
theorem numN_look {R : List Nat} (hn : R.Nodup) (c : Nat) : (lookA (numA R) c).getD (natI 0) = natI (numN R c) := by
  unfold numN
  split
  · rename_i h
    have hi := List.idxOf_lt_length_iff.2 h
    have := lookA_num hn hi
    rw [List.getElem_idxOf hi] at this
    rw [this]; rfl
  · rename_i h
    rw [lookA_none (by rw [numA_keys]; exact h)]; rfl
def numR (G : List TyD) (a : Nat) : List Nat := reachL (clF G) G a
def numTo (G : List TyD) (a : Nat) : List Nat := (classesL G).map (numN (numR G a))
def numT (G : List TyD) (a : Nat) : List TyD := (numR G a).map fun i => mapTy (toF ((numTo G a).map Int.ofNat)) (G.getD i default)
theorem toF_cl (G : List TyD) {x : Nat} (hx : x < G.length) : toF ((classesL G).map Int.ofNat) x = clF G x := by
  have : x < (classesL G).length := by rw [classesL_len]; exact hx
  unfold toF clF
  simp [List.getD_eq_getElem?_getD, this]
set_option maxRecDepth 100000 in
set_option maxHeartbeats 2000000 in
theorem numbered_any (o : Option Addr) (cap : Nat) (G : List TyD) (a : Nat) (W : World) (hG : GrAt W (.slice o G.length cap) G) (hf : Fit G) (ha : a < G.length)
    (hb : ∀ t ∈ G, t.parts.length ≤ 1000 ∧ t.meths.length ≤ 1000 ∧ t.overs.length ≤ 1000 ∧ ∀ m ∈ t.meths, m.args.length ≤ 1000 ∧ m.raises.length ≤ 1000) :
    Calls Tryz.prog 81 #[.slice o G.length cap, .int .i64 a] W fun e w' => ∃ v es, e = .returned v ∧ es.map Ent.t = numT G a ∧ GrOwn W.heap.size w' v es ∧ Below W.heap.size W w' := by
  obtain ⟨h1, h2, h3⟩ := hf
  have HK := hide (classes_any _ G W hG h1 h2 h3)
  go_enter Tryz.func81, Tryz.ntmps81
  go_wp2_with (first | (go_at_call 64; refine (unhide HK).mono ?_; clear HK; rintro e w1 ⟨v1, rfl, hr1, hb1⟩; obtain ⟨o1, c1, rfl⟩ := row_form hr1))
  have hcl : (classesL G).length = G.length := classesL_len G
  have hcm : ((classesL G).map Int.ofNat).length = G.length := by rw [List.length_map]; exact hcl
  have hb12 : Below w1.heap.size w1 (w1.alloc (.cells #[.slice o1 G.length c1] 37)) := (Below.refl _ _).alloc (Nat.le_refl _) _
  have bx := Boxed.new w1 37 (.slice o1 G.length c1)
  generalize w1.alloc (.cells #[.slice o1 G.length c1] 37) = w2 at hb12 bx ⊢
  have hb02 := hb1.trans (hb12.mono hb1.size)
  have hr2 := Row.below hr1 hb12
  have hsl2 : SliceOf 1 (IntAt w2) (.slice o1 ((classesL G).map Int.ofNat).length c1) ((classesL G).map Int.ofNat) := by
    rw [hcm]
    refine row_nats (base := W.heap.size) ?_
    rw [hcl]; exact hr2
  refine (reachedFrom_any o cap G a 127 #[.pointer (some ⟨w1.heap.size, 0, none⟩)] (clF G) w2 (hG.below hb02) h1 h3 ha (fun x hx => Nat.lt_of_le_of_lt (clF_le G x hx) hx) (fun W' hbW x hx => by
    have hx' : x < G.length := hx
    rw [← toF_cl G hx']
    exact num127 (by rw [hcm]; exact (hbW.block _ bx.lt).trans bx) (hsl2.mono fun _ _ _ _ => IntAt.go (.below hbW)) (by omega) (by rw [hcm]; omega)) (enters_of Tryz.func127 (by kernel_rfl) rfl)).mono ?_
  rintro e w4 ⟨vR, mbk, rfl, hrR, hMN, hmk, hRI, hb24⟩
  have hNR := Lib.hid (show reachL (clF G) G a = numR G a from rfl)
  rw [hNR.out] at hrR hMN hRI
  obtain ⟨oR, cR, rfl⟩ := row_form hrR
  have hRl := hRI.len
  have hr4 := Row.below hr2 hb24
  have hx4 : Boxed w4 w1.heap.size 37 _ := (hb24.block _ bx.lt).trans bx
  have hb04 := hb02.trans (hb24.mono hb02.size)
  have hc4 := hx4.cell
  have hNT := Lib.hid (show (classesL G).map (numN (numR G a)) = numTo G a from rfl)
  have hNU := Lib.hid (show numT G a = (numR G a).map fun i => mapTy (toF ((numTo G a).map Int.ofNat)) (G.getD i default) from rfl)
  generalize numR G a = R at hrR hMN hRI hRl hNT hNU ⊢
  go_wp2
  clear hb12 bx hr1 hr2 hsl2 hx4 hc4 hb02
  go_loopw [8, 22] (fun v i wr => ∃ k : Nat, k ≤ G.length ∧ i = .int .i64 k ∧ Below w4.heap.size w4 wr ∧ wr.ownsRow w4.heap.size 3 1 v k (natsV (((classesL G).take k).map (numN R)))) (fun _ i _ => G.length - (intOf i).toNat)
  case atStart => exact ⟨0, Nat.zero_le _, rfl, Below.refl _ _, World.ownsRow_nil _ _ _ _⟩
  case round =>
    obtain ⟨k, hk, rfl, hbw, hrow⟩ := hrel
    obtain ⟨o8, c8, rfl⟩ := row_form hrow
    by_cases hlt : k < G.length
    · have hlt' : (k : Int) < G.length := by omega
      obtain ⟨g1, rfl⟩ := row_some hr4 (by omega)
      have hkc : k < (classesL G).length := by omega
      have hcc : wr.cell? ⟨g1, k, none⟩ = some (.int .i64 (clF G k)) := Holds.below hbw _ _ (classes_cell hr4 k hlt)
      have hcn : clF G k < G.length := Nat.lt_of_le_of_lt (clF_le G k hlt) hlt
      have hck : (classesL G)[k] = clF G k := by unfold clF; simp [List.getD_eq_getElem?_getD, hkc]
      have hMN2 : MapN wr mbk R := hMN.below hbw hMN.lt
      obtain ⟨kl, hkl⟩ := key_nat (n := clF G k) (by omega)
      have hlook := hMN2.lookup law3 natI_inj' Tryz.underlying95 (Tryz.zeroValue3 wr) false (k := clF G k) hkl
      simp only [Bool.false_eq_true, if_false] at hlook
      rw [show (Value.int IntKind.i64 0) = natI 0 from rfl, numN_look hRI.nodup] at hlook
      unfold natI at hlook
      have hsn : ((classesL G).take (k + 1)).map (numN R) = ((classesL G).take k).map (numN R) ++ [numN R (clF G k)] := by
        rw [List.take_succ_eq_append_getElem hkc, List.map_append, hck]; rfl
      have hlk : (((classesL G).take k).map (numN R)).length = k := by simp; omega
      have HSN := Lib.hid hsn
      generalize numN R (clF G k) = nk at hlook HSN
      generalize ((classesL G).take k).map (numN R) = M at hrow hlk HSN
      generalize clF G k = ck at hcc hcn hlook
      have hN := hbw.size
      subst hlk
      clear hsn hck hkl hMN2
      go_wp2_with (first | (at_builtin; refine app_lies _ _ 37 3 (.int .i64 0) 8 info3 Tryz.underlying37 rfl (by decide) rfl rfl w4.heap.size _ (natsV M) rfl (by rw [natsV_len]; exact hrow.alloc _) _ (natI nk) rfl ?c1 rfl (by rw [natsV_len]; omega) ?c2 ?_))
      case c1 => exact (Blk.new wr [natI nk] 3).cell 0
      case c2 => simp; omega
      intro g cap2 w5 hown' hgrow hg hbl
      rw [natsV_len] at hown' ⊢
      have hb5 := hbl _ _ (hbw.alloc hN (.cells #[natI nk] 3)) (Nat.le_refl _)
      go_wp2
      go_roundw
      case rel => exact ⟨M.length + 1, by omega, by go_num, hb5, by rw [HSN.out, natsV_snoc]; exact hown'⟩
      case measure => simp [intOf]; omega
    · obtain rfl : k = G.length := by omega
      rw [show (classesL G).take G.length = classesL G by rw [← hcl, List.take_length], hNT.out] at hrow
      have hTl : (numTo G a).length = G.length := by unfold numTo; rw [List.length_map]; exact hcl
      have hB3 := hb04.trans (hbw.mono hb04.size)
      have HP := hide (picked_any o cap G (R.map fun i => G.getD i default) R ((numTo G a).map Int.ofNat) (.slice oR R.length cR) (.slice o8 G.length c8) wr (hG.below hB3) (row_nats (Row.below hrR hbw)) (by
          have := row_nats (v := .slice o8 G.length c8) (l := numTo G a) (base := w4.heap.size) (w := wr) (by rw [hTl]; exact hrow)
          exact this) (by omega) (by simp)
        (fun j hj => ⟨hRI.bnd _ (List.getElem_mem hj), by
          have := hRI.bnd _ (List.getElem_mem hj)
          simp [hj, List.getD_eq_getElem?_getD, this]⟩) hb
        (fun t ht => by
          obtain ⟨i, hi, rfl⟩ := List.mem_map.1 ht
          have hi' := hRI.bnd i hi
          have hm : G.getD i default ∈ G := by
            rw [List.getD_eq_getElem?_getD, List.getElem?_eq_getElem hi']; exact List.getElem_mem hi'
          intro x hx
          have := h3 _ hm x hx
          rw [List.length_map, hTl]; exact this))
      have hT : (List.map (fun i => G.getD i default) R).map (mapTy (toF ((numTo G a).map Int.ofNat))) = numT G a := by rw [hNU.out, List.map_map]; rfl
      rw [hT] at HP
      have hsz := hB3.size
      clear hT hNT hNU hRI hMN hrow hr4 hbw hb
      go_wp2_with (first | (go_at_call 70; refine (unhide HP).mono ?_; clear HP; rintro e w6 ⟨v, es, rfl, he, hO, hb6⟩))
      go_ret
      refine ⟨_, es, rfl, he, ⟨Row.mono hO.row hsz, fun e he => ?_⟩, hB3.trans (hb6.mono hB3.size)⟩
      obtain ⟨S, E, a, b, c, d⟩ := hO.far e he
      exact ⟨S, E, by omega, b, c, d⟩
end Go.Proofs.YteaokkaidcbdlaaGreatDoor
/- The writer: what its builder's methods do. -/
namespace Go.Proofs.YteaokkaidcbdlaaGreatDoor
open Go Go.RowKit Go.Shelf
attribute [local go_sem] Oper.semAt_some
open Go.Sort
/-! ### The writer (type 164: a strings.Builder, embedded): what its builder's methods do -/
theorem info5 : (Tryz.prog.info? 5).map (fun i => (i.zero, i.size, i.bytes)) = some (some (.int .u8 0), 1, 1) := by kernel_rfl
theorem size162 : (Tryz.prog.info? 162).map (·.size) = some 2 := by kernel_rfl
theorem lies162 : liesAt Tryz.prog Tryz.prog.depth 164 (2 / Tryz.prog.cellsOf 164) 0 162 1 = true := by kernel_rfl
/-- A writer that holds these bytes, in a block of its own. -/
abbrev WAt (B b : Nat) (l : List UInt8) (w : World) : Prop := Lib.IsBuilderF 164 5 B b (Lib.byteCells l) w
set_option maxRecDepth 100000 in
theorem wrCheck_fresh (b : Nat) (w : World) (h0 : w.cell? ⟨b, 0, none⟩ = some (.pointer none)) (hsh : w.shape? b = some (164, 2)) (hfz : w.frozen? ⟨b, 0, none⟩ = false) :
    Calls Tryz.prog 181 #[.pointer (some ⟨b, 0, none⟩)] w fun e w' => e = .returned (.tuple #[]) ∧ w' = w.setCell ⟨b, 0, none⟩ (.pointer (some ⟨b, 0, none⟩)) := by
  obtain ⟨j, hj, hjs⟩ := Option.map_eq_some_iff.1 size162
  go_enter Tryz.func181, Tryz.ntmps181
  go_wp2
  rw [Lib.run_to_unsafe w ⟨b, 0, none⟩ Tryz.underlying159 Tryz.underlying236 hj (by rw [hjs]; decide) hsh (Nat.zero_lt_succ 1)]
  simp only [Result.andThen]
  rw [Oper.upon_value]
  go_wp2
  rw [run_callFunc_extern Tryz.func209 (by kernel_rfl) (by kernel_rfl) (by kernel_rfl) (e := Extern.AbiNoEscape.same) (by kernel_rfl)]
  rw [Lib.run_noEscape]
  simp only [Result.andThen]
  rw [Oper.upon_value]
  go_wp2
  rw [Lib.run_from_unsafe w ⟨b, 0, none⟩ Tryz.underlying236 Tryz.underlying159 hj hsh lies162]
  simp only [Result.andThen]
  rw [Oper.upon_value]
  go_wp2
  go_end0
  exact ⟨rfl, rfl⟩
set_option maxRecDepth 100000 in
theorem wrCheck_used (b : Nat) (w : World) (h0 : w.cell? ⟨b, 0, none⟩ = some (.pointer (some ⟨b, 0, none⟩))) :
    Calls Tryz.prog 181 #[.pointer (some ⟨b, 0, none⟩)] w fun e w' => e = .returned (.tuple #[]) ∧ w' = w := by
  obtain ⟨j, hj, _⟩ := Option.map_eq_some_iff.1 size162
  go_enter Tryz.func181, Tryz.ntmps181
  go_wp2
  rw [Lib.run_neq_ptr_same w _ Tryz.underlying159 hj]
  go_wp2
  go_end0
  exact ⟨rfl, rfl⟩
theorem wrCheck (B b : Nat) (bs : List Value) (w : World) (h : Lib.IsBuilderF 164 5 B b bs w) :
    Calls Tryz.prog 181 #[.pointer (some ⟨b, 0, none⟩)] w fun e w' => e = .returned (.tuple #[]) ∧ Lib.BuilderAtF 164 5 B b (.pointer (some ⟨b, 0, none⟩)) bs w' ∧ Below B w w' ∧ Lib.OthersKept 5 (some b) w w' := by
  rcases h with h | h
  · refine (wrCheck_fresh b w h.cell0 h.shape h.frozen0).mono ?_
    rintro e w' ⟨rfl, rfl⟩
    exact ⟨rfl, h.used _, (Below.refl B w).setCell (p := ⟨b, 0, none⟩) h.1 _, (Lib.OthersKept.refl _ _ w).setCell ⟨b, 0, none⟩ rfl _⟩
  · refine (wrCheck_used b w h.cell0).mono ?_
    rintro e w' ⟨rfl, rfl⟩
    exact ⟨rfl, h, Below.refl B _, Lib.OthersKept.refl _ _ _⟩
set_option maxHeartbeats 2000000 in
set_option maxRecDepth 100000 in
theorem wrByte (B b : Nat) (l : List UInt8) (c : UInt8) (w : World) (h : WAt B b l w) (hlen : l.length + 1 ≤ 140737488355328) (hBw : B ≤ w.heap.size) :
    Calls Tryz.prog 125 #[.pointer (some ⟨b, 0, none⟩), .int .u8 c.toNat] w fun e w' => e = .returned .nilIface ∧ WAt B b (l ++ [c]) w' ∧ Below B w w' ∧ Lib.OthersKept 5 (some b) w w' := by
  obtain ⟨i0, hi, hz0, hz1, hz2⟩ := info_parts info5
  have hll : (Lib.byteCells l).length = l.length := Lib.byteCells_length l
  have hbc : Lib.byteCells (l ++ [c]) = Lib.byteCells l ++ [.int .u8 c.toNat] := by rw [Lib.byteCells_append]; rfl
  unfold WAt at h ⊢
  rw [hbc]
  generalize Lib.byteCells l = bs at h hll ⊢
  rw [← hll] at hlen
  clear hbc hll
  go_enter Tryz.func125, Tryz.ntmps125
  go_wp2_with (go_at_call 181; refine (wrCheck B b bs _ h).mono ?_)
  rintro e w1 ⟨rfl, h1, hb1, hk1⟩
  obtain ⟨hB, v, hbk, hown, hne⟩ := h1
  have c0 : w1.cell? ⟨b, 0, none⟩ = some (.pointer (some ⟨b, 0, none⟩)) := by rw [Lib.cell_of_heap hbk]; rfl
  have c1 : w1.cell? ⟨b, 1, none⟩ = some v := by rw [Lib.cell_of_heap hbk]; rfl
  go_wp2_with (at_builtin; refine wpList_append_ownF _ rfl _ _ 160 rfl B 5 i0 (.int .u8 0) 1 1 Tryz.underlying160 hi hz0 hz1 hz2 rfl (by decide) _ _ _ rfl (hown.alloc _) ⟨w1.heap.size, 0, none⟩ 1 1 [.int .u8 c.toNat] rfl rfl ?c1 ?c2 ?c3 ?c4 ?c5 ?_)
  case c1 =>
    intro j u hj
    match j, hj with
    | 0, hj => simp at hj; subst hj; simp [Addr.add]
  case c2 => intro u hu; simp at hu; subst hu; rfl
  case c3 => unfold maxLen; omega
  case c4 => omega
  case c5 => have := hb1.size; simp; omega
  intro v' w2 hown' hgrow _
  have hlt : b < w1.heap.size := (Array.getElem?_eq_some_iff.1 hbk).1
  have hb2 : w2.heap[b]? = some (.cells #[.pointer (some ⟨b, 0, none⟩), v] 164 (0, 0)) := by
    rw [hgrow.block b (by simp; omega) (fun e => hne e.symm), Lib.alloc_old w1 _ b hlt]
    exact hbk
  have d0 : w2.cell? ⟨b, 0, none⟩ = some (.pointer (some ⟨b, 0, none⟩)) := by rw [Lib.cell_of_heap hb2]; rfl
  have d1 : w2.cell? ⟨b, 1, none⟩ = some v := by rw [Lib.cell_of_heap hb2]; rfl
  have f1 : w2.frozen? ⟨b, 1, none⟩ = false := Lib.frozen_of_heap hb2 1
  obtain ⟨g, cap, rfl⟩ : ∃ g cap, v' = .slice (some ⟨g, 0, none⟩) (bs.length + 1) cap := by
    rcases hown'.2 with ⟨_, h0⟩ | ⟨g, cap, cur, fz, hv, _⟩
    · omega
    · exact ⟨g, cap, hv⟩
  go_wp2
  go_ret
  refine ⟨rfl, .inr ?_, ?_, ((hk1.alloc _).grown hgrow (Lib.ownsRowF_kind (hown.alloc _))).setCell ⟨b, 1, none⟩ rfl _⟩
  · exact Lib.BuilderAtF.put (T := 164) (e := 5) hB hb2 (bs' := bs ++ [.int .u8 c.toNat]) (by simpa using hown') (by decide)
  · exact ((hb1.alloc (by have := hb1.size; omega) _).grown hgrow (by have := hb1.size; simp; omega) (fun k hk => (hown.lt k hk).1)).setCell (p := ⟨b, 1, none⟩) hB _
set_option maxHeartbeats 2000000 in
set_option maxRecDepth 100000 in
theorem wrString (B b : Nat) (l : List UInt8) (s : ByteArray) (w : World) (h : WAt B b l w) (hlen : l.length + s.size ≤ 140737488355328) (hBw : B ≤ w.heap.size) :
    Calls Tryz.prog 141 #[.pointer (some ⟨b, 0, none⟩), .string s] w fun e w' => e = .returned (.tuple #[.int .i64 s.size, .nilIface]) ∧ WAt B b (l ++ s.data.toList) w' ∧ Below B w w' ∧ Lib.OthersKept 5 (some b) w w' := by
  obtain ⟨i0, hi, hz0, hz1, hz2⟩ := info_parts info5
  have hll : (Lib.byteCells l).length = l.length := Lib.byteCells_length l
  have hbc : Lib.byteCells (l ++ s.data.toList) = Lib.byteCells l ++ Lib.strCells s := by rw [Lib.byteCells_append]; rfl
  unfold WAt at h ⊢
  rw [hbc]
  generalize Lib.byteCells l = bs at h hll ⊢
  rw [← hll] at hlen
  clear hbc hll
  go_enter Tryz.func141, Tryz.ntmps141
  go_wp2_with (go_at_call 181; refine (wrCheck B b bs _ h).mono ?_)
  rintro e w1 ⟨rfl, h1, hb1, hk1⟩
  obtain ⟨hB, v, hbk, hown, hne⟩ := h1
  have c0 : w1.cell? ⟨b, 0, none⟩ = some (.pointer (some ⟨b, 0, none⟩)) := by rw [Lib.cell_of_heap hbk]; rfl
  have c1 : w1.cell? ⟨b, 1, none⟩ = some v := by rw [Lib.cell_of_heap hbk]; rfl
  go_wp2_with (at_builtin; refine Lib.wpList_append_own_stringF _ rfl _ _ 160 9 rfl B 5 i0 Tryz.underlying160 Tryz.underlying9 hi hz0 hz1 hz2 _ _ _ rfl hown s rfl ?c3 ?c4 ?c5 ?_)
  case c3 => unfold maxLen; omega
  case c4 => omega
  case c5 => have := hb1.size; omega
  intro v' w2 hown' hgrow _
  have hlt : b < w1.heap.size := (Array.getElem?_eq_some_iff.1 hbk).1
  have hb2 : w2.heap[b]? = some (.cells #[.pointer (some ⟨b, 0, none⟩), v] 164 (0, 0)) := by
    rw [hgrow.block b hlt (fun e => hne e.symm)]
    exact hbk
  have d0 : w2.cell? ⟨b, 0, none⟩ = some (.pointer (some ⟨b, 0, none⟩)) := by rw [Lib.cell_of_heap hb2]; rfl
  have d1 : w2.cell? ⟨b, 1, none⟩ = some v := by rw [Lib.cell_of_heap hb2]; rfl
  have f1 : w2.frozen? ⟨b, 1, none⟩ = false := Lib.frozen_of_heap hb2 1
  obtain ⟨ao, n', cap, rfl⟩ : ∃ ao n' cap, v' = .slice ao n' cap := by
    rcases hown'.2 with ⟨hv, _⟩ | ⟨g, cap, cur, fz, hv, _⟩
    · exact ⟨_, _, _, hv⟩
    · exact ⟨_, _, _, hv⟩
  go_wp2
  go_ret2
  refine ⟨rfl, .inr ?_, ?_, (hk1.grown hgrow (Lib.ownsRowF_kind hown)).setCell ⟨b, 1, none⟩ rfl _⟩
  · exact Lib.BuilderAtF.put (T := 164) (e := 5) hB hb2 (bs' := bs ++ Lib.strCells s) (by simpa [Lib.strCells_length] using hown') (by decide)
  · exact (hb1.grown hgrow (by have := hb1.size; omega) (fun k hk => (hown.lt k hk).1)).setCell (p := ⟨b, 1, none⟩) hB _
end Go.Proofs.YteaokkaidcbdlaaGreatDoor
