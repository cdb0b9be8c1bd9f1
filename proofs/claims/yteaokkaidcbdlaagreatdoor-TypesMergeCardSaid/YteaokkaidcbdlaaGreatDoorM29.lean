/- Part 29 of 53: the texts Wr, Wn, Wq, Wf, one behind the other. -/
import Derived.Test.YteaokkaidcbdlaaGreatDoorM28
import Derived.Test.YteaokkaidcbdlaaGreatDoorM1
import Derived.Lib.ItoaLen
import Derived.Lib.BufferKept
namespace Go.Proofs.YteaokkaidcbdlaaGreatDoor
open Go Go.RowKit Go.Shelf
attribute [local go_sem] Oper.semAt_some
open Go.Sort
theorem info5 : (Tryz.prog.info? 5).map (fun i => (i.zero, i.size, i.bytes)) = some (some (.int .u8 0), 1, 1) := by kernel_rfl
theorem size162 : (Tryz.prog.info? 162).map (·.size) = some 2 := by kernel_rfl
theorem lies162 : liesAt Tryz.prog Tryz.prog.depth 164 (2 / Tryz.prog.cellsOf 164) 0 162 1 = true := by kernel_rfl
abbrev WAt (B b : Nat) (l : List UInt8) (w : World) : Prop := Lib.IsBuilderF 164 5 B b (Lib.byteCells l) w
set_option maxRecDepth 100000 in
theorem wrCheck_fresh (b : Nat) (w : World) (h0 : w.cell? ⟨b, 0, none⟩ = some (.pointer none)) (hsh : w.shape? b = some (164, 2)) (hfz : w.frozen? ⟨b, 0, none⟩ = false) :
    Calls Tryz.prog 181 #[.pointer (some ⟨b, 0, none⟩)] w fun e w' => e = .returned (.tuple #[]) ∧ w' = w.setCell ⟨b, 0, none⟩ (.pointer (some ⟨b, 0, none⟩)) := by
  obtain ⟨j, hj, hjs⟩ := Option.map_eq_some_iff.1 size162
  go_enter Tryz.func181, Tryz.ntmps181
  go_wp2
  rw [Lib.run_to_unsafe w ⟨b, 0, none⟩ Tryz.underlying159 Tryz.underlying236 hj (by rw [hjs]; decide) hsh (Nat.zero_lt_succ 1)]
  simp only [Result.andThen]
  rw [Oper.upon_value]
  go_wp2
  rw [run_callFunc_extern Tryz.func209 (by kernel_rfl) (by kernel_rfl) (by kernel_rfl) (e := Extern.AbiNoEscape.same) (by kernel_rfl)]
  rw [Lib.run_noEscape]
  simp only [Result.andThen]
  rw [Oper.upon_value]
  go_wp2
  rw [Lib.run_from_unsafe w ⟨b, 0, none⟩ Tryz.underlying236 Tryz.underlying159 hj hsh lies162]
  simp only [Result.andThen]
  rw [Oper.upon_value]
  go_wp2
  go_end0
  exact ⟨rfl, rfl⟩
set_option maxRecDepth 100000 in
theorem wrCheck_used (b : Nat) (w : World) (h0 : w.cell? ⟨b, 0, none⟩ = some (.pointer (some ⟨b, 0, none⟩))) :
    Calls Tryz.prog 181 #[.pointer (some ⟨b, 0, none⟩)] w fun e w' => e = .returned (.tuple #[]) ∧ w' = w := by
  obtain ⟨j, hj, _⟩ := Option.map_eq_some_iff.1 size162
  go_enter Tryz.func181, Tryz.ntmps181
  go_wp2
  rw [Lib.run_neq_ptr_same w _ Tryz.underlying159 hj]
  go_wp2
  go_end0
  exact ⟨rfl, rfl⟩
theorem wrCheck (B b : Nat) (bs : List Value) (w : World) (h : Lib.IsBuilderF 164 5 B b bs w) :
    Calls Tryz.prog 181 #[.pointer (some ⟨b, 0, none⟩)] w fun e w' => e = .returned (.tuple #[]) ∧ Lib.BuilderAtF 164 5 B b (.pointer (some ⟨b, 0, none⟩)) bs w' ∧ Below B w w' ∧ Lib.OthersKept 5 (some b) w w' := by
  rcases h with h | h
  ·refine (wrCheck_fresh b w h.cell0 h.shape h.frozen0).mono ?_
   rintro e w' ⟨rfl, rfl⟩
   exact ⟨rfl, h.used _, (Below.refl B w).setCell (p := ⟨b, 0, none⟩) h.1 _, (Lib.OthersKept.refl _ _ w).setCell ⟨b, 0, none⟩ rfl _⟩
  ·refine (wrCheck_used b w h.cell0).mono ?_
   rintro e w' ⟨rfl, rfl⟩
   exact ⟨rfl, h, Below.refl B _, Lib.OthersKept.refl _ _ _⟩
set_option maxHeartbeats 2000000 in
set_option maxRecDepth 100000 in
theorem wrByte (B b : Nat) (l : List UInt8) (c : UInt8) (w : World) (h : WAt B b l w) (hlen : l.length + 1 ≤ 140737488355328) (hBw : B ≤ w.heap.size) :
    Calls Tryz.prog 125 #[.pointer (some ⟨b, 0, none⟩), .int .u8 c.toNat] w fun e w' => e = .returned .nilIface ∧ WAt B b (l ++ [c]) w' ∧ Below B w w' ∧ Lib.OthersKept 5 (some b) w w' := by
  obtain ⟨i0, hi, hz0, hz1, hz2⟩ := info_parts info5
  have hll : (Lib.byteCells l).length = l.length := Lib.byteCells_length l
  have hbc : Lib.byteCells (l ++ [c]) = Lib.byteCells l ++ [.int .u8 c.toNat] := by rw [Lib.byteCells_append]; rfl
  unfold WAt at h ⊢
  rw [hbc]
  generalize Lib.byteCells l = bs at h hll ⊢
  rw [← hll] at hlen
  clear hbc hll
  go_enter Tryz.func125, Tryz.ntmps125
  go_wp2_with (go_at_call 181; refine (wrCheck B b bs _ h).mono ?_)
  rintro e w1 ⟨rfl, h1, hb1, hk1⟩
  obtain ⟨hB, v, hbk, hown, hne⟩ := h1
  have c0 : w1.cell? ⟨b, 0, none⟩ = some (.pointer (some ⟨b, 0, none⟩)) := by rw [Lib.cell_of_heap hbk]; rfl
  have c1 : w1.cell? ⟨b, 1, none⟩ = some v := by rw [Lib.cell_of_heap hbk]; rfl
  go_wp2_with (at_builtin; refine wpList_append_ownF _ rfl _ _ 160 rfl B 5 i0 (.int .u8 0) 1 1 Tryz.underlying160 hi hz0 hz1 hz2 rfl (by decide) _ _ _ rfl (hown.alloc _) ⟨w1.heap.size, 0, none⟩ 1 1 [.int .u8 c.toNat] rfl rfl ?c1 ?c2 ?c3 ?c4 ?c5 ?_)
  case c1 =>
   intro j u hj
   match j, hj with
   | 0, hj => simp at hj; subst hj; simp [Addr.add]
  case c2 => intro u hu; simp at hu; subst hu; rfl
  case c3 => unfold maxLen; omega
  case c4 => omega
  case c5 => have := hb1.size; simp; omega
  intro v' w2 hown' hgrow _
  have hlt : b < w1.heap.size := (Array.getElem?_eq_some_iff.1 hbk).1
  have hb2 : w2.heap[b]? = some (.cells #[.pointer (some ⟨b, 0, none⟩), v] 164 (0, 0)) := by
   rw [hgrow.block b (by simp; omega) (fun e => hne e.symm), Lib.alloc_old w1 _ b hlt]
   exact hbk
  have d0 : w2.cell? ⟨b, 0, none⟩ = some (.pointer (some ⟨b, 0, none⟩)) := by rw [Lib.cell_of_heap hb2]; rfl
  have d1 : w2.cell? ⟨b, 1, none⟩ = some v := by rw [Lib.cell_of_heap hb2]; rfl
  have f1 : w2.frozen? ⟨b, 1, none⟩ = false := Lib.frozen_of_heap hb2 1
  obtain ⟨g, cap, rfl⟩ : ∃ g cap, v' = .slice (some ⟨g, 0, none⟩) (bs.length + 1) cap := by
   rcases hown'.2 with ⟨_, h0⟩ | ⟨g, cap, cur, fz, hv, _⟩
   ·omega
   ·exact ⟨g, cap, hv⟩
  go_wp2
  go_ret
  refine ⟨rfl, .inr ?_, ?_, ((hk1.alloc _).grown hgrow (Lib.ownsRowF_kind (hown.alloc _))).setCell ⟨b, 1, none⟩ rfl _⟩
  ·exact Lib.BuilderAtF.put (T := 164) (e := 5) hB hb2 (bs' := bs ++ [.int .u8 c.toNat]) (by simpa using hown') (by decide)
  ·exact ((hb1.alloc (by have := hb1.size; omega) _).grown hgrow (by have := hb1.size; simp; omega) (fun k hk => (hown.lt k hk).1)).setCell (p := ⟨b, 1, none⟩) hB _
set_option maxHeartbeats 2000000 in
set_option maxRecDepth 100000 in
theorem wrString (B b : Nat) (l : List UInt8) (s : ByteArray) (w : World) (h : WAt B b l w) (hlen : l.length + s.size ≤ 140737488355328) (hBw : B ≤ w.heap.size) :
    Calls Tryz.prog 141 #[.pointer (some ⟨b, 0, none⟩), .string s] w fun e w' => e = .returned (.tuple #[.int .i64 s.size, .nilIface]) ∧ WAt B b (l ++ s.data.toList) w' ∧ Below B w w' ∧ Lib.OthersKept 5 (some b) w w' := by
  obtain ⟨i0, hi, hz0, hz1, hz2⟩ := info_parts info5
  have hll : (Lib.byteCells l).length = l.length := Lib.byteCells_length l
  have hbc : Lib.byteCells (l ++ s.data.toList) = Lib.byteCells l ++ Lib.strCells s := by rw [Lib.byteCells_append]; rfl
  unfold WAt at h ⊢
  rw [hbc]
  generalize Lib.byteCells l = bs at h hll ⊢
  rw [← hll] at hlen
  clear hbc hll
  go_enter Tryz.func141, Tryz.ntmps141
  go_wp2_with (go_at_call 181; refine (wrCheck B b bs _ h).mono ?_)
  rintro e w1 ⟨rfl, h1, hb1, hk1⟩
  obtain ⟨hB, v, hbk, hown, hne⟩ := h1
  have c0 : w1.cell? ⟨b, 0, none⟩ = some (.pointer (some ⟨b, 0, none⟩)) := by rw [Lib.cell_of_heap hbk]; rfl
  have c1 : w1.cell? ⟨b, 1, none⟩ = some v := by rw [Lib.cell_of_heap hbk]; rfl
  go_wp2_with (at_builtin; refine Lib.wpList_append_own_stringF _ rfl _ _ 160 9 rfl B 5 i0 Tryz.underlying160 Tryz.underlying9 hi hz0 hz1 hz2 _ _ _ rfl hown s rfl ?c3 ?c4 ?c5 ?_)
  case c3 => unfold maxLen; omega
  case c4 => omega
  case c5 => have := hb1.size; omega
  intro v' w2 hown' hgrow _
  have hlt : b < w1.heap.size := (Array.getElem?_eq_some_iff.1 hbk).1
  have hb2 : w2.heap[b]? = some (.cells #[.pointer (some ⟨b, 0, none⟩), v] 164 (0, 0)) := by
   rw [hgrow.block b hlt (fun e => hne e.symm)]
   exact hbk
  have d0 : w2.cell? ⟨b, 0, none⟩ = some (.pointer (some ⟨b, 0, none⟩)) := by rw [Lib.cell_of_heap hb2]; rfl
  have d1 : w2.cell? ⟨b, 1, none⟩ = some v := by rw [Lib.cell_of_heap hb2]; rfl
  have f1 : w2.frozen? ⟨b, 1, none⟩ = false := Lib.frozen_of_heap hb2 1
  obtain ⟨ao, n', cap, rfl⟩ : ∃ ao n' cap, v' = .slice ao n' cap := by
   rcases hown'.2 with ⟨hv, _⟩ | ⟨g, cap, cur, fz, hv, _⟩
   ·exact ⟨_, _, _, hv⟩
   ·exact ⟨_, _, _, hv⟩
  go_wp2
  go_ret2
  refine ⟨rfl, .inr ?_, ?_, (hk1.grown hgrow (Lib.ownsRowF_kind hown)).setCell ⟨b, 1, none⟩ rfl _⟩
  ·exact Lib.BuilderAtF.put (T := 164) (e := 5) hB hb2 (bs' := bs ++ Lib.strCells s) (by simpa [Lib.strCells_length] using hown') (by decide)
  ·exact (hb1.grown hgrow (by have := hb1.size; omega) (fun k hk => (hown.lt k hk).1)).setCell (p := ⟨b, 1, none⟩) hB _
end Go.Proofs.YteaokkaidcbdlaaGreatDoor

namespace Go.Proofs.YteaokkaidcbdlaaGreatDoor
open Go Go.RowKit Go.Shelf
attribute [local go_sem] Oper.semAt_some
open Go.Sort
theorem WAt.below {B b : Nat} {l : List UInt8} {w w' : World} (h : WAt B b l w) (hb : Below w.heap.size w w') : WAt B b l w' := by
 have hg : w.grownBy w' none := ⟨hb.os, hb.tape, hb.output, hb.size, fun k hk _ => hb.block k hk⟩
 have hgo : ∀ p, Lib.BuilderAtF 164 5 B b p (Lib.byteCells l) w → Lib.BuilderAtF 164 5 B b p (Lib.byteCells l) w' := by
  rintro p ⟨hB, v, hbk, hown, hne⟩
  refine ⟨hB, v, (hb.block _ (Array.getElem?_eq_some_iff.1 hbk).1).trans hbk, hown.kept hg ?_, hne⟩
  cases hv : v.ownBlock with
  | none => exact .inl rfl
  | some g => exact .inr (by simp)
 exact h.elim (fun h => .inl (hgo _ h)) (fun h => .inr (hgo _ h))
theorem WAt.ge {B b : Nat} {l : List UInt8} {w : World} (h : WAt B b l w) : B ≤ b ∧ b < w.heap.size := by
 rcases h with ⟨hB, v, hbk, _⟩ | ⟨hB, v, hbk, _⟩ <;> exact ⟨hB, (Array.getElem?_eq_some_iff.1 hbk).1⟩
structure P10 (B : Nat) (w : World) : Prop where
 tab : Lib.TabIs Tryz.prog w "internal/strconv.uint64pow10" .u64 Lib.pow10Tab
 lt : ∃ g, Tryz.prog.globalNamed "internal/strconv.uint64pow10" = some g ∧ g < B
theorem P10.below {B : Nat} {w w' : World} (h : P10 B w) (hb : Below B w w') : P10 B w' := by
 obtain ⟨ht, g, hg, hlt⟩ := h
 refine ⟨?_, g, hg, hlt⟩
 unfold Lib.TabIs World.var? at ht ⊢
 rw [hg] at ht ⊢
 simp only [Option.bind_some] at ht ⊢
 rw [hb.block g hlt]; exact ht
structure WS (B b : Nat) (w0 : World) (l : List UInt8) (w : World) : Prop where
 at' : WAt B b l w
 bel : Below B w0 w
 oth : Lib.OthersKept 5 (some b) w0 w
theorem WS.refl {B b : Nat} {l : List UInt8} {w : World} (h : WAt B b l w) : WS B b w l w := ⟨h, Below.refl _ _, Lib.OthersKept.refl _ _ _⟩
theorem WS.trans {B b : Nat} {l l' : List UInt8} {w0 w w' : World} (h : WS B b w0 l w) (h' : WS B b w l' w') : WS B b w0 l' w' := ⟨h'.at', h.bel.trans h'.bel, h.oth.trans h'.oth⟩
theorem WS.below {B b : Nat} {l : List UInt8} {w0 w w' : World} (h : WS B b w0 l w) (hb : Below w.heap.size w w') : WS B b w0 l w' :=
 ⟨h.at'.below hb, h.bel.trans (hb.mono (by have := h.at'.ge; omega)), h.oth.below hb⟩
theorem wr141 {B b : Nat} {l : List UInt8} (s : ByteArray) {w : World} (h : WAt B b l w) (hlen : l.length + s.size ≤ 140737488355328) :
    Calls Tryz.prog 141 #[.pointer (some ⟨b, 0, none⟩), .string s] w fun e w' => e = .returned (.tuple #[.int .i64 s.size, .nilIface]) ∧ WS B b w (l ++ s.data.toList) w' :=
  (wrString B b l s w h hlen (by have := h.ge; omega)).mono (by rintro e w' ⟨rfl, h1, h2, h3⟩; exact ⟨rfl, h1, h2, h3⟩)
theorem wr125 {B b : Nat} {l : List UInt8} (c : UInt8) {w : World} (h : WAt B b l w) (hlen : l.length + 1 ≤ 140737488355328) :
    Calls Tryz.prog 125 #[.pointer (some ⟨b, 0, none⟩), .int .u8 c.toNat] w fun e w' => e = .returned .nilIface ∧ WS B b w (l ++ [c]) w' :=
  (wrByte B b l c w h hlen (by have := h.ge; omega)).mono (by rintro e w' ⟨rfl, h1, h2, h3⟩; exact ⟨rfl, h1, h2, h3⟩)
theorem below_grown3 (w : World) (k : Nat) (os : Array Obj) : Below w.heap.size w (Sort.grow (w.drewN k) os) := by
 refine ⟨rfl, rfl, rfl, by simp [Sort.grow], fun j hj => ?_⟩
 show (w.heap ++ os)[j]? = _
 rw [Array.getElem?_append_left hj]
set_option maxHeartbeats 2000000 in
set_option maxRecDepth 100000 in
theorem wrNum {B b : Nat} {l : List UInt8} (n : Int) (h0 : -9223372036854775808 ≤ n) (h1 : n ≤ 9223372036854775807) {w : World} (h : WAt B b l w) (hp : P10 B w) (hlen : l.length ≤ 1000000000) :
    Calls Tryz.prog 124 #[.pointer (some ⟨b, 0, none⟩), .int .i64 n] w fun e w' => e = .returned (.tuple #[]) ∧ WS B b w (l ++ Lib.itoa n) w' := by
  have hli := Lib.itoa_length_le n h0 h1
  have hsz : (⟨(Lib.itoa n).toArray⟩ : ByteArray).size = (Lib.itoa n).length := by simp [ByteArray.size]
  have hB := h.ge
  have HI := hide (fun w1 (hb : Below B w w1) => Tryz.strconv_Itoa n h0 h1 w1 (hp.below hb).tab)
  have HS := hide (fun w1 (hb : Below w.heap.size w w1) => (wr141 (l := l) ⟨(Lib.itoa n).toArray⟩ (h.below hb) (by rw [hsz]; omega)).mono (R' := fun e w' => e = .returned (.tuple #[.int .i64 (Lib.itoa n).length, .nilIface]) ∧ WS B b w (l ++ Lib.itoa n) w') (by
   rintro e w' ⟨rfl, h2⟩
   rw [hsz]
   exact ⟨rfl, ((WS.refl h).below hb).trans h2⟩))
  have hdr : Below w.heap.size w w.drew := ⟨rfl, rfl, rfl, Nat.le_refl _, fun _ _ => rfl⟩
  have hdrB : Below B w w.drew := hdr.mono (by omega)
  clear hp h hsz hli
  go_enter Tryz.func124, Tryz.ntmps124
  go_wp2
  go_region_with (first | (go_at_call 128; refine (unhide HI _ hdrB).mono ?_; rintro e w1 ⟨rfl, kk, os, hw1⟩; have hb1 : Below w.heap.size w w1 := (by rw [hw1]; exact hdr.trans (below_grown3 w.drew kk os)); clear hw1) | (go_at_call 141; refine (unhide HS _ hb1).mono ?_; rintro e w2 ⟨rfl, h2⟩))
  all_goals (try go_wp2)
  all_goals (go_end0; exact ⟨rfl, h2⟩)
set_option maxHeartbeats 2000000 in
set_option maxRecDepth 100000 in
theorem wrApart {B b : Nat} {l : List UInt8} (n : Int) (h0 : -9223372036854775808 ≤ n) (h1 : n ≤ 9223372036854775807) {w : World} (h : WAt B b l w) (hp : P10 B w) (hlen : l.length + 1 ≤ 1000000000) :
    Calls Tryz.prog 293 #[.pointer (some ⟨b, 0, none⟩), .int .i64 n] w fun e w' => e = .returned (.tuple #[]) ∧ WS B b w (l ++ 32 :: Lib.itoa n) w' := by
  have HB := hide (wr125 32 h (by omega))
  have HN := hide (fun w1 (hs : WS B b w (l ++ [32]) w1) => (wrNum (l := l ++ [32]) n h0 h1 hs.at' (hp.below hs.bel) (by simp; omega)).mono (R' := fun e w' => e = .returned (.tuple #[]) ∧ WS B b w (l ++ 32 :: Lib.itoa n) w') (by
   rintro e w' ⟨rfl, h2⟩
   rw [List.append_assoc] at h2
   exact ⟨rfl, hs.trans h2⟩))
  clear h hp
  go_enter Tryz.func293, Tryz.ntmps293
  go_wp2_with (first | (go_at_call 125; refine (unhide HB).mono ?_; rintro e w1 ⟨rfl, hs⟩) | (go_at_call 124; refine (unhide HN _ hs).mono ?_; rintro e w2 ⟨rfl, h2⟩))
  go_end0
  exact ⟨rfl, h2⟩
end Go.Proofs.YteaokkaidcbdlaaGreatDoor

namespace Go.Proofs.YteaokkaidcbdlaaGreatDoor
open Go Go.RowKit Go.Shelf
attribute [local go_sem] Oper.semAt_some
open Go.Sort
structure WC (W0 : World) (b : Nat) (l : List UInt8) (w : World) : Prop where
 at' : WAt W0.heap.size b l w
 bel : Below W0.heap.size W0 w
 p : P10 W0.heap.size w
theorem WC.step {W0 : World} {b : Nat} {l l' : List UInt8} {w w' : World} (h : WC W0 b l w) (hs : WS W0.heap.size b w l' w') : WC W0 b l' w' := ⟨hs.at', h.bel.trans hs.bel, h.p.below hs.bel⟩
def I64 (x : Int) : Prop := -9223372036854775808 ≤ x ∧ x ≤ 9223372036854775807
theorem itoa_len {x : Int} (h : I64 x) : (Lib.itoa x).length ≤ 21 := Lib.itoa_length_le x h.1 h.2
def boundsW (t : TyD) : List UInt8 := 32 :: Lib.itoa t.low ++ 32 :: Lib.itoa t.high
def brandW (t : TyD) : List UInt8 := if t.branded then [32, 34] ++ (t.brand.data.toList ++ [34]) else [32, 45]
def opaqueW (t : TyD) : List UInt8 := 32 :: t.opq.data.toList
def superW (t : TyD) : List UInt8 := 32 :: Lib.itoa t.super
set_option maxHeartbeats 2000000 in
set_option maxRecDepth 100000 in
theorem wrBounds {W0 w : World} {b tb tk : Nat} {l : List UInt8} {t : TyD} (hT : TyAt W0 tb tk t) (h : WC W0 b l w) (hlo : I64 t.low) (hhi : I64 t.high) (hlen : l.length ≤ 900000000) :
    Calls Tryz.prog 285 #[.pointer (some ⟨b, 0, none⟩), .pointer (some ⟨tb, tk, none⟩)] w fun e w' => e = .returned (.tuple #[]) ∧ WS W0.heap.size b w (l ++ boundsW t) w' := by
  have hl := itoa_len hlo
  have HB := hide (wrApart t.low hlo.1 hlo.2 h.at' h.p (by omega))
  have HN := hide (fun w1 (hs : WS W0.heap.size b w (l ++ 32 :: Lib.itoa t.low) w1) => (wrApart t.high hhi.1 hhi.2 hs.at' (h.step hs).p (by simp; omega)).mono (R' := fun e w' => e = .returned (.tuple #[]) ∧ WS W0.heap.size b w (l ++ boundsW t) w') (by
   rintro e w' ⟨rfl, h2⟩
   rw [List.append_assoc] at h2
   exact ⟨rfl, hs.trans h2⟩))
  have HC := hide (fun w1 (hb : Below W0.heap.size W0 w1) => hT.go (.below hb))
  obtain ⟨vp, vm, vo, -, k0, k1, k2, -⟩ := hT.go (.below h.bel)
  have hbel := h.bel
  clear h hT
  go_enter Tryz.func285, Tryz.ntmps285
  go_wp2_with (first | (go_at_call 293; (with_reducible refine (unhide HB).mono ?_); clear HB; rintro e w1 ⟨rfl, hs⟩; obtain ⟨_, _, _, -, -, -, j2, -⟩ := unhide HC w1 (hbel.trans hs.bel)) | (go_at_call 293; with_reducible refine (unhide HN _ hs).mono ?_; rintro e w2 ⟨rfl, h2⟩))
  go_end0
  exact ⟨rfl, h2⟩
set_option maxHeartbeats 2000000 in
set_option maxRecDepth 100000 in
theorem wrSuper {W0 w : World} {b tb tk : Nat} {l : List UInt8} {t : TyD} (hT : TyAt W0 tb tk t) (h : WC W0 b l w) (hs : I64 t.super) (hlen : l.length ≤ 900000000) :
    Calls Tryz.prog 292 #[.pointer (some ⟨b, 0, none⟩), .pointer (some ⟨tb, tk, none⟩)] w fun e w' => e = .returned (.tuple #[]) ∧ WS W0.heap.size b w (l ++ superW t) w' := by
  have HB := hide (wrApart t.super hs.1 hs.2 h.at' h.p (by omega))
  obtain ⟨vp, vm, vo, -, k0, k1, k2, k3, k4, k5, k6, -⟩ := hT.go (.below h.bel)
  clear h hT
  go_enter Tryz.func292, Tryz.ntmps292
  go_wp2_with (first | (go_at_call 293; with_reducible refine (unhide HB).mono ?_; clear HB; rintro e w1 ⟨rfl, hs⟩))
  go_end0
  exact ⟨rfl, hs⟩
set_option maxHeartbeats 2000000 in
set_option maxRecDepth 100000 in
theorem wrOpaque {W0 w : World} {b tb tk : Nat} {l : List UInt8} {t : TyD} (hT : TyAt W0 tb tk t) (h : WC W0 b l w) (hsz : t.opq.size ≤ 1000000) (hlen : l.length ≤ 900000000) :
    Calls Tryz.prog 289 #[.pointer (some ⟨b, 0, none⟩), .pointer (some ⟨tb, tk, none⟩)] w fun e w' => e = .returned (.tuple #[]) ∧ WS W0.heap.size b w (l ++ opaqueW t) w' := by
  have hz : (⟨#[32]⟩ ++ t.opq : ByteArray).size = t.opq.size + 1 := by simp [ByteArray.size_append]; rw [show (⟨#[32]⟩ : ByteArray).size = 1 from rfl]; omega
  have hd : (⟨#[32]⟩ ++ t.opq : ByteArray).data.toList = opaqueW t := by rw [ByteArray.data_append]; simp [opaqueW]
  have hdr : Below w.heap.size w w.drew := ⟨rfl, rfl, rfl, Nat.le_refl _, fun _ _ => rfl⟩
  have HS := hide ((wr141 (l := l) (⟨#[32]⟩ ++ t.opq) (h.at'.below hdr) (by rw [hz]; omega)).mono (R' := fun e w' => ∃ v, e = .returned v ∧ WS W0.heap.size b w (l ++ opaqueW t) w') (by
   rintro e w' ⟨rfl, h2⟩
   rw [hd] at h2
   exact ⟨_, rfl, ((WS.refl h.at').below hdr).trans h2⟩))
  obtain ⟨vp, vm, vo, -, k0, k1, k2, k3, k4, k5, -⟩ := hT.go (.below h.bel)
  clear h hT hz hd
  go_enter Tryz.func289, Tryz.ntmps289
  go_wp2
  go_region_with (first | (go_at_call 141; refine (unhide HS).mono ?_; rintro e w2 ⟨v2, rfl, h2⟩))
  all_goals (try go_wp2)
  all_goals (go_end0; exact ⟨rfl, h2⟩)
set_option maxHeartbeats 2000000 in
set_option maxRecDepth 100000 in
theorem wrBrand {W0 w : World} {b tb tk : Nat} {l : List UInt8} {t : TyD} (hT : TyAt W0 tb tk t) (h : WC W0 b l w) (hsz : t.brand.size ≤ 1000000) (hlen : l.length ≤ 900000000) :
    Calls Tryz.prog 286 #[.pointer (some ⟨b, 0, none⟩), .pointer (some ⟨tb, tk, none⟩)] w fun e w' => e = .returned (.tuple #[]) ∧ WS W0.heap.size b w (l ++ brandW t) w' := by
  have hz : (⟨#[32, 34]⟩ ++ t.brand ++ ⟨#[34]⟩ : ByteArray).size = t.brand.size + 3 := by simp [ByteArray.size_append]; rw [show (⟨#[32, 34]⟩ : ByteArray).size = 2 from rfl, show (⟨#[34]⟩ : ByteArray).size = 1 from rfl]; omega
  have hd : (⟨#[32, 34]⟩ ++ t.brand ++ ⟨#[34]⟩ : ByteArray).data.toList = [32, 34] ++ (t.brand.data.toList ++ [34]) := by rw [ByteArray.data_append, ByteArray.data_append]; simp
  have hdr : Below w.heap.size w w.drew := ⟨rfl, rfl, rfl, Nat.le_refl _, fun _ _ => rfl⟩
  have HS := hide ((wr141 (l := l) (⟨#[32, 34]⟩ ++ t.brand ++ ⟨#[34]⟩) (h.at'.below hdr) (by rw [hz]; omega)).mono (R' := fun e w' => ∃ v, e = .returned v ∧ WS W0.heap.size b w (l ++ ([32, 34] ++ (t.brand.data.toList ++ [34]))) w') (by
   rintro e w' ⟨rfl, h2⟩
   rw [hd] at h2
   exact ⟨_, rfl, ((WS.refl h.at').below hdr).trans h2⟩))
  have HM := hide (wr141 (l := l) ⟨#[32, 45]⟩ h.at' (by rw [show (⟨#[32, 45]⟩ : ByteArray).size = 2 from rfl]; omega))
  obtain ⟨vp, vm, vo, -, k0, k1, k2, k3, k4, -⟩ := hT.go (.below h.bel)
  clear h hT hz hd
  unfold brandW
  cases hb : t.branded
  ·rw [hb] at k3
   go_enter Tryz.func286, Tryz.ntmps286
   go_wp2_with (first | (go_at_call 141; refine (unhide HM).mono ?_; rintro e w2 ⟨rfl, h2⟩))
   go_end0
   exact ⟨rfl, h2⟩
  ·rw [hb] at k3
   go_enter Tryz.func286, Tryz.ntmps286
   go_wp2
   go_region_with (first | (go_at_call 141; refine (unhide HS).mono ?_; rintro e w2 ⟨v2, rfl, h2⟩))
   all_goals (try go_wp2)
   all_goals (go_end0; exact ⟨rfl, h2⟩)
end Go.Proofs.YteaokkaidcbdlaaGreatDoor

namespace Go.Proofs.YteaokkaidcbdlaaGreatDoor
open Go Go.RowKit Go.Shelf
attribute [local go_sem] Oper.semAt_some
open Go.Sort
def partW (p : PartD) : List UInt8 := (32 :: p.name.data.toList ++ [58]) ++ Lib.itoa p.type
def fieldsW (ps : List PartD) : List UInt8 := ps.flatMap partW
def overW (p : OverD) : List UInt8 := 32 :: p.name.data.toList ++ 61 :: p.proc.data.toList
def oversW (ps : List OverD) : List UInt8 := ps.flatMap overW
theorem flatW_len {α : Type} {f : α → List UInt8} {m : Nat} : ∀ (l : List α), (∀ x ∈ l, (f x).length ≤ m) → (l.flatMap f).length ≤ l.length * m
 | [], _ => by simp
 | a :: l, h => by
   have h1 := flatW_len l (fun x hx => h x (by simp [hx]))
   have h2 := h a (by simp)
   rw [List.flatMap_cons, List.length_append, List.length_cons, Nat.succ_mul]
   omega
theorem take_flatW_len {α : Type} {f : α → List UInt8} {m : Nat} (l : List α) (h : ∀ x ∈ l, (f x).length ≤ m) (k : Nat) : ((l.take k).flatMap f).length ≤ l.length * m := by
 have := flatW_len (l.take k) (fun x hx => h x (List.mem_of_mem_take hx))
 have h2 : (l.take k).length * m ≤ l.length * m := Nat.mul_le_mul_right _ (by simp; omega)
 omega
set_option maxRecDepth 100000 in
theorem ba_size (s : ByteArray) : s.data.toList.length = s.size := rfl
set_option maxHeartbeats 2000000 in
set_option maxRecDepth 100000 in
theorem wrFields {W0 w : World} {b tb tk : Nat} {l : List UInt8} {t : TyD} (hT : TyAt W0 tb tk t) (h : WC W0 b l w) (hp : ∀ p ∈ t.parts, p.name.size ≤ 1000 ∧ I64 p.type) (hn : t.parts.length ≤ 10) (hlen : l.length ≤ 800000000) :
    Calls Tryz.prog 287 #[.pointer (some ⟨b, 0, none⟩), .pointer (some ⟨tb, tk, none⟩)] w fun e w' => e = .returned (.tuple #[]) ∧ WS W0.heap.size b w (l ++ fieldsW t.parts) w' := by
  have hpl : ∀ p ∈ t.parts, (partW p).length ≤ 1100 := fun p hpm => by
   have h1 := (hp p hpm).1
   have h2 := itoa_len (hp p hpm).2
   unfold partW
   simp only [List.length_append, List.length_cons, List.length_nil, ba_size]; omega
  obtain ⟨vp, vm, vo, hTL, -, -, -, -, -, -, -, c7, -⟩ := hT
  have k7 := Holds.below h.bel _ _ c7
  obtain ⟨op, cp, rfl⟩ := hTL.parts.form
  go_enter Tryz.func287, Tryz.ntmps287
  go_wp2
  clear k7 c7
  go_loopw [11] (fun i wr => ∃ k : Nat, k ≤ t.parts.length ∧ i = .int .i64 k ∧ WS W0.heap.size b w (l ++ fieldsW (t.parts.take k)) wr) (fun i _ => t.parts.length - (intOf i).toNat)
  case atStart => exact ⟨0, Nat.zero_le _, rfl, by simpa [fieldsW] using WS.refl h.at'⟩
  case round =>
   obtain ⟨k, hk, rfl, hs⟩ := hrel
   by_cases hlt : k < t.parts.length
   ·have hlt' : (k : Int) < t.parts.length := by omega
    have hbw := h.bel.trans hs.bel
    have hge := hs.at'.ge
    have hgw := h.at'.ge
    obtain ⟨-, -, -, hat⟩ := hTL.parts.at
    obtain ⟨g, off, rfl, hc0, hc1⟩ := hat k t.parts[k] (List.getElem?_eq_getElem hlt)
    have hpm := List.getElem_mem hlt
    obtain ⟨hps, hpt⟩ := hp _ hpm
    have e0 := Holds.below hbw _ _ hc0
    have e1 := Holds.below hbw _ _ hc1
    have hfl : (fieldsW (t.parts.take k)).length ≤ 11000 := Nat.le_trans (take_flatW_len t.parts hpl k) (by omega)
    have hsn : fieldsW (t.parts.take (k + 1)) = fieldsW (t.parts.take k) ++ partW t.parts[k] := by
     unfold fieldsW
     rw [List.take_succ_eq_append_getElem hlt, List.flatMap_append]; simp
    have HSN := Lib.hid hsn
    generalize t.parts[k] = p at hps hpt e0 e1 HSN
    generalize hL : l ++ fieldsW (t.parts.take k) = L at hs
    have hLl : L.length ≤ 800011000 := by rw [← hL, List.length_append]; omega
    have hz : (⟨#[32]⟩ ++ p.name ++ ⟨#[58]⟩ : ByteArray).size = p.name.size + 2 := by simp [ByteArray.size_append]; rw [show (⟨#[32]⟩ : ByteArray).size = 1 from rfl, show (⟨#[58]⟩ : ByteArray).size = 1 from rfl]; omega
    have hd : (⟨#[32]⟩ ++ p.name ++ ⟨#[58]⟩ : ByteArray).data.toList = 32 :: p.name.data.toList ++ [58] := by rw [ByteArray.data_append, ByteArray.data_append]; simp
    have bx := Blk.new wr [.string p.name, .int .i64 p.type] 93
    have hbX : Below wr.heap.size wr (wr.alloc (.cells #[.string p.name, .int .i64 p.type] 93)).drew := (Below.refl _ _).alloc (Nat.le_refl _) _ |>.drew
    have HS := hide (fun w1 (hb : Below wr.heap.size wr w1) => (wr141 (⟨#[32]⟩ ++ p.name ++ ⟨#[58]⟩) (hs.below hb).at' (by rw [hz]; omega)).mono (R' := fun e w' => ∃ v, e = .returned v ∧ WS W0.heap.size b w (L ++ (32 :: p.name.data.toList ++ [58])) w' ∧ Lib.OthersKept 5 (some b) w1 w') (by
     rintro e w' ⟨rfl, h2⟩
     rw [hd] at h2
     exact ⟨_, rfl, (hs.below hb).trans h2, h2.oth⟩))
    have HN := hide (fun w1 (hs : WS W0.heap.size b w (L ++ (32 :: p.name.data.toList ++ [58])) w1) => (wrNum p.type hpt.1 hpt.2 hs.at' (h.step hs).p (by simp only [List.length_append, List.length_cons, List.length_nil, ba_size]; omega)).mono (R' := fun e w' => e = .returned (.tuple #[]) ∧ WS W0.heap.size b w (L ++ partW p) w') (by
     rintro e w' ⟨rfl, h2⟩
     rw [List.append_assoc] at h2
     exact ⟨rfl, hs.trans h2⟩))
    have hne : wr.heap.size ≠ b := by omega
    have hsn2 := hsn
    clear hat hc0 hc1 hsn hsn2 hz hd hp hpl hTL
    have c0 := bx.cell 0
    simp only [List.getElem?_cons_zero] at c0
    have hcx : ∀ w2, Lib.OthersKept 5 (some b) (wr.alloc (.cells #[.string p.name, .int .i64 p.type] 93)).drew w2 → w2.cell? ⟨wr.heap.size, 1, none⟩ = some (.int .i64 p.type) := fun w2 ho => by
     have h2 : w2.heap[wr.heap.size]? = some (.cells #[.string p.name, .int .i64 p.type] 93 (0, 0)) := ho wr.heap.size _ bx (by simpa using hne) (by intro c fz e; cases e)
     simp [World.cell?, h2]
    have HCX := hide hcx
    clear hcx
    go_wp2
    go_region_with (first | (go_at_call 141; refine (unhide HS _ hbX).mono ?_; rintro e w2 ⟨v2, rfl, h2, ho⟩; have e2 := unhide HCX w2 ho))
    all_goals go_wp2_with (first | (go_at_call 124; refine (unhide HN _ h2).mono ?_; rintro e w3 ⟨rfl, h3⟩))
    all_goals go_roundw
    case rel => exact ⟨k + 1, by omega, by go_num, by rw [HSN.out, ← List.append_assoc, hL]; exact h3⟩
    case measure => simp [intOf]; omega
   ·obtain rfl : k = t.parts.length := by omega
    rw [List.take_length] at hs
    clear hTL hp hpl
    go_wp2
    go_end0
    exact ⟨rfl, hs⟩
end Go.Proofs.YteaokkaidcbdlaaGreatDoor

