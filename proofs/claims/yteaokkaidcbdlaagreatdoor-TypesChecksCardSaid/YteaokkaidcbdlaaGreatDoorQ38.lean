/- Part 38 of 51: the texts Wn, Xr, one behind the other. -/
import Derived.Test.YteaokkaidcbdlaaGreatDoorQ37
import Derived.Lib.ItoaLen
import Derived.Lib.BufferKept
import Derived.Tactics
import Derived.Tactics2
import Derived.WalkKit
import Derived.LoopTactic
import Derived.Outline
import Derived.Lib.Hide
import Derived.Handy
import Derived.KernelRfl
import Derived.Deep.LoopGhost
import Derived.CallsIn
import Derived.Deep.QuietTactic
import Derived.BigQuiet
import Derived.Deep.Draws
import Derived.WalkSpells
import Derived.Lib.Walk
import Derived.Lib.Strings
import Derived.Maps.OwnOps
import Derived.Maps.OwnSet
import Derived.Deep.RegionWith
import Derived.StillTailTactics
import Derived.WalkMore
import Derived.RangeFuncNested
import Derived.RangeFuncBound
import Derived.RangeFuncCalls
import Derived.RangeFuncLeaves
import Derived.RangeFuncBox
import Derived.Shelf.Abstract
import Derived.OwnWalkIn
import Derived.TacticsInMore
import Derived.LoopNIn
import Derived.LoopIn
import Derived.RecoverIn
import Derived.Maps.AppendAt
import Derived.RegionTactic
import Derived.ChangeAlike
import Derived.OwnWalk
import Derived.Deep.AppendLies
import Derived.Deep.DeepCutAuto
import Derived.Deep.RegionLaw
import Derived.Deep.RegionHeld3
import Derived.Laws.EntriesVeiled
import Derived.Test.YteaokkaidcbdlaaGreatDoorQ9
import Derived.Test.YteaokkaidcbdlaaGreatDoorRows
import Derived.Handed
import Derived.HandedShaped
import Derived.ProofKit
import Derived.OpenShut
import Derived.LaidMore
import Derived.Lay
import Derived.SevenTiedAt
import Derived.Stop.Joined
import Derived.Lib.LaidU8
import Derived.Lib.LaidTab
import Derived.Carry
/- number (124), numberApart (293). -/
namespace Go.Proofs.YteaokkaidcbdlaaGreatDoor
open Go Go.RowKit Go.Shelf
attribute [local go_sem] Oper.semAt_some
open Go.Sort
/-! ### number (124), numberApart (293) -/
theorem WAt.below {B b : Nat} {l : List UInt8} {w w' : World} (h : WAt B b l w) (hb : Below w.heap.size w w') : WAt B b l w' := by
  have hg : w.grownBy w' none := ⟨hb.os, hb.tape, hb.output, hb.size, fun k hk _ => hb.block k hk⟩
  have hgo : ∀ p, Lib.BuilderAtF 164 5 B b p (Lib.byteCells l) w → Lib.BuilderAtF 164 5 B b p (Lib.byteCells l) w' := by
    rintro p ⟨hB, v, hbk, hown, hne⟩
    refine ⟨hB, v, (hb.block _ (Array.getElem?_eq_some_iff.1 hbk).1).trans hbk, hown.kept hg ?_, hne⟩
    cases hv : v.ownBlock with
    | none => exact .inl rfl
    | some g => exact .inr (by simp)
  exact h.elim (fun h => .inl (hgo _ h)) (fun h => .inr (hgo _ h))
theorem WAt.ge {B b : Nat} {l : List UInt8} {w : World} (h : WAt B b l w) : B ≤ b ∧ b < w.heap.size := by
  rcases h with ⟨hB, v, hbk, _⟩ | ⟨hB, v, hbk, _⟩ <;> exact ⟨hB, (Array.getElem?_eq_some_iff.1 hbk).1⟩
/-- The table of powers, laid below B. -/
structure P10 (B : Nat) (w : World) : Prop where
  tab : Lib.TabIs Tryz.prog w "internal/strconv.uint64pow10" .u64 Lib.pow10Tab
  lt : ∃ g, Tryz.prog.globalNamed "internal/strconv.uint64pow10" = some g ∧ g < B
theorem P10.below {B : Nat} {w w' : World} (h : P10 B w) (hb : Below B w w') : P10 B w' := by
  obtain ⟨ht, g, hg, hlt⟩ := h
  refine ⟨?_, g, hg, hlt⟩
  unfold Lib.TabIs World.var? at ht ⊢
  rw [hg] at ht ⊢
  simp only [Option.bind_some] at ht ⊢
  rw [hb.block g hlt]; exact ht
/-- What the writer holds now, begun at w0. -/
structure WS (B b : Nat) (w0 : World) (l : List UInt8) (w : World) : Prop where
  at' : WAt B b l w
  bel : Below B w0 w
  oth : Lib.OthersKept 5 (some b) w0 w
theorem WS.refl {B b : Nat} {l : List UInt8} {w : World} (h : WAt B b l w) : WS B b w l w := ⟨h, Below.refl _ _, Lib.OthersKept.refl _ _ _⟩
theorem WS.trans {B b : Nat} {l l' : List UInt8} {w0 w w' : World} (h : WS B b w0 l w) (h' : WS B b w l' w') : WS B b w0 l' w' := ⟨h'.at', h.bel.trans h'.bel, h.oth.trans h'.oth⟩
theorem WS.below {B b : Nat} {l : List UInt8} {w0 w w' : World} (h : WS B b w0 l w) (hb : Below w.heap.size w w') : WS B b w0 l w' :=
  ⟨h.at'.below hb, h.bel.trans (hb.mono (by have := h.at'.ge; omega)), h.oth.below hb⟩
theorem wr141 {B b : Nat} {l : List UInt8} (s : ByteArray) {w : World} (h : WAt B b l w) (hlen : l.length + s.size ≤ 140737488355328) :
    Calls Tryz.prog 141 #[.pointer (some ⟨b, 0, none⟩), .string s] w fun e w' => e = .returned (.tuple #[.int .i64 s.size, .nilIface]) ∧ WS B b w (l ++ s.data.toList) w' :=
  (wrString B b l s w h hlen (by have := h.ge; omega)).mono (by rintro e w' ⟨rfl, h1, h2, h3⟩; exact ⟨rfl, h1, h2, h3⟩)
theorem wr125 {B b : Nat} {l : List UInt8} (c : UInt8) {w : World} (h : WAt B b l w) (hlen : l.length + 1 ≤ 140737488355328) :
    Calls Tryz.prog 125 #[.pointer (some ⟨b, 0, none⟩), .int .u8 c.toNat] w fun e w' => e = .returned .nilIface ∧ WS B b w (l ++ [c]) w' :=
  (wrByte B b l c w h hlen (by have := h.ge; omega)).mono (by rintro e w' ⟨rfl, h1, h2, h3⟩; exact ⟨rfl, h1, h2, h3⟩)
theorem below_grown3 (w : World) (k : Nat) (os : Array Obj) : Below w.heap.size w (Sort.grow (w.drewN k) os) := by
  refine ⟨rfl, rfl, rfl, by simp [Sort.grow], fun j hj => ?_⟩
  show (w.heap ++ os)[j]? = _
  rw [Array.getElem?_append_left hj]
set_option maxHeartbeats 2000000 in
set_option maxRecDepth 100000 in
theorem wrNum {B b : Nat} {l : List UInt8} (n : Int) (h0 : -9223372036854775808 ≤ n) (h1 : n ≤ 9223372036854775807) {w : World} (h : WAt B b l w) (hp : P10 B w) (hlen : l.length ≤ 1000000000) :
    Calls Tryz.prog 124 #[.pointer (some ⟨b, 0, none⟩), .int .i64 n] w fun e w' => e = .returned (.tuple #[]) ∧ WS B b w (l ++ Lib.itoa n) w' := by
  have hli := Lib.itoa_length_le n h0 h1
  have hsz : (⟨(Lib.itoa n).toArray⟩ : ByteArray).size = (Lib.itoa n).length := by simp [ByteArray.size]
  have hB := h.ge
  have HI := hide (fun w1 (hb : Below B w w1) => Tryz.strconv_Itoa n h0 h1 w1 (hp.below hb).tab)
  have HS := hide (fun w1 (hb : Below w.heap.size w w1) => (wr141 (l := l) ⟨(Lib.itoa n).toArray⟩ (h.below hb) (by rw [hsz]; omega)).mono (R' := fun e w' => e = .returned (.tuple #[.int .i64 (Lib.itoa n).length, .nilIface]) ∧ WS B b w (l ++ Lib.itoa n) w') (by
    rintro e w' ⟨rfl, h2⟩
    rw [hsz]
    exact ⟨rfl, ((WS.refl h).below hb).trans h2⟩))
  have hdr : Below w.heap.size w w.drew := ⟨rfl, rfl, rfl, Nat.le_refl _, fun _ _ => rfl⟩
  have hdrB : Below B w w.drew := hdr.mono (by omega)
  clear hp h hsz hli
  go_enter Tryz.func124, Tryz.ntmps124
  go_wp2
  go_region_with (first | (go_at_call 128; refine (unhide HI _ hdrB).mono ?_; rintro e w1 ⟨rfl, kk, os, hw1⟩; have hb1 : Below w.heap.size w w1 := (by rw [hw1]; exact hdr.trans (below_grown3 w.drew kk os)); clear hw1) | (go_at_call 141; refine (unhide HS _ hb1).mono ?_; rintro e w2 ⟨rfl, h2⟩))
  all_goals (try go_wp2)
  all_goals (go_end0; exact ⟨rfl, h2⟩)
set_option maxHeartbeats 2000000 in
set_option maxRecDepth 100000 in
/-- A blank and a number. -/
theorem wrApart {B b : Nat} {l : List UInt8} (n : Int) (h0 : -9223372036854775808 ≤ n) (h1 : n ≤ 9223372036854775807) {w : World} (h : WAt B b l w) (hp : P10 B w) (hlen : l.length + 1 ≤ 1000000000) :
    Calls Tryz.prog 293 #[.pointer (some ⟨b, 0, none⟩), .int .i64 n] w fun e w' => e = .returned (.tuple #[]) ∧ WS B b w (l ++ 32 :: Lib.itoa n) w' := by
  have HB := hide (wr125 32 h (by omega))
  have HN := hide (fun w1 (hs : WS B b w (l ++ [32]) w1) => (wrNum (l := l ++ [32]) n h0 h1 hs.at' (hp.below hs.bel) (by simp; omega)).mono (R' := fun e w' => e = .returned (.tuple #[]) ∧ WS B b w (l ++ 32 :: Lib.itoa n) w') (by
    rintro e w' ⟨rfl, h2⟩
    rw [List.append_assoc] at h2
    exact ⟨rfl, hs.trans h2⟩))
  clear h hp
  go_enter Tryz.func293, Tryz.ntmps293
  go_wp2_with (first | (go_at_call 125; refine (unhide HB).mono ?_; rintro e w1 ⟨rfl, hs⟩) | (go_at_call 124; refine (unhide HN _ hs).mono ?_; rintro e w2 ⟨rfl, h2⟩))
  go_end0
  exact ⟨rfl, h2⟩
end Go.Proofs.YteaokkaidcbdlaaGreatDoor
/- What the rows of this seat have in common. -/
namespace Go.Proofs.YteaokkaidcbdlaaGreatDoor
open Go Go.RowKit Go.Shelf
open Go.ChangeShapes Go.WideShapes Go.ChangeAt
open Go.ChangeMaps (open_string shut_string)
set_option maxRecDepth 100000
theorem own : ownKnob Tryz.prog.godebug = none := by kernel_rfl
/-- THE WRAP: what is listed holds, and the world has the program's shape. -/
theorem handed_both {H : Type} {enc : TypeId × Value → H} {a : Assume} {C : Checked} {os : Os} {f : FuncId} {fn : Func} {s : ChangeSpec} {conds : List PathCond} {apart fresh handsOn again : Bool} {X : World → Array Value → Prop}
    (hX : ∀ (w w' : World) (args : Array Value), w.heap = w'.heap → X w args → X w' args)
    (own : ownKnob C.prog.godebug = none) (started : os.Started) (noInit : C.prog.inits.idxOf? f = none) (hfn : C.prog.funcs[f]? = some fn)
    (witness : ∃ (w : World) (tape : Tape) (i : Input), w.os = os ∧ (w.forCall tape i).Shaped C.prog ∧ i.vars = [] ∧ Input.okWide C.prog (w.forCall tape i) .any w.heap.size f i ∧
      ((s.pre enc C.prog fn conds apart (w.forCall tape i).memory i.args ∧ X (w.forCall tape i).memory i.args) ∧ sizedMet enc C.prog fn (OpenSpec.ofChange s) apart (w.forCall tape i).memory i.args) ∧ a.holds C.prog (lone (Frame.enter C.prog f i.args .normal) [] (w.forCall tape i)))
    (contract : ∀ (W : World) (base : Nat) (args : Array Value) (ds gs : List (DataW H)) (before : List MemPlace),
      (∀ (j : Nat) t v, fn.params[j]? = some t → args[j]? = some v → Value.okWide C.prog W .any base t v) →
      DataW.Whole enc C.prog fn.params.toList s.vars apart W args.toList ds gs before → X W args → W.ShapedOpen C.prog →
      Calls C.prog f args W fun e W' => ∃ v, e = .returned v ∧ s.post enc C.prog fn apart fresh handsOn again W args v W') :
    ReturnsInHanded a C os f .any (fun w args => (s.pre enc C.prog fn conds apart w args ∧ X w args) ∧ sizedMet enc C.prog fn (OpenSpec.ofChange s) apart w args) (s.post enc C.prog fn apart fresh handsOn again) := by
  refine returnsInHanded_of_calls own started noInit witness ?_
  intro w tape i _ hsh _ hok hpre _
  obtain ⟨_, _, _, g, hg, _, _, _, _, hval⟩ := hok
  obtain rfl := Option.some.inj (hfn.symm.trans hg)
  obtain ⟨⟨⟨ds, gs, before, hw, _⟩, hx⟩, _⟩ := hpre
  refine (contract (w.forCall tape i) w.heap.size i.args ds gs before hval (DataW.Whole.of_heap (w' := w.forCall tape i) (by rfl) hw) (hX _ _ _ (by rfl) hx) hsh).mono fun e W' ⟨v, he, hp⟩ => ?_
  subst he
  exact ChangeSpec.post_blind hp
theorem tab_of {P : Program} {W : World} {name : String} {k : IntKind} {zs : List Int} {g : Nat} {t e : TypeId} {n : Nat}
    (hg : P.globalNamed name = some g) (hty : (P.globals[g]?).map (·.type) = some t) (ht : P.underlying t = some (.array n e)) (he : P.underlying e = some (.int k)) (hce : P.cellsOf e = 1) (hct : P.cellsOf t = n)
    (h : Lib.VarReads P W name (Lib.tabData k zs)) : Lib.TabIs P W name k zs := by
  obtain ⟨g', t', cs, fuel, p, hg', ht', hvar, hd⟩ := h
  obtain rfl := Option.some.inj (hg.symm.trans hg')
  obtain rfl := Option.some.inj (hty.symm.trans ht')
  unfold Lib.TabIs
  rw [hvar, ← Lib.cells_of_tab ht he hce hct hd]
theorem p10D : (Rows.laid_internal_strconv_uint64pow10 : DataW Unit) = Lib.tabData .u64 Lib.pow10Tab := by kernel_rfl
theorem p10_of {W : World} {laid : List (String × DataW Unit)} (h : laidMet Tryz.prog laid W)
    (m2 : ("internal/strconv.uint64pow10", Rows.laid_internal_strconv_uint64pow10) ∈ laid) : P10 W.heap.size W := by
  have h2 := Lib.laidMet.reads h m2
  rw [p10D] at h2
  have hg : Tryz.prog.globalNamed "internal/strconv.uint64pow10" = some 2 := by kernel_rfl
  have ht := tab_of hg (by kernel_rfl) Tryz.underlying247 Tryz.underlying215 (by kernel_rfl) (by kernel_rfl) h2
  exact ⟨ht, 2, hg, cell_lt (ht.cell hg 0 (by decide))⟩
theorem graph_arg {H : Type} {enc : TypeId × Value → H} {W : World} {a : Option Addr} {len cap : Nat} {d : DataW H} {p : List MemPlace} (h : DataW.Trod enc Tryz.prog W 0 (fun _ => true) true 23 (.slice a len cap) d p) :
    ∃ G : List TyD, GrAt W (.slice a len cap) G ∧ ∀ t ∈ G, TyZ t ∧ t.kind < 256 := by
  obtain ⟨fuel, hf⟩ := h
  exact graph_read (by simpa [Value.cells] using hf)
theorem laid_out : laidOutB Tryz.prog = true := by kernel_rfl
theorem graph_again {H : Type} {enc : TypeId × Value → H} {W W' : World} {v : Value} {d : DataW H} {p : List MemPlace} (h : DataW.Trod enc Tryz.prog W 0 (fun _ => true) true 23 v d p) (hb : Below W.heap.size W W') (hlt : ∀ x ∈ p, x.block < W.heap.size) :
    DataW.Trod enc Tryz.prog W' 0 (fun b => decide (b < W.heap.size)) true 23 v d p :=
  Below.trod laid_out (by kernel_rfl) (of_decide_eq_true (by kernel_rfl)) h hb hlt
end Go.Proofs.YteaokkaidcbdlaaGreatDoor
