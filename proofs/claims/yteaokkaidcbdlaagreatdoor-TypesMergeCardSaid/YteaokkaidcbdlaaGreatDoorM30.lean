/- Part 30 of 53: the texts Xr, Wt, Zq, one behind the other. -/
import Derived.Test.YteaokkaidcbdlaaGreatDoorM20
import Derived.Test.YteaokkaidcbdlaaGreatDoorM29
import Derived.Test.YteaokkaidcbdlaaGreatDoorRows
import Derived.Handed
import Derived.HandedShaped
import Derived.LaidMore
import Derived.Lay
import Derived.SevenTiedAt
import Derived.Stop.Joined
import Derived.Lib.LaidU8
import Derived.Lib.LaidTab
import Derived.Carry
import Derived.Test.YteaokkaidcbdlaaGreatDoorM26
namespace Go.Proofs.YteaokkaidcbdlaaGreatDoor
open Go Go.RowKit Go.Shelf
open Go.ChangeShapes Go.WideShapes Go.ChangeAt
open Go.ChangeMaps (open_string shut_string)
set_option maxRecDepth 100000
theorem own : ownKnob Tryz.prog.godebug = none := by kernel_rfl
theorem handed_both {H : Type} {enc : TypeId × Value → H} {a : Assume} {C : Checked} {os : Os} {f : FuncId} {fn : Func} {s : ChangeSpec} {conds : List PathCond} {apart fresh handsOn again : Bool} {X : World → Array Value → Prop}
    (hX : ∀ (w w' : World) (args : Array Value), w.heap = w'.heap → X w args → X w' args)
    (own : ownKnob C.prog.godebug = none) (started : os.Started) (noInit : C.prog.inits.idxOf? f = none) (hfn : C.prog.funcs[f]? = some fn)
    (witness : ∃ (w : World) (tape : Tape) (i : Input), w.os = os ∧ (w.forCall tape i).Shaped C.prog ∧ i.vars = [] ∧ Input.okWide C.prog (w.forCall tape i) .any w.heap.size f i ∧
     ((s.pre enc C.prog fn conds apart (w.forCall tape i).memory i.args ∧ X (w.forCall tape i).memory i.args) ∧ sizedMet enc C.prog fn (OpenSpec.ofChange s) apart (w.forCall tape i).memory i.args) ∧ a.holds C.prog (lone (Frame.enter C.prog f i.args .normal) [] (w.forCall tape i)))
    (contract : ∀ (W : World) (base : Nat) (args : Array Value) (ds gs : List (DataW H)) (before : List MemPlace),
     (∀ (j : Nat) t v, fn.params[j]? = some t → args[j]? = some v → Value.okWide C.prog W .any base t v) →
     DataW.Whole enc C.prog fn.params.toList s.vars apart W args.toList ds gs before → X W args → W.ShapedOpen C.prog →
     Calls C.prog f args W fun e W' => ∃ v, e = .returned v ∧ s.post enc C.prog fn apart fresh handsOn again W args v W') :
    ReturnsInHanded a C os f .any (fun w args => (s.pre enc C.prog fn conds apart w args ∧ X w args) ∧ sizedMet enc C.prog fn (OpenSpec.ofChange s) apart w args) (s.post enc C.prog fn apart fresh handsOn again) := by
  refine returnsInHanded_of_calls own started noInit witness ?_
  intro w tape i _ hsh _ hok hpre _
  obtain ⟨_, _, _, g, hg, _, _, _, _, hval⟩ := hok
  obtain rfl := Option.some.inj (hfn.symm.trans hg)
  obtain ⟨⟨⟨ds, gs, before, hw, _⟩, hx⟩, _⟩ := hpre
  refine (contract (w.forCall tape i) w.heap.size i.args ds gs before hval (DataW.Whole.of_heap (w' := w.forCall tape i) (by rfl) hw) (hX _ _ _ (by rfl) hx) hsh).mono fun e W' ⟨v, he, hp⟩ => ?_
  subst he
  exact ChangeSpec.post_blind hp
theorem tab_of {P : Program} {W : World} {name : String} {k : IntKind} {zs : List Int} {g : Nat} {t e : TypeId} {n : Nat}
    (hg : P.globalNamed name = some g) (hty : (P.globals[g]?).map (·.type) = some t) (ht : P.underlying t = some (.array n e)) (he : P.underlying e = some (.int k)) (hce : P.cellsOf e = 1) (hct : P.cellsOf t = n)
    (h : Lib.VarReads P W name (Lib.tabData k zs)) : Lib.TabIs P W name k zs := by
  obtain ⟨g', t', cs, fuel, p, hg', ht', hvar, hd⟩ := h
  obtain rfl := Option.some.inj (hg.symm.trans hg')
  obtain rfl := Option.some.inj (hty.symm.trans ht')
  unfold Lib.TabIs
  rw [hvar, ← Lib.cells_of_tab ht he hce hct hd]
theorem p10D : (Rows.laid_internal_strconv_uint64pow10 : DataW Unit) = Lib.tabData .u64 Lib.pow10Tab := by kernel_rfl
theorem p10_of {W : World} {laid : List (String × DataW Unit)} (h : laidMet Tryz.prog laid W)
    (m2 : ("internal/strconv.uint64pow10", Rows.laid_internal_strconv_uint64pow10) ∈ laid) : P10 W.heap.size W := by
  have h2 := Lib.laidMet.reads h m2
  rw [p10D] at h2
  have hg : Tryz.prog.globalNamed "internal/strconv.uint64pow10" = some 2 := by kernel_rfl
  have ht := tab_of hg (by kernel_rfl) Tryz.underlying247 Tryz.underlying215 (by kernel_rfl) (by kernel_rfl) h2
  exact ⟨ht, 2, hg, cell_lt (ht.cell hg 0 (by decide))⟩
theorem graph_arg {H : Type} {enc : TypeId × Value → H} {W : World} {a : Option Addr} {len cap : Nat} {d : DataW H} {p : List MemPlace} (h : DataW.Trod enc Tryz.prog W 0 (fun _ => true) true 23 (.slice a len cap) d p) :
    ∃ G : List TyD, GrAt W (.slice a len cap) G ∧ ∀ t ∈ G, TyZ t ∧ t.kind < 256 := by
  obtain ⟨fuel, hf⟩ := h
  exact graph_read (by simpa [Value.cells] using hf)
theorem laid_out : laidOutB Tryz.prog = true := by kernel_rfl
theorem graph_again {H : Type} {enc : TypeId × Value → H} {W W' : World} {v : Value} {d : DataW H} {p : List MemPlace} (h : DataW.Trod enc Tryz.prog W 0 (fun _ => true) true 23 v d p) (hb : Below W.heap.size W W') (hlt : ∀ x ∈ p, x.block < W.heap.size) :
    DataW.Trod enc Tryz.prog W' 0 (fun b => decide (b < W.heap.size)) true 23 v d p :=
  Below.trod laid_out (by kernel_rfl) (of_decide_eq_true (by kernel_rfl)) h hb hlt
end Go.Proofs.YteaokkaidcbdlaaGreatDoor

namespace Go.Proofs.YteaokkaidcbdlaaGreatDoor
open Go Go.RowKit Go.Shelf
theorem mgf_inPlace : (Rows.typesMergeRow.inPlace == Tryz.prog.inPlace 6) = true := by kernel_rfl
theorem mgf_unfollowed : (Rows.typesMergeRow.unfollowed == Tryz.prog.unfollowed 6) = true := by kernel_rfl
theorem mgf_recurses : (Rows.typesMergeRow.recurses == Tryz.prog.recurses 6) = true := by kernel_rfl
theorem mgf_named : (Rows.typesMergeRow.named == Tryz.prog.varsNamed 6) = true := by kernel_rfl
theorem mgf_wf : Rows.typesMergeRow.wf (OpenSpec.ofChange Rows.typesMergeSpec) = true := by kernel_rfl
theorem mgf_maps : mapsRowed Tryz.prog = true := by kernel_rfl
theorem mgf_plain : (Rows.typesMergeRow.plainKeys == Tryz.prog.plainKeys) = true := by kernel_rfl
theorem mgf_heard : Tryz.prog.stopsHeard = true := by kernel_rfl
theorem mgf_enter : Tryz.prog.mayEnter = true := by kernel_rfl
theorem mgf_lifts : (Rows.typesMergeRow.lifted == Tryz.prog.liftsFinal) = true := by kernel_rfl
theorem mgf_make : (Tryz.prog.make == some Rows.typesMergeRow.make) = true := by kernel_rfl
theorem mg_joined : joinedFacts Tryz.prog 6 Tryz.f6 Rows.typesMergeSpec Rows.typesMergeRow = true := by
 unfold joinedFacts
 rw [mgf_wf, laid_out, mgf_maps, mgf_inPlace, mgf_unfollowed, mgf_recurses, mgf_named, mgf_plain, mgf_heard, mgf_enter, mgf_lifts, mgf_make]
 kernel_rfl
end Go.Proofs.YteaokkaidcbdlaaGreatDoor

namespace Go.Proofs.YteaokkaidcbdlaaGreatDoor
open Go Go.RowKit Go.Shelf
open Go.ChangeShapes Go.WideShapes Go.ChangeAt
open Go.ChangeMaps (open_string shut_string)
set_option maxRecDepth 100000
section
variable {H : Type} {enc : TypeId × Value → H} {P : Program} {w : World} {base : Nat} {spare : Nat → Bool} {held : Bool}
end
end Go.Proofs.YteaokkaidcbdlaaGreatDoor

