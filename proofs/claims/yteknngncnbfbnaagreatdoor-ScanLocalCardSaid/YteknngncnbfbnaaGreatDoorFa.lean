/- How a scanner is made and what its fault says, for sources of at most 20000 bytes; strings.asciiSpace is taken as laid. -/
import Derived.Test.YteknngncnbfbnaaGreatDoorMs
import Derived.Tactics
import Derived.Tactics2
import Derived.WalkKit
import Derived.LoopTactic
import Derived.Outline
import Derived.Lib.Hide
import Derived.Handy
import Derived.KernelRfl
import Derived.Deep.LoopGhost
import Derived.CallsIn
import Derived.Deep.QuietTactic
import Derived.BigQuiet
import Derived.Deep.Draws
import Derived.WalkSpells
import Derived.Lib.Walk
import Derived.Lib.Strings
import Derived.Maps.OwnOps
import Derived.Maps.OwnSet
import Derived.Deep.RegionWith
import Derived.StillTailTactics
namespace Go.Proofs.YteknngncnbfbnaaGreatDoor
open Go Go.RowKit

/-- How many line feeds. -/
def nl (l : List UInt8) : Nat := l.countP (· == 10)

structure Scn (w : World) (b : Nat) (s : ByteArray) (k fr bm bg : Nat) : Prop where
  sc : Sc w b s k fr (.map (some bm)) (.slice (some ⟨bg, 0, none⟩) 23 23)
  ws : Ws w bm
  sg : Blk w bg (signsL.map mkV) 9
  nem : b ≠ bm
  neg : b ≠ bg
  env : Env w
  ten : 10 ≤ b
theorem Scn.go {w w' : World} {b : Nat} {s : ByteArray} {k fr bm bg k' fr' : Nat} (h : Scn w b s k fr bm bg) (hk : Sk b w w') (hs : Sc w' b s k' fr' (.map (some bm)) (.slice (some ⟨bg, 0, none⟩) 23 23)) : Scn w' b s k' fr' bm bg :=
  ⟨hs, h.ws.heap (hk.block _ h.ws.lt (fun e => h.nem e.symm)), h.sg.sk hk (fun e => h.neg e.symm), h.nem, h.neg, h.env.sk hk h.ten, h.ten⟩
theorem Scn.drewN {w : World} {b : Nat} {s : ByteArray} {k fr bm bg : Nat} (h : Scn w b s k fr bm bg) (n : Nat) : Scn (w.drewN n) b s k fr bm bg := h.go (Sk.drewN _ _ _) (h.sc.drewN n)

theorem newScanner_any (s : ByteArray) (w : World) (hE : Env w) :
    Calls Tryz.prog 64 #[.string s] w fun e w' => ∃ b bm bg, e = .returned (.pointer (some ⟨b, 0, none⟩)) ∧ w.heap.size ≤ b ∧ Scn w' b s 0 0 bm bg ∧ Below w.heap.size w w' := by
  go_enter Tryz.func64, Tryz.ntmps64
  go_wp2_with (first | (go_at_call 52; refine (wordSet_any w hE).mono ?_; rintro e w1 ⟨rfl, hW, hB⟩) | (go_at_call 17; refine (signs_any w1 (hE.below hB hE.sz)).mono ?_; rintro e w2 ⟨rfl, rfl⟩))
  go_ret
  refine ⟨w1.heap.size + 1, w.heap.size, w1.heap.size, rfl, by have := hB.size; omega, ⟨?_, ?_, ?_, ?_, ?_, ?_, ?_⟩, (hB.alloc hB.size _).alloc (by have := hB.size; simp; omega) _⟩
  · have := Blk.new (w1.alloc (.cells (signsL.map mkV).toArray 9)) [.string s, .int .i64 0, .int .i64 0, .map (some w.heap.size), .slice (some ⟨w1.heap.size, 0, none⟩) 23 23] 106
    simpa [Sc] using this
  · exact World.ownsMap.alloc (World.ownsMap.alloc hW _) _
  · exact (Blk.new _ _ _).alloc _
  · have := hB.size; omega
  · omega
  · exact ((hE.below hB hE.sz).alloc _).alloc _
  · have := hB.size; have := hE.sz; omega
theorem count_any (s : ByteArray) (w : World) : Calls Tryz.prog 68 #[.string s, .string ⟨#[10]⟩] w fun e w' => e = .returned (.int .i64 (nl (bs s))) ∧ w = w' :=
  (Tryz.strings_Count_one s 10 w).mono fun _ _ ⟨he, hw⟩ => ⟨he, hw.symm⟩
theorem nl_le (l : List UInt8) : nl l ≤ l.length := List.countP_le_length
set_option maxHeartbeats 800000 in
theorem fault_any (b : Nat) (s : ByteArray) (k fr bm bg : Nat) (x : Int) (hf : fr ≤ s.size) (hs : s.size ≤ 20000) (w : World) (h : Scn w b s k fr bm bg) :
    Calls Tryz.prog 110 #[.pointer (some ⟨b, 0, none⟩), .int .i64 x] w fun e w' => e = .returned (.agg #[.int .i64 x, .int .i64 (1 + nl ((bs s).take fr) : Nat)]) ∧ Scn w' b s k fr bm bg ∧ Sk b w w' := by
  have h0 := cell0 h.sc
  have h2 := cell2 h.sc
  have g0 : ∀ o, (w.alloc o).cell? ⟨b, 0, none⟩ = some (.string s) := fun o => (World.cell?_alloc_lt w o ⟨b, 0, none⟩ (Blk.lt h.sc)).trans h0
  have g2 : ∀ o, (w.alloc o).cell? ⟨b, 2, none⟩ = some (.int .i64 fr) := fun o => (World.cell?_alloc_lt w o ⟨b, 2, none⟩ (Blk.lt h.sc)).trans h2

  go_enter Tryz.func110, Tryz.ntmps110
  go_wp2
  go_region_with ((go_at_call 68; refine (count_any (s.extract 0 fr) _).mono ?_; rintro e w' ⟨rfl, rfl⟩))
  all_goals
    have hn := nl_le (bs (s.extract 0 fr))
    rw [bs_len, ByteArray.size_extract] at hn
    have hw : IntKind.i64.wrap (1 + ↑(nl (bs (s.extract 0 fr)))) = 1 + ↑(nl (bs (s.extract 0 fr))) := IntWalk.i64_in _ (by omega)
    rw [hw]
    clear hw
    rw [bs_take]
    go_wp2
    refine bodyPost_ret (v := .agg #[.int .i64 x, .int .i64 (1 + nl ((bs s).take fr) : Nat)]) (by simp [results, Tryz.results110, go_sem]) rfl ⟨rfl, ?_, ?_⟩
    · exact (h.go (Sk.alloc _ _ _) (Blk.alloc h.sc _)).go (Sk.drew _ _) (Blk.alloc h.sc _)
    · exact (Sk.alloc _ _ _).trans (Sk.drew _ _)
end Go.Proofs.YteknngncnbfbnaaGreatDoor
