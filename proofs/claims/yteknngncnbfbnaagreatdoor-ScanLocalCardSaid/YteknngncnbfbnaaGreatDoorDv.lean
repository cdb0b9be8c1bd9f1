/- The chapter's examples, call by call. -/
import Derived.Test.YteknngncnbfbnaaGreatDoorAh
import Derived.Test.YteknngncnbfbnaaGreatDoorBr
import Derived.Test.YteknngncnbfbnaaGreatDoorDi
import Derived.Test.YteknngncnbfbnaaGreatDoorRh
import Derived.RangeFuncNested
import Derived.RangeFuncBound
import Derived.RangeFuncCalls
import Derived.RangeFuncLeaves
import Derived.RangeFuncBox
import Derived.Shelf.Abstract
import Derived.WalkKit
import Derived.OwnWalkIn
import Derived.TacticsInMore
import Derived.LoopNIn
import Derived.LoopIn
import Derived.RecoverIn
import Derived.Maps.AppendAt
import Derived.Outline
import Derived.Handy
import Derived.Deep.LoopGhost
import Derived.RegionTactic
import Derived.ChangeAlike
import Derived.Deep.QuietTactic
import Derived.BigQuiet
import Derived.StillTailTactics
import Derived.Deep.RegionWith
import Derived.LoopTactic
import Derived.OwnWalk
import Derived.Deep.AppendLies
import Derived.Deep.DeepCutAuto
import Derived.KernelRfl
import Derived.KernelRfl
namespace Go.Proofs.YteknngncnbfbnaaGreatDoor
open Go Go.RowKit Go.Shelf

theorem World.ownsRow.at_ {w : World} {base e size n : Nat} {v : Value} {xs : List Value} (h : w.ownsRow base e size v n xs) (hn : 0 < n) : ∃ g cap, v = .slice (some ⟨g, 0, none⟩) n cap ∧ g < w.heap.size ∧ ∀ k u, xs[k]? = some u → w.cell? ⟨g, k, none⟩ = some u := by
  obtain ⟨g, cap, rfl, hb, hlt⟩ := World.ownsRow.form h hn
  refine ⟨g, cap, rfl, hlt, fun k u hk => ?_⟩
  have hc := World.ownsRow.cells h (g := g) rfl k u hk
  rw [add_zero_addr] at hc
  exact hc
def bitsD : List Bit := (pcsL (bs (⟨#[120, 32, 58, 61, 32, 97, 91, 49, 54, 95, 70, 70, 93, 32, 40, 42, 32, 111, 110, 101, 32, 40, 42, 32, 116, 119, 111, 32, 42, 41, 32, 42, 41]⟩ : ByteArray))).1
theorem pcsD : pcsL (bs (⟨#[120, 32, 58, 61, 32, 97, 91, 49, 54, 95, 70, 70, 93, 32, 40, 42, 32, 111, 110, 101, 32, 40, 42, 32, 116, 119, 111, 32, 42, 41, 32, 42, 41]⟩ : ByteArray)) = (bitsD, 0, 0) := by kernel_rfl
theorem bitsD_len : bitsD.length = 10 := by kernel_rfl
theorem bitsD_0 : (flatB bitsD)[0]? = some (.int .u8 1) := by kernel_rfl
theorem bitsD_1 : (flatB bitsD)[1]? = some (.string ⟨#[120]⟩) := by kernel_rfl
theorem bitsD_2 : (flatB bitsD)[2]? = some (.int .u8 6) := by kernel_rfl
theorem bitsD_3 : (flatB bitsD)[3]? = some (.string ⟨#[32]⟩) := by kernel_rfl
theorem bitsD_18 : (flatB bitsD)[18]? = some (.int .u8 7) := by kernel_rfl
theorem bitsD_19 : (flatB bitsD)[19]? = some (.string (⟨#[40, 42, 32, 111, 110, 101, 32, 40, 42, 32, 116, 119, 111, 32, 42, 41, 32, 42, 41]⟩ : ByteArray)) := by kernel_rfl
set_option maxRecDepth 100000 in
theorem d1 (w : World) (hE : Env w) : Calls Tryz.prog 29 #[.string (⟨#[120, 32, 58, 61, 32, 97, 91, 49, 54, 95, 70, 70, 93, 32, 40, 42, 32, 111, 110, 101, 32, 40, 42, 32, 116, 119, 111, 32, 42, 41, 32, 42, 41]⟩ : ByteArray)] w fun e w' => ∃ g cap, e = .returned (.tuple #[.slice (some ⟨g, 0, none⟩) 10 cap, .agg #[.int .i64 0, .int .i64 0]]) ∧ Below w.heap.size w w' ∧ g < w'.heap.size ∧ w'.cell? ⟨g, 0, none⟩ = some (.int .u8 1) ∧ w'.cell? ⟨g, 1, none⟩ = some (.string ⟨#[120]⟩) ∧ w'.cell? ⟨g, 2, none⟩ = some (.int .u8 6) ∧ w'.cell? ⟨g, 3, none⟩ = some (.string ⟨#[32]⟩) ∧ w'.cell? ⟨g, 18, none⟩ = some (.int .u8 7) ∧ w'.cell? ⟨g, 19, none⟩ = some (.string (⟨#[40, 42, 32, 111, 110, 101, 32, 40, 42, 32, 116, 119, 111, 32, 42, 41, 32, 42, 41]⟩ : ByteArray)) := by
  have h := pieces_eq (⟨#[120, 32, 58, 61, 32, 97, 91, 49, 54, 95, 70, 70, 93, 32, 40, 42, 32, 111, 110, 101, 32, 40, 42, 32, 116, 119, 111, 32, 42, 41, 32, 42, 41]⟩ : ByteArray) w hE
  rw [pcsD] at h
  refine h.mono ?_
  rintro e w' ⟨v, rfl, hH, hB⟩
  have h1 := hH.1
  rw [bitsD_len] at h1
  obtain ⟨g, cap, rfl, hlt, hc⟩ := World.ownsRow.at_ h1 (by decide)
  exact ⟨g, cap, rfl, hB, hlt, hc _ _ bitsD_0, hc _ _ bitsD_1, hc _ _ bitsD_2, hc _ _ bitsD_3, hc _ _ bitsD_18, hc _ _ bitsD_19⟩
def toksD : List Tok := toksL 1 (pcsL (bs (⟨#[120, 32, 58, 61, 32, 97, 91, 49, 54, 95, 70, 70, 93, 32, 40, 42, 32, 111, 110, 101, 32, 40, 42, 32, 116, 119, 111, 32, 42, 41, 32, 42, 41, 10, 69, 78, 68, 46]⟩ : ByteArray))).1
theorem pcsD2 : (pcsL (bs (⟨#[120, 32, 58, 61, 32, 97, 91, 49, 54, 95, 70, 70, 93, 32, 40, 42, 32, 111, 110, 101, 32, 40, 42, 32, 116, 119, 111, 32, 42, 41, 32, 42, 41, 10, 69, 78, 68, 46]⟩ : ByteArray))).2 = (0, 0) := by kernel_rfl
theorem toksD_len : toksD.length = 8 := by kernel_rfl
theorem toksD_18 : (flatT toksD)[18]? = some (.int .u8 2) := by kernel_rfl
theorem toksD_19 : (flatT toksD)[19]? = some (.string ⟨#[69, 78, 68]⟩) := by kernel_rfl
theorem toksD_20 : (flatT toksD)[20]? = some (.int .i64 2) := by kernel_rfl
set_option maxRecDepth 100000 in
theorem d2 (w : World) (hE : Env w) : Calls Tryz.prog 32 #[.string (⟨#[120, 32, 58, 61, 32, 97, 91, 49, 54, 95, 70, 70, 93, 32, 40, 42, 32, 111, 110, 101, 32, 40, 42, 32, 116, 119, 111, 32, 42, 41, 32, 42, 41, 10, 69, 78, 68, 46]⟩ : ByteArray)] w fun e w' => ∃ g cap, e = .returned (.tuple #[.slice (some ⟨g, 0, none⟩) 8 cap, .agg #[.int .i64 0, .int .i64 0]]) ∧ Below w.heap.size w w' ∧ g < w'.heap.size ∧ w'.cell? ⟨g, 18, none⟩ = some (.int .u8 2) ∧ w'.cell? ⟨g, 19, none⟩ = some (.string ⟨#[69, 78, 68]⟩) ∧ w'.cell? ⟨g, 20, none⟩ = some (.int .i64 2) := by
  have h := scan_eq (⟨#[120, 32, 58, 61, 32, 97, 91, 49, 54, 95, 70, 70, 93, 32, 40, 42, 32, 111, 110, 101, 32, 40, 42, 32, 116, 119, 111, 32, 42, 41, 32, 42, 41, 10, 69, 78, 68, 46]⟩ : ByteArray) w hE
  rw [pcsD2] at h
  refine h.mono ?_
  rintro e w' ⟨v, rfl, h1, _, hB⟩
  have h2 : w'.ownsRow w.heap.size 56 3 v toksD.length (flatT toksD) := h1
  rw [toksD_len] at h2
  obtain ⟨g, cap, rfl, hlt, hc⟩ := World.ownsRow.at_ h2 (by decide)
  exact ⟨g, cap, rfl, hB, hlt, hc _ _ toksD_18, hc _ _ toksD_19, hc _ _ toksD_20⟩
theorem bareD : (mkS (bareL (pcsL (bs (⟨#[97, 40, 42, 98, 42, 41, 99]⟩ : ByteArray))).1), (pcsL (bs (⟨#[97, 40, 42, 98, 42, 41, 99]⟩ : ByteArray))).2) = ((⟨#[97, 32, 32, 32, 32, 32, 99]⟩ : ByteArray), 0, 0) := by kernel_rfl
set_option maxRecDepth 100000 in
theorem d3 (w : World) (hE : Env w) : Calls Tryz.prog 34 #[.string (⟨#[97, 40, 42, 98, 42, 41, 99]⟩ : ByteArray)] w fun e w' => e = .returned (.tuple #[.string (⟨#[97, 32, 32, 32, 32, 32, 99]⟩ : ByteArray), .agg #[.int .i64 0, .int .i64 0]]) ∧ Below w.heap.size w w' := by
  have h := bare_eq (⟨#[97, 40, 42, 98, 42, 41, 99]⟩ : ByteArray) w hE
  obtain ⟨h1, h2⟩ := Prod.mk.inj bareD
  refine h.mono ?_
  rintro e w' ⟨rfl, hB⟩
  rw [h1, h2]
  exact ⟨rfl, hB⟩
theorem wrongD : pcsL (bs (⟨#[120, 10, 48, 48, 55]⟩ : ByteArray)) = ([], 11, 2) := by kernel_rfl
set_option maxRecDepth 100000 in
theorem d4 (w : World) (hE : Env w) : Calls Tryz.prog 32 #[.string (⟨#[120, 10, 48, 48, 55]⟩ : ByteArray)] w fun e w' => ∃ v, e = .returned (.tuple #[v, .agg #[.int .i64 11, .int .i64 2]]) ∧ Below w.heap.size w w' := by
  have h := scan_eq (⟨#[120, 10, 48, 48, 55]⟩ : ByteArray) w hE
  rw [wrongD] at h
  refine h.mono ?_
  rintro e w' ⟨v, rfl, _, _, hB⟩
  exact ⟨v, rfl, hB⟩
theorem spotD : spotR (⟨#[97, 98, 10, 99]⟩ : ByteArray) 4 = (2, 2, 0) := by kernel_rfl
theorem placeD : placeR (⟨#[97, 98, 10, 99]⟩ : ByteArray) 2 2 = (4, 0) := by kernel_rfl
theorem placeD2 : placeR (⟨#[97, 98, 10, 99]⟩ : ByteArray) 1 4 = (0, 1) := by kernel_rfl
theorem d5 (w : World) : Calls Tryz.prog 38 #[.string (⟨#[97, 98, 10, 99]⟩ : ByteArray), .int .i64 4] w fun e w' => e = .returned (.tuple #[.int .i64 2, .int .i64 2, .int .i64 0]) ∧ w = w' := by
  have h := spot_any (⟨#[97, 98, 10, 99]⟩ : ByteArray) 4 w
  rw [spotD] at h
  exact h
set_option maxRecDepth 100000 in
theorem d6 (w : World) (hE : Env w) : Calls Tryz.prog 40 #[.string (⟨#[97, 98, 10, 99]⟩ : ByteArray), .int .i64 2, .int .i64 2] w fun e w' => e = .returned (.tuple #[.int .i64 4, .int .i64 0]) ∧ Below w.heap.size w w' := by
  have h := place_any (⟨#[97, 98, 10, 99]⟩ : ByteArray) 2 2 w hE
  rw [placeD] at h
  exact h
set_option maxRecDepth 100000 in
theorem d7 (w : World) (hE : Env w) : Calls Tryz.prog 40 #[.string (⟨#[97, 98, 10, 99]⟩ : ByteArray), .int .i64 1, .int .i64 4] w fun e w' => e = .returned (.tuple #[.int .i64 0, .int .i64 1]) ∧ Below w.heap.size w w' := by
  have h := place_any (⟨#[97, 98, 10, 99]⟩ : ByteArray) 1 4 w hE
  rw [placeD2] at h
  exact h
def xsD : List Bit := (pcsL (bs (⟨#[97, 32, 43, 32, 98]⟩ : ByteArray))).1
def ysD : List Bit := (pcsL (bs (midS (⟨#[97, 32, 43, 32, 98]⟩ : ByteArray) (⟨#[45]⟩ : ByteArray) 2 3))).1
theorem xsD_eq : pcsL (bs (⟨#[97, 32, 43, 32, 98]⟩ : ByteArray)) = (xsD, 0, 0) := by kernel_rfl
theorem ysD_eq : pcsL (bs (midS (⟨#[97, 32, 43, 32, 98]⟩ : ByteArray) (⟨#[45]⟩ : ByteArray) 2 3)) = (ysD, 0, 0) := by kernel_rfl
theorem firstD : firstR xsD ysD = 2 := by kernel_rfl
theorem lastD : lastR xsD ysD = 2 := by kernel_rfl
set_option maxRecDepth 100000 in
theorem d8 (w : World) (hE : Env w) : Calls Tryz.prog 42 #[.string (⟨#[97, 32, 43, 32, 98]⟩ : ByteArray), .int .i64 2, .int .i64 3, .string (⟨#[45]⟩ : ByteArray)] w (AgainPost w 2 2 0 0) := by
  have h := again_ok (⟨#[97, 32, 43, 32, 98]⟩ : ByteArray) (⟨#[45]⟩ : ByteArray) 2 3 (by decide) (by decide) (by decide) (by decide) xsD xsD_eq ysD ysD_eq w hE
  rw [firstD, lastD] at h
  exact h
def xsE : List Bit := (pcsL (bs (⟨#[40, 32, 120, 32, 41]⟩ : ByteArray))).1
theorem xsE_eq : pcsL (bs (⟨#[40, 32, 120, 32, 41]⟩ : ByteArray)) = (xsE, 0, 0) := by kernel_rfl
theorem ysE_eq : pcsL (bs (midS (⟨#[40, 32, 120, 32, 41]⟩ : ByteArray) (⟨#[42]⟩ : ByteArray) 1 1)) = ([], 13, 1) := by kernel_rfl
set_option maxRecDepth 100000 in
theorem d9 (w : World) (hE : Env w) : Calls Tryz.prog 42 #[.string (⟨#[40, 32, 120, 32, 41]⟩ : ByteArray), .int .i64 1, .int .i64 1, .string (⟨#[42]⟩ : ByteArray)] w (AgainPost w 0 0 13 1) := by
  exact again_two (⟨#[40, 32, 120, 32, 41]⟩ : ByteArray) (⟨#[42]⟩ : ByteArray) 1 1 (by decide) (by decide) (by decide) (by decide) xsE xsE_eq 13 1 [] ysE_eq (by decide) w hE
theorem digD : mkS (Lib.decDigits 16 ++ (95 :: Lib.toUpperA (digL 16 40 255))) = (⟨#[49, 54, 95, 70, 70]⟩ : ByteArray) := by kernel_rfl
set_option maxRecDepth 100000 in
theorem d11 (w : World) (hE : Env w) (hD : Db w) : Calls Tryz.prog 27 #[.int .i64 255, .int .i64 16] w fun e w' => e = .returned (.tuple #[.string (⟨#[49, 54, 95, 70, 70]⟩ : ByteArray), .int .i64 0]) ∧ Below w.heap.size w w' := by
  have h := digits_base 255 16 (by decide) (by decide) (by decide) (by decide) w hE hD
  rw [digD] at h
  exact h
theorem valD : valR (bs (⟨#[50, 95, 48, 49, 48, 49]⟩ : ByteArray)) = some 5 := by kernel_rfl
theorem d10 (w : World) (hE : Env w) : Calls Tryz.prog 25 #[.string ⟨#[50, 95, 48, 49, 48, 49]⟩] w fun e w' => e = .returned (.tuple #[.int .i64 5, .int .i64 0]) ∧ Below w.heap.size w w' := by
  have h := value_any ⟨#[50, 95, 48, 49, 48, 49]⟩ (by decide) w hE
  rw [valD] at h
  refine h.mono ?_
  rintro e w' ⟨rfl, n, rfl⟩
  exact ⟨rfl, below_drewN' (Below.refl _ _) n⟩
/-- Cells that are known, in blocks that are there. -/
def Cells (W : World) (L : List (Addr × Value)) : Prop := ∀ p ∈ L, p.1.block < W.heap.size ∧ W.cell? p.1 = some p.2
theorem Cells.nil (W : World) : Cells W [] := by intro p hp; cases hp
theorem Cells.below {W W' : World} {L : List (Addr × Value)} (h : Cells W L) (hb : Below W.heap.size W W') : Cells W' L := fun p hp => by
  obtain ⟨h1, h2⟩ := h p hp
  refine ⟨Nat.lt_of_lt_of_le h1 hb.size, ?_⟩
  rw [← h2]
  exact hb.cell h1
theorem Cells.alloc {W : World} {L : List (Addr × Value)} (h : Cells W L) (o : Obj) : Cells (W.alloc o) L := h.below ((Below.refl _ _).alloc (Nat.le_refl _) _)
theorem Cells.add {W : World} {L : List (Addr × Value)} (h : Cells W L) {a : Addr} {v : Value} (ha : a.block < W.heap.size) (hc : W.cell? a = some v) : Cells W ((a, v) :: L) := fun p hp => by
  rcases List.mem_cons.1 hp with rfl | hp
  · exact ⟨ha, hc⟩
  · exact h p hp
theorem Cells.fault {W : World} {L : List (Addr × Value)} (h : Cells W L) (x y : Int) : Cells (W.alloc (.cells #[.int .i64 x, .int .i64 y] 34)) ((⟨W.heap.size, 0, none⟩, .int .i64 x) :: (⟨W.heap.size, 1, none⟩, .int .i64 y) :: L) := by
  have hb := Blk.new W [.int .i64 x, .int .i64 y] 34
  exact ((h.alloc _).add hb.lt (hb.cell 1)).add hb.lt (hb.cell 0)
theorem Cells.get {W : World} {L : List (Addr × Value)} (h : Cells W L) {a : Addr} {v : Value} (hm : (a, v) ∈ L) : W.cell? a = some v := (h _ hm).2
end Go.Proofs.YteknngncnbfbnaaGreatDoor
