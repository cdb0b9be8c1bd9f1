/- Part 36 of 51: the texts Wd, Mg, one behind the other. -/
import Derived.Test.YteaokkaidcbdlaaGreatDoorQ24
import Derived.Tactics
import Derived.Tactics2
import Derived.WalkKit
import Derived.LoopTactic
import Derived.Outline
import Derived.Lib.Hide
import Derived.Handy
import Derived.KernelRfl
import Derived.Deep.LoopGhost
import Derived.CallsIn
import Derived.Deep.QuietTactic
import Derived.BigQuiet
import Derived.Deep.Draws
import Derived.WalkSpells
import Derived.Lib.Walk
import Derived.Lib.Strings
import Derived.Maps.OwnOps
import Derived.Maps.OwnSet
import Derived.Deep.RegionWith
import Derived.StillTailTactics
import Derived.WalkMore
import Derived.RangeFuncNested
import Derived.RangeFuncBound
import Derived.RangeFuncCalls
import Derived.RangeFuncLeaves
import Derived.RangeFuncBox
import Derived.Shelf.Abstract
import Derived.OwnWalkIn
import Derived.TacticsInMore
import Derived.LoopNIn
import Derived.LoopIn
import Derived.RecoverIn
import Derived.Maps.AppendAt
import Derived.RegionTactic
import Derived.ChangeAlike
import Derived.OwnWalk
import Derived.Deep.AppendLies
import Derived.Deep.DeepCutAuto
import Derived.Deep.RegionLaw
import Derived.Deep.RegionHeld3
import Derived.Laws.EntriesVeiled
import Derived.Test.YteaokkaidcbdlaaGreatDoorQ35
import Derived.Test.YteaokkaidcbdlaaGreatDoorQ29
/- Word, for every graph and number. -/
namespace Go.Proofs.YteaokkaidcbdlaaGreatDoor
open Go Go.RowKit Go.Shelf
theorem one_slice (w : World) (a : Int) : SliceOf 1 (IntAt (w.alloc (.cells #[.int .i64 a] 3))) (.slice (some ⟨w.heap.size, 0, none⟩) 1 1) [a] := by
  refine ⟨_, _, rfl, Nat.le_refl _, by unfold maxLen; omega, fun i x hx => ⟨w.heap.size, 0, rfl, ?_⟩⟩
  match i with
  | 0 =>
    simp at hx
    subst hx
    exact (Blk.new w [.int .i64 a] 3).cell 0
  | i + 1 => simp at hx
def wordB (k : Nat) : Bool := decide (k = 1 ∨ k = 2 ∨ k = 3)
/-- What Word returns. -/
def wordR (G : List TyD) (a : Int) : Bool × Int := if checkedR G [a] = 0 then (wordB (kindAt G a), 0) else (false, checkedR G [a])
theorem checkedR_ok {G : List TyD} {l : List Int} (h : checkedR G l = 0) : (checkR G).2 = 0 ∧ ∀ i ∈ l, 0 ≤ i ∧ i < G.length := by
  unfold checkedR at h
  split at h
  · rename_i h1; exact absurd h h1
  · rename_i h1
    split at h
    · rename_i h2
      exact ⟨Classical.byContradiction fun hc => h1 hc, fun i hi => of_decide_eq_true (List.all_eq_true.1 h2 i hi)⟩
    · cases h
set_option maxHeartbeats 4000000 in
theorem word_any (gv : Value) (G : List TyD) (a : Int) (W : World) (hG0 : GrAt W gv G) (hz : GrZ G) :
    Calls Tryz.prog 17 #[gv, .int .i64 a] W fun e w' => e = .returned (.tuple #[.bool (wordR G a).1, .int .i64 (wordR G a).2]) ∧ Below W.heap.size W w' := by
  have hb : Below W.heap.size W (W.alloc (.cells #[.int .i64 a] 3)) := (Below.refl _ _).alloc (Nat.le_refl _) _
  have hC := hide (checked_any gv G _ (hG0.below hb) hz _ [a] (one_slice W a))
  by_cases h0 : checkedR G [a] = 0
  · have HR := Lib.hid (show wordR G a = (wordB (kindAt G a), 0) from if_pos h0)
    obtain ⟨ha0, ha1⟩ := (checkedR_ok h0).2 a (by simp)
    rw [h0] at hC
    obtain ⟨k, rfl⟩ : ∃ k : Nat, a = k := ⟨a.toNat, by omega⟩
    have hkl : k < G.length := by omega
    obtain ⟨o, cap, rfl⟩ := hG0.form
    obtain ⟨_, _, _, hat⟩ := hG0.at
    obtain ⟨b, off, rfl, vp, vm, vo, _, d0, _⟩ := hat k G[k] (List.getElem?_eq_getElem hkl)
    have HK := Lib.hid (show kindAt G k = G[k].kind by unfold kindAt; simp [hkl])
    have d0' := hide (fun w' (h : Below W.heap.size W w') => Holds.below h _ _ d0)
    generalize G[k].kind = kk at d0 d0' HK
    clear hat d0 hG0 hz h0
    rcases (show kk = 1 ∨ kk = 2 ∨ kk = 3 ∨ (kk ≠ 1 ∧ kk ≠ 2 ∧ kk ≠ 3) by omega) with rfl | rfl | rfl | ⟨h1, h2, h3⟩
    case inr.inr.inr =>
      have e1 : ((kk : Int) == 1) = false := by simp; omega
      have e2 : ((kk : Int) == 2) = false := by simp; omega
      have e3 : ((kk : Int) == 3) = false := by simp; omega
      go_enter Tryz.func17, Tryz.ntmps17
      go_wp2_with (first | (go_at_call 57; refine (unhide hC).mono ?_; clear hC; rintro e w1 ⟨rfl, hb1⟩; have r0 := unhide d0' w1 (hb.trans (hb1.mono hb.size)); clear d0'))
      go_ret2
      exact ⟨by rw [HR.out, HK.out]; unfold wordB; rw [decide_eq_false (by omega)]; rfl, hb.trans (hb1.mono hb.size)⟩
    all_goals
      go_enter Tryz.func17, Tryz.ntmps17
      go_wp2_with (first | (go_at_call 57; refine (unhide hC).mono ?_; clear hC; rintro e w1 ⟨rfl, hb1⟩; have r0 := unhide d0' w1 (hb.trans (hb1.mono hb.size)); clear d0'))
      go_ret2
      exact ⟨by rw [HR.out, HK.out]; rfl, hb.trans (hb1.mono hb.size)⟩
  · have HR := Lib.hid (show wordR G a = (false, checkedR G [a]) from if_neg h0)
    have hne : (checkedR G [a] != 0) = true := by simpa using h0
    obtain ⟨o, cap, rfl⟩ := hG0.form
    revert HR hne hC
    generalize checkedR G [a] = c
    intro HR hne hC
    clear h0 hG0
    go_enter Tryz.func17, Tryz.ntmps17
    go_wp2_with (first | (go_at_call 57; refine (unhide hC).mono ?_; clear hC; rintro e w1 ⟨rfl, hb1⟩))
    go_ret2
    exact ⟨by rw [HR.out]; rfl, hb.trans (hb1.mono hb.size)⟩
end Go.Proofs.YteaokkaidcbdlaaGreatDoor
/- Merge (34): the least types, with other numbers. -/
namespace Go.Proofs.YteaokkaidcbdlaaGreatDoor
open Go Go.RowKit Go.Shelf
attribute [local go_sem] Oper.semAt_some
/-! ### Merge (34) -/
/-- The least types that stay, and of each type the place where it is then. -/
def mergeS (c : Nat → Nat) : Nat → List Nat × List Nat
  | 0 => ([], [])
  | k + 1 => if c k = k then ((mergeS c k).1 ++ [k], (mergeS c k).2 ++ [(mergeS c k).1.length]) else ((mergeS c k).1, (mergeS c k).2 ++ [(mergeS c k).2.getD (c k) 0])
theorem mergeS_len (c : Nat → Nat) : ∀ k, (mergeS c k).2.length = k ∧ (mergeS c k).1.length ≤ k ∧ ∀ x ∈ (mergeS c k).1, x < k
  | 0 => ⟨rfl, Nat.le_refl _, fun x h => by simp [mergeS] at h⟩
  | k + 1 => by
    obtain ⟨h1, h2, h3⟩ := mergeS_len c k
    unfold mergeS
    split
    · refine ⟨by simp [h1], by simp; omega, fun x hx => ?_⟩
      rw [List.mem_append] at hx
      rcases hx with hx | hx
      · have := h3 x hx; omega
      · simp at hx; omega
    · exact ⟨by simp [h1], by simp; omega, fun x hx => by have := h3 x hx; omega⟩
def mergeL (G : List TyD) : List Nat × List Nat := mergeS (clF G) G.length
def mergeT (G : List TyD) : List TyD := (mergeL G).1.map fun i => mapTy (toF ((mergeL G).2.map Int.ofNat)) (G.getD i default)
theorem clF_le (G : List TyD) : ∀ i, i < G.length → clF G i ≤ i := by
  unfold clF classesL
  have h0 := leasts_spec (fun f i => agreeB (G.getD f default) (G.getD i default)) G.length
  have h1 := fun i hi => (h0.2.1 i hi).1
  generalize (leastsS (fun f i => agreeB (G.getD f default) (G.getD i default)) G.length).2 = c at h1
  clear h0
  generalize G.length + 1 = m
  induction m generalizing c with
  | zero => exact h1
  | succ m ih =>
    unfold settle
    split
    · exact h1
    · exact ih _ (fun i hi => ((leasts_spec (finerB (c.map Int.ofNat) (G.map refsOf)) G.length).2.1 i hi).1)
/-- What holds between two rounds of Merge's loop. -/
structure MgI (B : Nat) (w1 : World) (L M : List Nat) (v7 v8 : Value) (wr : World) : Prop where
  bel : Below B w1 wr
  hB : B ≤ wr.heap.size
  r7 : wr.ownsRow B 3 1 v7 L.length (natsV L)
  r8 : wr.ownsRow B 3 1 v8 M.length (natsV M)
  apt : Apt v7 v8
theorem MgI.push7 {B : Nat} {w1 wr w2 : World} {L M : List Nat} {v7 v8 : Value} {g cap x : Nat} {tmp : Obj} (h : MgI B w1 L M v7 v8 wr)
    (hown : w2.ownsRow B 3 1 (.slice (some ⟨g, 0, none⟩) (L.length + 1) cap) (L.length + 1) (natsV L ++ [natI x])) (hgrow : (wr.alloc tmp).grownBy w2 v7.ownBlock) (hg : v7.ownBlock = some g ∨ g = wr.heap.size + 1)
    (hbl : ∀ B' w0, Below B' w0 (wr.alloc tmp) → B' ≤ B → Below B' w0 w2) : MgI B w1 (L ++ [x]) M (.slice (some ⟨g, 0, none⟩) (L.length + 1) cap) v8 w2 := by
  refine ⟨hbl _ _ (h.bel.alloc h.hB _) (Nat.le_refl _), Nat.le_trans h.hB (Nat.le_trans (by simp) hgrow.size), by rw [natsV_snoc]; simpa using hown, Apt.kept (h.r8.alloc tmp) hgrow h.apt, fun g0 hg0 hn => ?_⟩
  obtain rfl : g = g0 := by simpa [Value.ownBlock] using hg0
  rcases hg with hg | hg
  · exact h.apt g hg hn
  · have := (h.r8.lt g hn).2
    omega
theorem MgI.push8 {B : Nat} {w1 wr w2 : World} {L M : List Nat} {v7 v8 : Value} {g cap x : Nat} {tmp : Obj} (h : MgI B w1 L M v7 v8 wr)
    (hown : w2.ownsRow B 3 1 (.slice (some ⟨g, 0, none⟩) (M.length + 1) cap) (M.length + 1) (natsV M ++ [natI x])) (hgrow : (wr.alloc tmp).grownBy w2 v8.ownBlock) (hg : v8.ownBlock = some g ∨ g = wr.heap.size + 1)
    (hbl : ∀ B' w0, Below B' w0 (wr.alloc tmp) → B' ≤ B → Below B' w0 w2) : MgI B w1 L (M ++ [x]) v7 (.slice (some ⟨g, 0, none⟩) (M.length + 1) cap) w2 := by
  refine ⟨hbl _ _ (h.bel.alloc h.hB _) (Nat.le_refl _), Nat.le_trans h.hB (Nat.le_trans (by simp) hgrow.size), Apt.kept (h.r7.alloc tmp) hgrow h.apt.symm, by rw [natsV_snoc]; simpa using hown, fun g0 hg0 hn => ?_⟩
  obtain rfl : g = g0 := by simpa [Value.ownBlock] using hn
  rcases hg with hg | hg
  · exact h.apt g hg0 hg
  · have := (h.r7.lt g hg0).2
    omega
theorem check_sigs {G : List TyD} (h : (checkR G).2 = 0) : ∀ t ∈ G, ∀ m ∈ t.meths, m.args.length ≤ 1000 ∧ m.raises.length ≤ 1000 := by
  unfold checkR at h
  split at h
  · simp at h
  · rename_i h4
    split at h
    · simp at h
    · rename_i hn
      have hall := firstNo_all (p := tyB G) (l := G) (by
        rcases firstNo_ge (tyB G) G with h1 | h1
        · exact h1
        · exact absurd h1 hn)
      intro t ht m hm
      have := (tyB_refs (hall t ht)).meths m hm
      unfold sigB at this
      simp at this
      omega
set_option maxRecDepth 100000 in
set_option maxHeartbeats 1000000 in
theorem merge_any (gv : Value) (G : List TyD) (W : World) (hG0 : GrAt W gv G) (hz : GrZ G) :
    Calls Tryz.prog 34 #[gv] W fun e w' => ∃ v m, e = .returned (.tuple #[v, m, .int .i64 (checkedR G [])]) ∧ Below W.heap.size W w' ∧ (if checkedR G [] = 0 then (∃ es, es.map Ent.t = mergeT G ∧ GrOwn W.heap.size w' v es) ∧ w'.ownsRow W.heap.size 3 1 m G.length (natsV (mergeL G).2) else v = .slice none 0 0 ∧ m = .slice none 0 0) := by
  obtain ⟨o, cap, rfl⟩ := hG0.form
  have HC := hide (checked_any _ G W hG0 hz (.slice none 0 0) [] .none')
  by_cases h0 : checkedR G [] = 0
  · obtain ⟨h1, h2, h3⟩ := checked_fit hz h0
    have HK := hide (fun (w1 : World) (h : Below W.heap.size W w1) => classes_any _ G w1 (hG0.below h) h1 h2 h3)
    have hsg := check_sigs (checkedR_ok h0).1
    rw [h0] at HC ⊢
    simp only [↓reduceIte]
    go_enter Tryz.func34, Tryz.ntmps34
    go_wp2_with (first | (go_at_call 57; refine (unhide HC).mono ?_; clear HC; rintro e w1 ⟨rfl, hb1⟩) | (go_at_call 64; refine (unhide HK w1 hb1).mono ?_; clear HK; rintro e w3 ⟨v3, rfl, hr3, hb3⟩; obtain ⟨o3, c3, rfl⟩ := row_form hr3))
    have hb13 := hb1.trans (hb3.mono hb1.size)
    have hI0 : MgI w3.heap.size w3 (mergeS (clF G) 0).1 (mergeS (clF G) 0).2 (.slice none 0 0) (.slice none 0 0) w3 := ⟨Below.refl _ _, Nat.le_refl _, World.ownsRow_nil _ _ _ _, World.ownsRow_nil _ _ _ _, fun g h => by simp [Value.ownBlock] at h⟩
    go_loopw [7, 8, 20] (fun v7 v8 i wr => ∃ k : Nat, k ≤ G.length ∧ i = .int .i64 k ∧ MgI w3.heap.size w3 (mergeS (clF G) k).1 (mergeS (clF G) k).2 v7 v8 wr) (fun _ _ i _ => G.length - (intOf i).toNat)
    case atStart => exact ⟨0, Nat.zero_le _, rfl, hI0⟩
    case round =>
      clear hI0
      obtain ⟨k, hk, rfl, hI⟩ := hrel
      obtain ⟨hl1, hl2, hl3⟩ := mergeS_len (clF G) k
      obtain ⟨o7, c7, rfl⟩ := row_form hI.r7
      obtain ⟨o8, c8, rfl⟩ := row_form hI.r8
      by_cases hlt : k < G.length
      · have hlt' : (k : Int) < G.length := by omega
        obtain ⟨g3, rfl⟩ := row_some hr3 (by omega)
        have hcc := Holds.below hI.bel _ _ (classes_cell hr3 k hlt)
        have hle := clF_le G k hlt
        have HS := Lib.hid (show mergeS (clF G) (k + 1) = if clF G k = k then ((mergeS (clF G) k).1 ++ [k], (mergeS (clF G) k).2 ++ [(mergeS (clF G) k).1.length]) else ((mergeS (clF G) k).1, (mergeS (clF G) k).2 ++ [(mergeS (clF G) k).2.getD (clF G k) 0]) from rfl)
        generalize clF G k = ck at hcc hle HS
        generalize (mergeS (clF G) k).1 = L at hI hl2 hl3 HS ⊢
        generalize (mergeS (clF G) k).2 = M at hI hl1 HS ⊢
        subst hl1
        have hN := hI.hB
        by_cases hck : ck = M.length
        · subst hck
          have HS2 := HS.out
          rw [if_pos rfl] at HS2
          have HS3 := Lib.hid HS2
          clear HS HS2
          go_wp2_with (first | (at_builtin; refine app_lies _ _ 37 3 (.int .i64 0) 8 info3 Tryz.underlying37 rfl (by decide) rfl rfl w3.heap.size _ (natsV L) rfl (by rw [natsV_len]; exact hI.r7.alloc _) _ (natI M.length) rfl ?c1 rfl (by rw [natsV_len]; omega) ?c2 ?_))
          case c1 => exact (Blk.new wr [natI M.length] 3).cell 0
          case c2 => simp; omega
          intro g cap2 w4 hown' hgrow hg hbl
          rw [natsV_len] at hown' ⊢
          have hI2 := hI.push7 hown' hgrow hg hbl
          have hN2 := hI2.hB
          clear hown' hgrow hg hbl hI
          have hsub : ((L.length : Int) + 1 - 1) = (L.length : Int) := by omega
          go_wp2_with (first | (at_builtin; refine app_lies _ _ 37 3 (.int .i64 0) 8 info3 Tryz.underlying37 rfl (by decide) rfl rfl w3.heap.size _ (natsV M) rfl (by rw [natsV_len]; exact hI2.r8.alloc _) _ (natI L.length) rfl ?c1 rfl (by rw [natsV_len]; omega) ?c2 ?_))
          case c1 => exact (Blk.new w4 [natI L.length] 3).cell 0
          case c2 => simp; omega
          intro g2 cap3 w5 hown' hgrow hg hbl
          rw [natsV_len] at hown' ⊢
          have hI3 := hI2.push8 hown' hgrow hg hbl
          clear hown' hgrow hg hbl hI2
          go_wp2
          go_roundw
          case rel => exact ⟨M.length + 1, by omega, by go_num, by rw [HS3.out]; exact hI3⟩
          case measure => simp [intOf]; omega
        · have HS2 := HS.out
          rw [if_neg hck] at HS2
          have hck2 : ck < M.length := by omega
          have hck' : (ck : Int) < M.length := by omega
          have hckn : ((ck : Int) == M.length) = false := by simp; omega
          obtain ⟨g8, rfl⟩ := row_some hI.r8 (by omega)
          obtain ⟨x, hx⟩ : ∃ x, M.getD ck 0 = x := ⟨_, rfl⟩
          have hcx : wr.cell? ⟨g8, ck, none⟩ = some (.int .i64 x) := by
            rw [Row1.cells hI.r8 ck hck2, ← hx]
            unfold natsV
            rw [List.getElem?_map, List.getElem?_eq_getElem hck2, List.getD_eq_getElem?_getD, List.getElem?_eq_getElem hck2]; rfl
          rw [hx] at HS2
          have HS3 := Lib.hid HS2
          clear HS HS2
          go_wp2_with (first | (at_builtin; refine app_lies _ _ 37 3 (.int .i64 0) 8 info3 Tryz.underlying37 rfl (by decide) rfl rfl w3.heap.size _ (natsV M) rfl (by rw [natsV_len]; exact hI.r8.alloc _) _ (natI x) rfl ?c1 rfl (by rw [natsV_len]; omega) ?c2 ?_))
          case c1 => exact (Blk.new wr [natI x] 3).cell 0
          case c2 => simp; omega
          intro g cap2 w4 hown' hgrow hg hbl
          rw [natsV_len] at hown' ⊢
          have hI2 := hI.push8 hown' hgrow hg hbl
          clear hown' hgrow hg hbl hI
          go_wp2
          go_roundw
          case rel => exact ⟨M.length + 1, by omega, by go_num, by rw [HS3.out]; exact hI2⟩
          case measure => simp [intOf]; omega
      · obtain rfl : k = G.length := by omega
        have hfit := hz.tys
        have hB3 := hb13.trans (hI.bel.mono hb13.size)
        generalize hmm : mergeS (clF G) G.length = P at hI hl1 hl2 hl3 ⊢
        have hML : mergeL G = P := hmm
        clear hmm
        have HP := hide (picked_any o cap G (P.1.map fun i => G.getD i default) P.1 (P.2.map Int.ofNat) (.slice o7 P.1.length c7) (.slice o8 P.2.length c8) wr (hG0.below hB3) (row_nats hI.r7) (row_nats hI.r8) (by omega) (by simp)
          (fun j hj => ⟨hl3 _ (List.getElem_mem hj), by
            have := hl3 _ (List.getElem_mem hj)
            simp [hj, List.getD_eq_getElem?_getD, this]⟩)
          (fun t ht => by
            obtain ⟨_, a, b, c, _⟩ := hfit t ht
            exact ⟨by omega, by omega, by omega, hsg t ht⟩)
          (fun t ht => by
            obtain ⟨i, hi, rfl⟩ := List.mem_map.1 ht
            have hi' := hl3 i hi
            have hm : G.getD i default ∈ G := by
              rw [List.getD_eq_getElem?_getD, List.getElem?_eq_getElem hi']; exact List.getElem_mem hi'
            intro x hx
            have := h3 _ hm x hx
            rw [List.length_map, hl1]; exact this))
        have hr8 := hI.r8
        have hT : (List.map (fun i => G.getD i default) P.1).map (mapTy (toF (P.2.map Int.ofNat))) = mergeT G := by unfold mergeT; rw [List.map_map, hML]; rfl
        rw [hT] at HP
        have hsz := hB3.size
        have hw3 := hb13.size
        have HML := Lib.hid hML
        clear hML
        obtain ⟨L, M⟩ := P
        simp only at hr8 HP hl1 hl2 ⊢
        rw [hl1] at HP hr8
        clear hfit h1 h2 h3 hsg hz hl3 hT hI hG0
        go_wp2_with (first | (go_at_call 70; refine (unhide HP).mono ?_; clear HP; rintro e w6 ⟨v, es, rfl, he, hO, hb6⟩))
        go_ret3
        refine ⟨_, _, rfl, hB3.trans (hb6.mono hB3.size), ⟨es, he, ?_⟩, ?_⟩
        · exact ⟨Row.mono hO.row hsz, fun e he => by
            obtain ⟨S, E, a, b, c, d⟩ := hO.far e he
            exact ⟨S, E, by omega, b, c, d⟩⟩
        · rw [HML.out]
          exact Row.mono (Row.below hr8 hb6) hw3
  · simp only [if_neg h0]
    clear hG0 hz
    generalize checkedR G [] = ck at h0 HC ⊢
    go_enter Tryz.func34, Tryz.ntmps34
    go_wp2_with (first | (go_at_call 57; refine (unhide HC).mono ?_; clear HC; rintro e w1 ⟨rfl, hb1⟩))
    go_ret3
    exact ⟨_, _, rfl, hb1, rfl, rfl⟩
end Go.Proofs.YteaokkaidcbdlaaGreatDoor
