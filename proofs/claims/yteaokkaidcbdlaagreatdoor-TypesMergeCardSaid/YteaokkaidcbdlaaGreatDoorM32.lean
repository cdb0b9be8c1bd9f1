/- Part 32 of 53: the texts Wo, Ws, Wm, one behind the other. -/
import Derived.Test.YteaokkaidcbdlaaGreatDoorM29
import Derived.Test.YteaokkaidcbdlaaGreatDoorM0
namespace Go.Proofs.YteaokkaidcbdlaaGreatDoor
open Go Go.RowKit Go.Shelf
attribute [local go_sem] Oper.semAt_some
open Go.Sort
set_option maxHeartbeats 2000000 in
set_option maxRecDepth 100000 in
theorem wrPart {W0 w : World} {b tb tk : Nat} {l : List UInt8} {t : TyD} (hT : TyAt W0 tb tk t) (h : WC W0 b l w) (hp : ∀ p ∈ t.parts, p.name.size ≤ 1000 ∧ I64 p.type) (hn : t.parts.length ≤ 10) (hlen : l.length ≤ 800000000) :
    Calls Tryz.prog 291 #[.pointer (some ⟨b, 0, none⟩), .pointer (some ⟨tb, tk, none⟩)] w fun e w' => e = .returned (.tuple #[]) ∧ WS W0.heap.size b w (l ++ fieldsW t.parts) w' := by
  have HB := hide (wrFields hT h hp hn hlen)
  clear h hT hp
  go_enter Tryz.func291, Tryz.ntmps291
  go_wp2_with (first | (go_at_call 287; refine (unhide HB).mono ?_; rintro e w1 ⟨rfl, hs⟩))
  go_end0
  exact ⟨rfl, hs⟩
set_option maxHeartbeats 2000000 in
set_option maxRecDepth 100000 in
theorem wrOvers {W0 w : World} {b tb tk : Nat} {l : List UInt8} {t : TyD} (hT : TyAt W0 tb tk t) (h : WC W0 b l w) (hp : ∀ p ∈ t.overs, p.name.size ≤ 1000 ∧ p.proc.size ≤ 1000) (hn : t.overs.length ≤ 10) (hlen : l.length ≤ 800000000) :
    Calls Tryz.prog 290 #[.pointer (some ⟨b, 0, none⟩), .pointer (some ⟨tb, tk, none⟩)] w fun e w' => e = .returned (.tuple #[]) ∧ WS W0.heap.size b w (l ++ oversW t.overs) w' := by
  have hpl : ∀ p ∈ t.overs, (overW p).length ≤ 2100 := fun p hpm => by
   obtain ⟨h1, h2⟩ := hp p hpm
   unfold overW
   simp only [List.length_append, List.length_cons, ba_size]; omega
  obtain ⟨vp, vm, vo, hTL, -, -, -, -, -, -, -, -, -, c9⟩ := hT
  have k9 := Holds.below h.bel _ _ c9
  obtain ⟨op, cp, rfl⟩ := hTL.overs.form
  go_enter Tryz.func290, Tryz.ntmps290
  go_wp2
  clear k9 c9
  go_loopw [11] (fun i wr => ∃ k : Nat, k ≤ t.overs.length ∧ i = .int .i64 k ∧ WS W0.heap.size b w (l ++ oversW (t.overs.take k)) wr) (fun i _ => t.overs.length - (intOf i).toNat)
  case atStart => exact ⟨0, Nat.zero_le _, rfl, by simpa [oversW] using WS.refl h.at'⟩
  case round =>
   obtain ⟨k, hk, rfl, hs⟩ := hrel
   by_cases hlt : k < t.overs.length
   ·have hlt' : (k : Int) < t.overs.length := by omega
    have hbw := h.bel.trans hs.bel
    have hge := hs.at'.ge
    obtain ⟨-, -, -, hat⟩ := hTL.overs.at
    obtain ⟨g, off, rfl, hc0, hc1⟩ := hat k t.overs[k] (List.getElem?_eq_getElem hlt)
    obtain ⟨hps, hpt⟩ := hp _ (List.getElem_mem hlt)
    have e0 := Holds.below hbw _ _ hc0
    have e1 := Holds.below hbw _ _ hc1
    have hfl : (oversW (t.overs.take k)).length ≤ 21000 := Nat.le_trans (take_flatW_len t.overs hpl k) (by omega)
    have hsn : oversW (t.overs.take (k + 1)) = oversW (t.overs.take k) ++ overW t.overs[k] := by
     unfold oversW
     rw [List.take_succ_eq_append_getElem hlt, List.flatMap_append]; simp
    have HSN := Lib.hid hsn
    generalize t.overs[k] = p at hps hpt e0 e1 HSN
    generalize hL : l ++ oversW (t.overs.take k) = L at hs
    have hLl : L.length ≤ 800021000 := by rw [← hL, List.length_append]; omega
    have hz : (⟨#[32]⟩ ++ p.name ++ ⟨#[61]⟩ ++ p.proc : ByteArray).size = p.name.size + p.proc.size + 2 := by simp [ByteArray.size_append]; rw [show (⟨#[32]⟩ : ByteArray).size = 1 from rfl, show (⟨#[61]⟩ : ByteArray).size = 1 from rfl]; omega
    have hd : (⟨#[32]⟩ ++ p.name ++ ⟨#[61]⟩ ++ p.proc : ByteArray).data.toList = overW p := by rw [ByteArray.data_append, ByteArray.data_append, ByteArray.data_append]; simp [overW]
    have hbX : Below wr.heap.size wr (wr.alloc (.cells #[.string p.name, .string p.proc] 116)).drew := (Below.refl _ _).alloc (Nat.le_refl _) _ |>.drew
    have HS := hide (fun w1 (hb : Below wr.heap.size wr w1) => (wr141 (⟨#[32]⟩ ++ p.name ++ ⟨#[61]⟩ ++ p.proc) (hs.below hb).at' (by rw [hz]; omega)).mono (R' := fun e w' => ∃ v, e = .returned v ∧ WS W0.heap.size b w (L ++ overW p) w') (by
     rintro e w' ⟨rfl, h2⟩
     rw [hd] at h2
     exact ⟨_, rfl, (hs.below hb).trans h2⟩))
    have bx := Blk.new wr [.string p.name, .string p.proc] 116
    have c0 := bx.cell 0
    have c1 := bx.cell 1
    simp only [List.getElem?_cons_zero, List.getElem?_cons_succ] at c0 c1
    clear hat hc0 hc1 hsn hz hd hp hpl hTL
    go_wp2
    go_region_with (first | (go_at_call 141; refine (unhide HS _ hbX).mono ?_; rintro e w2 ⟨v2, rfl, h2⟩))
    all_goals (try go_wp2)
    all_goals go_roundw
    all_goals first
     | exact ⟨k + 1, by omega, by go_num, by rw [HSN.out, ← List.append_assoc, hL]; exact h2⟩
     | (simp [intOf]; omega)
   ·obtain rfl : k = t.overs.length := by omega
    rw [List.take_length] at hs
    clear hTL hp hpl
    go_wp2
    go_end0
    exact ⟨rfl, hs⟩
end Go.Proofs.YteaokkaidcbdlaaGreatDoor

namespace Go.Proofs.YteaokkaidcbdlaaGreatDoor
open Go Go.RowKit Go.Shelf
attribute [local go_sem] Oper.semAt_some
open Go.Sort
def argW (i : Nat) (a : Int) : List UInt8 := (if i = 0 then [] else [44]) ++ Lib.itoa a
def argsW (l : List Int) : List UInt8 := l.zipIdx.flatMap fun x => argW x.2 x.1
def resW (r : Int) : List UInt8 := if r = -1 then [45] else Lib.itoa r
def raisesW (rs : List ByteArray) : List UInt8 := if rs.length = 0 then [] else 33 :: Lib.join (rs.map (·.data.toList)) [44]
def sigW (m : MethD) : List UInt8 := [40] ++ argsW m.args ++ [41] ++ resW m.result ++ raisesW m.raises
theorem argsW_snoc (l : List Int) (a : Int) : argsW (l ++ [a]) = argsW l ++ argW l.length a := by
 unfold argsW; rw [List.zipIdx_append, List.flatMap_append]; simp
theorem argsW_len : ∀ (l : List Int), (∀ x ∈ l, I64 x) → (argsW l).length ≤ l.length * 22 := by
 intro l h
 unfold argsW
 have := flatW_len (f := fun x : Int × Nat => argW x.2 x.1) (m := 22) l.zipIdx (fun x hx => by
  have h1 := itoa_len (h x.1 (List.mem_of_getElem? (List.mem_zipIdx_iff_getElem?.1 hx)))
  unfold argW
  rw [List.length_append]
  split <;> simp <;> omega)
 simpa using this
def BoxS (bx : Nat) (va vr : Value) (res : Int) (w : World) : Prop := w.heap[bx]? = some (.cells #[va, .int .i64 res, vr] 72 (0, 0))
theorem BoxS.kept {bx b : Nat} {va vr : Value} {res : Int} {w w' : World} (h : BoxS bx va vr res w) (hne : bx ≠ b) (ho : Lib.OthersKept 5 (some b) w w') : BoxS bx va vr res w' :=
 ho bx _ h (by simpa using hne) (by intro c fz e; cases e)
theorem BoxS.cells {bx : Nat} {va vr : Value} {res : Int} {w : World} (h : BoxS bx va vr res w) : w.cell? ⟨bx, 0, none⟩ = some va ∧ w.cell? ⟨bx, 1, none⟩ = some (.int .i64 res) ∧ w.cell? ⟨bx, 2, none⟩ = some vr := by
 unfold BoxS at h
 simp [World.cell?, h]
theorem joinR {W0 : World} {gq offq cq : Nat} {rs : List ByteArray} (w3 : World) (h : SliceOf 1 (StrAt W0) (.slice (some ⟨gq, offq, none⟩) rs.length cq) rs) (hb : Below W0.heap.size W0 w3) (h0 : 0 < rs.length) (hl : (raisesW rs).length ≤ 100000) (hn : rs.length ≤ 1000) :
    Calls Tryz.prog 295 #[.slice (some ⟨gq, offq, none⟩) rs.length cq, .string ⟨#[44]⟩] w3 fun e w' => e = .returned (.string ⟨(Lib.join (rs.map (·.data.toList)) [44]).toArray⟩) ∧ Below w3.heap.size w3 w' := by
  obtain ⟨q1, q2, q3, hat⟩ := h.at
  have hl2 : (Lib.join (rs.map (·.data.toList)) [44]).length ≤ 100000 := by
   unfold raisesW at hl
   rw [if_neg (by omega)] at hl
   simp at hl; omega
  have hcell : ∀ (j : Nat) x, rs[j]? = some x → w3.cell? ⟨gq, offq + j, none⟩ = some (.string x) := fun j x hj => by
   obtain ⟨b', o', e, hx⟩ := hat j x hj
   cases e
   have := Holds.below hb _ _ hx
   rwa [Nat.mul_one] at this
  have hlt : gq < w3.heap.size := block_lt_of_cell (hcell 0 rs[0] (List.getElem?_eq_getElem h0))
  exact Tryz.strings_Join gq offq cq rs ⟨#[44]⟩ w3 hcell hlt (by omega) (by first | exact q1 | exact q2 | exact q3) (Nat.le_trans hl2 (by omega))
set_option maxHeartbeats 4000000 in
set_option maxRecDepth 100000 in
theorem wrSig {W0 w : World} {b : Nat} {l : List UInt8} {m : MethD} {va vr : Value} (hV : MethV W0 va vr m) (h : WC W0 b l w) (ha : ∀ x ∈ m.args, I64 x) (hr : I64 m.result) (hn : m.args.length ≤ 10) (hlen : l.length ≤ 800000000)
    (hrs : (raisesW m.raises).length ≤ 100000 ∧ m.raises.length ≤ 1000) :
    Calls Tryz.prog 294 #[.pointer (some ⟨b, 0, none⟩), .agg #[va, .int .i64 m.result, vr]] w fun e w' => e = .returned (.tuple #[]) ∧ WS W0.heap.size b w (l ++ sigW m) w' := by
  obtain ⟨oa, ca, rfl⟩ := hV.args.form
  obtain ⟨oq, cq, rfl⟩ := hV.raises.form
  obtain ⟨w1, hw1⟩ : ∃ w1, w.alloc (.cells #[.slice oa m.args.length ca, .int .i64 m.result, .slice oq m.raises.length cq] 72) = w1 := ⟨_, rfl⟩
  have hb1 : Below w.heap.size w w1 := by rw [← hw1]; exact (Below.refl _ _).alloc (Nat.le_refl _) _
  have hbx : BoxS w.heap.size (.slice oa m.args.length ca) (.slice oq m.raises.length cq) m.result w1 := by
   rw [← hw1]; exact Blk.new w [.slice oa m.args.length ca, .int .i64 m.result, .slice oq m.raises.length cq] 72
  have hge := h.at'.ge
  have hne : w.heap.size ≠ b := by omega
  have hs1 := (WS.refl h.at').below hb1
  have h1 := h.step hs1
  have HF := hide (fun (w' : World) (l' : List UInt8) (hs : WS W0.heap.size b w1 l' w') => hs1.trans hs)
  have HX := hide (fun (w' : World) (l' : List UInt8) (hs : WS W0.heap.size b w1 l' w') => hbx.kept hne hs.oth)
  have HB := hide (wr125 40 h1.at' (by omega))
  have hw1' : w.alloc (.cells #[.slice oa m.args.length ca, .int .i64 m.result, .slice oq m.raises.length cq] 72) = w1 := hw1
  clear hb1 hs1 hw1 h
  go_enter Tryz.func294, Tryz.ntmps294
  go_wp2_with (first | (go_at_call 125; refine (unhide HB).mono ?_; clear HB; rintro e w2 ⟨rfl, hs⟩; obtain ⟨e0, e1, e2⟩ := (unhide HX _ _ hs).cells))
  clear e0 e1 e2
  go_loopw [13] (fun i wr => ∃ k : Nat, k ≤ m.args.length ∧ i = .int .i64 k ∧ WS W0.heap.size b w1 (l ++ [40] ++ argsW (m.args.take k)) wr) (fun i _ => m.args.length - (intOf i).toNat)
  case atStart => exact ⟨0, Nat.zero_le _, rfl, by simpa [argsW] using hs⟩
  case round =>
   clear hs
   obtain ⟨k, hk, rfl, hs⟩ := hrel
   have hal : (argsW (m.args.take k)).length ≤ 220 := by
    have := argsW_len (m.args.take k) (fun x hx => ha x (List.mem_of_mem_take hx))
    have h2 : (m.args.take k).length ≤ 10 := by simp; omega
    omega
   have hll : (l ++ [40] ++ argsW (m.args.take k)).length ≤ 800000300 := by simp only [List.length_append, List.length_cons, List.length_nil]; omega
   by_cases hlt : k < m.args.length
   ·have hlt' : (k : Int) < m.args.length := by omega
    have hbw := h1.bel.trans hs.bel
    obtain ⟨-, -, -, hat⟩ := hV.args.at
    obtain ⟨g, off, rfl, hc0⟩ := hat k m.args[k] (List.getElem?_eq_getElem hlt)
    have hak := ha _ (List.getElem_mem hlt)
    have e0 : wr.cell? ⟨g, off + k, none⟩ = some (.int .i64 m.args[k]) := by
     have := Holds.below hbw _ _ hc0
     rwa [Nat.mul_one] at this
    have hsn : argsW (m.args.take (k + 1)) = argsW (m.args.take k) ++ argW k m.args[k] := by
     rw [List.take_succ_eq_append_getElem hlt, argsW_snoc]
     congr 2
     simp; omega
    have HSN := Lib.hid hsn
    generalize m.args[k] = a at hak e0 HSN
    generalize hL : l ++ [40] ++ argsW (m.args.take k) = L at hs hll
    clear hat hc0 hsn
    by_cases hk0 : k = 0
    ·subst hk0
     rw [Nat.add_zero] at e0
     have HN := hide ((wrNum a hak.1 hak.2 hs.at' (h1.step hs).p (by omega)).mono (R' := fun e w' => e = .returned (.tuple #[]) ∧ WS W0.heap.size b w1 (L ++ argW 0 a) w') (by
      rintro e w' ⟨rfl, h2⟩
      exact ⟨rfl, hs.trans h2⟩))
     go_wp2_with (first | (go_at_call 124; refine (unhide HN).mono ?_; rintro e w3 ⟨rfl, h3⟩))
     go_roundw
     case rel => exact ⟨1, by omega, by go_num, by rw [HSN.out, ← List.append_assoc, hL]; exact h3⟩
     case measure => simp [intOf]; omega
    ·have hkp : (0 : Int) < k := by omega
     have HC := hide (wr125 44 hs.at' (by omega))
     have HN := hide (fun w2 (h2 : WS W0.heap.size b wr (L ++ [44]) w2) => (wrNum a hak.1 hak.2 h2.at' (h1.step (hs.trans h2)).p (by simp; omega)).mono (R' := fun e w' => e = .returned (.tuple #[]) ∧ WS W0.heap.size b w1 (L ++ argW k a) w') (by
      rintro e w' ⟨rfl, h3⟩
      have h4 := (hs.trans h2).trans h3
      unfold argW
      rw [if_neg hk0, ← List.append_assoc]
      exact ⟨rfl, h4⟩))
     go_wp2_with (first | (go_at_call 125; refine (unhide HC).mono ?_; rintro e w2 ⟨rfl, h2⟩) | (go_at_call 124; refine (unhide HN _ h2).mono ?_; rintro e w3 ⟨rfl, h3⟩))
     go_roundw
     case rel => exact ⟨k + 1, by omega, by go_num, by rw [HSN.out, ← List.append_assoc, hL]; exact h3⟩
     case measure => simp [intOf]; omega
   ·obtain rfl : k = m.args.length := by omega
    rw [List.take_length] at hs hll hal
    generalize hL : l ++ [40] ++ argsW m.args = L at hs hll
    have HC := hide (wr125 41 hs.at' (by omega))
    have hrl21 := itoa_len hr
    have hSG : l ++ sigW m = L ++ [41] ++ resW m.result ++ raisesW m.raises := by rw [← hL]; unfold sigW; simp [List.append_assoc]
    have HSG := Lib.hid hSG
    clear hSG hL
    by_cases hm1 : m.result = -1
    ·have HD := hide (fun w2 (h2 : WS W0.heap.size b w1 (L ++ [41]) w2) => (wr125 45 h2.at' (by simp; omega)).mono (R' := fun e w' => e = .returned .nilIface ∧ WS W0.heap.size b w1 (L ++ [41] ++ resW m.result) w') (by
       rintro e w' ⟨rfl, h3⟩
       unfold resW
       rw [if_pos hm1]
       exact ⟨rfl, h2.trans h3⟩))
     have hrw : (resW m.result).length ≤ 21 := by unfold resW; rw [if_pos hm1]; simp
     by_cases hq : m.raises.length = 0
     ·have hqn : ¬ ((0 : Int) < m.raises.length) := by omega
      have HQ := Lib.hid (show raisesW m.raises = [] by unfold raisesW; rw [if_pos hq])
      go_wp2_with (first | (go_at_call 125; refine (unhide HC).mono ?_; clear HC; rintro e w2 ⟨rfl, h2⟩; have h2' := hs.trans h2; obtain ⟨e0, e1, e2⟩ := (unhide HX _ _ h2').cells) | (go_at_call 125; refine (unhide HD _ h2').mono ?_; rintro e w3 ⟨rfl, h3⟩; obtain ⟨d0, d1, d2⟩ := (unhide HX _ _ h3).cells))
      go_end0
      refine ⟨rfl, ?_⟩
      rw [HSG.out, HQ.out, List.append_nil]
      exact unhide HF _ _ h3
     ·have hqp : (0 : Int) < m.raises.length := by omega
      obtain ⟨gq, offq, rfl⟩ : ∃ gq offq, oq = some ⟨gq, offq, none⟩ := by
       obtain ⟨-, -, -, hat⟩ := hV.raises.at
       obtain ⟨gq, offq, e, _⟩ := hat 0 m.raises[0] (List.getElem?_eq_getElem (by omega))
       exact ⟨gq, offq, e⟩
      have HJ := hide (fun w3 (hb : Below W0.heap.size W0 w3) => joinR w3 hV.raises hb (by omega) hrs.1 hrs.2)
      have hrl : (33 :: Lib.join (m.raises.map (·.data.toList)) [44]).length ≤ 100000 := by have := hrs.1; unfold raisesW at this; rwa [if_neg hq] at this
      have hz : (⟨#[33]⟩ ++ ⟨(Lib.join (m.raises.map (·.data.toList)) [44]).toArray⟩ : ByteArray).size = (33 :: Lib.join (m.raises.map (·.data.toList)) [44]).length := by
       rw [ByteArray.size_append, show (⟨#[33]⟩ : ByteArray).size = 1 from rfl, List.length_cons, Nat.add_comm]; simp [ByteArray.size]
      have hd : (⟨#[33]⟩ ++ ⟨(Lib.join (m.raises.map (·.data.toList)) [44]).toArray⟩ : ByteArray).data.toList = raisesW m.raises := by
       unfold raisesW; rw [if_neg hq, ByteArray.data_append]; simp
      have HW := hide (fun w3 w4 (h3 : WS W0.heap.size b w1 (L ++ [41] ++ resW m.result) w3) (hb4 : Below w3.heap.size w3 w4) => (wr141 (⟨#[33]⟩ ++ ⟨(Lib.join (m.raises.map (·.data.toList)) [44]).toArray⟩) (h3.below hb4).at' (by rw [hz]; simp only [List.length_append, List.length_cons, List.length_nil] at hrl ⊢; omega)).mono (R' := fun e w' => ∃ v, e = .returned v ∧ WS W0.heap.size b w1 (L ++ [41] ++ resW m.result ++ raisesW m.raises) w') (by
       rintro e w' ⟨rfl, h2⟩
       rw [hd] at h2
       exact ⟨_, rfl, (h3.below hb4).trans h2⟩))
      have hjl : (Lib.join (m.raises.map (·.data.toList)) [44]).length ≤ 100000 := by simp at hrl; omega
      generalize hJ : (Lib.join (m.raises.map (·.data.toList)) [44]) = J at HJ HW hjl
      clear hz hd hrl hJ hV hrs
      go_wp2_with (first | (go_at_call 125; refine (unhide HC).mono ?_; clear HC; rintro e w2 ⟨rfl, h2⟩; have h2' := hs.trans h2; obtain ⟨e0, e1, e2⟩ := (unhide HX _ _ h2').cells) | (go_at_call 125; refine (unhide HD _ h2').mono ?_; rintro e w3 ⟨rfl, h3⟩; obtain ⟨d0, d1, d2⟩ := (unhide HX _ _ h3).cells))
      have hd3 : Below w3.heap.size w3 w3.drew := ⟨rfl, rfl, rfl, Nat.le_refl _, fun _ _ => rfl⟩
      have hW03 := (h1.bel.trans h3.bel).trans (hd3.mono (by have := h3.at'.ge; omega))
      go_region_with (first | (go_at_call 295; refine (unhide HJ _ hW03).mono ?_; rintro e w4 ⟨rfl, hb4⟩; have hb34 := hd3.trans hb4) | (go_at_call 141; refine (unhide HW w3 _ h3 hb34).mono ?_; rintro e w5 ⟨v5, rfl, h5⟩))
      all_goals (try go_wp2)
      all_goals (go_end0; exact ⟨rfl, by rw [HSG.out]; exact unhide HF _ _ h5⟩)
    ·have hrw : (resW m.result).length ≤ 21 := by unfold resW; rw [if_neg hm1]; exact hrl21
     have HN := hide (fun w2 (h2 : WS W0.heap.size b w1 (L ++ [41]) w2) => (wrNum m.result hr.1 hr.2 h2.at' (h1.step h2).p (by simp; omega)).mono (R' := fun e w' => e = .returned (.tuple #[]) ∧ WS W0.heap.size b w1 (L ++ [41] ++ resW m.result) w') (by
      rintro e w' ⟨rfl, h3⟩
      unfold resW
      rw [if_neg hm1]
      exact ⟨rfl, h2.trans h3⟩))
     have hm1' : (m.result == -1) = false := by simpa using hm1
     by_cases hq : m.raises.length = 0
     ·have hqn : ¬ ((0 : Int) < m.raises.length) := by omega
      have HQ := Lib.hid (show raisesW m.raises = [] by unfold raisesW; rw [if_pos hq])
      go_wp2_with (first | (go_at_call 125; refine (unhide HC).mono ?_; clear HC; rintro e w2 ⟨rfl, h2⟩; have h2' := hs.trans h2; obtain ⟨e0, e1, e2⟩ := (unhide HX _ _ h2').cells) | (go_at_call 124; refine (unhide HN _ h2').mono ?_; rintro e w3 ⟨rfl, h3⟩; obtain ⟨d0, d1, d2⟩ := (unhide HX _ _ h3).cells))
      go_end0
      refine ⟨rfl, ?_⟩
      rw [HSG.out, HQ.out, List.append_nil]
      exact unhide HF _ _ h3
     ·have hqp : (0 : Int) < m.raises.length := by omega
      obtain ⟨gq, offq, rfl⟩ : ∃ gq offq, oq = some ⟨gq, offq, none⟩ := by
       obtain ⟨-, -, -, hat⟩ := hV.raises.at
       obtain ⟨gq, offq, e, _⟩ := hat 0 m.raises[0] (List.getElem?_eq_getElem (by omega))
       exact ⟨gq, offq, e⟩
      have HJ := hide (fun w3 (hb : Below W0.heap.size W0 w3) => joinR w3 hV.raises hb (by omega) hrs.1 hrs.2)
      have hrl : (33 :: Lib.join (m.raises.map (·.data.toList)) [44]).length ≤ 100000 := by have := hrs.1; unfold raisesW at this; rwa [if_neg hq] at this
      have hz : (⟨#[33]⟩ ++ ⟨(Lib.join (m.raises.map (·.data.toList)) [44]).toArray⟩ : ByteArray).size = (33 :: Lib.join (m.raises.map (·.data.toList)) [44]).length := by
       rw [ByteArray.size_append, show (⟨#[33]⟩ : ByteArray).size = 1 from rfl, List.length_cons, Nat.add_comm]; simp [ByteArray.size]
      have hd : (⟨#[33]⟩ ++ ⟨(Lib.join (m.raises.map (·.data.toList)) [44]).toArray⟩ : ByteArray).data.toList = raisesW m.raises := by
       unfold raisesW; rw [if_neg hq, ByteArray.data_append]; simp
      have HW := hide (fun w3 w4 (h3 : WS W0.heap.size b w1 (L ++ [41] ++ resW m.result) w3) (hb4 : Below w3.heap.size w3 w4) => (wr141 (⟨#[33]⟩ ++ ⟨(Lib.join (m.raises.map (·.data.toList)) [44]).toArray⟩) (h3.below hb4).at' (by rw [hz]; simp only [List.length_append, List.length_cons, List.length_nil] at hrl ⊢; omega)).mono (R' := fun e w' => ∃ v, e = .returned v ∧ WS W0.heap.size b w1 (L ++ [41] ++ resW m.result ++ raisesW m.raises) w') (by
       rintro e w' ⟨rfl, h2⟩
       rw [hd] at h2
       exact ⟨_, rfl, (h3.below hb4).trans h2⟩))
      have hjl : (Lib.join (m.raises.map (·.data.toList)) [44]).length ≤ 100000 := by simp at hrl; omega
      generalize hJ : (Lib.join (m.raises.map (·.data.toList)) [44]) = J at HJ HW hjl
      clear hz hd hrl hJ hV hrs
      go_wp2_with (first | (go_at_call 125; refine (unhide HC).mono ?_; clear HC; rintro e w2 ⟨rfl, h2⟩; have h2' := hs.trans h2; obtain ⟨e0, e1, e2⟩ := (unhide HX _ _ h2').cells) | (go_at_call 124; refine (unhide HN _ h2').mono ?_; rintro e w3 ⟨rfl, h3⟩; obtain ⟨d0, d1, d2⟩ := (unhide HX _ _ h3).cells))
      have hd3 : Below w3.heap.size w3 w3.drew := ⟨rfl, rfl, rfl, Nat.le_refl _, fun _ _ => rfl⟩
      have hW03 := (h1.bel.trans h3.bel).trans (hd3.mono (by have := h3.at'.ge; omega))
      go_region_with (first | (go_at_call 295; refine (unhide HJ _ hW03).mono ?_; rintro e w4 ⟨rfl, hb4⟩; have hb34 := hd3.trans hb4) | (go_at_call 141; refine (unhide HW w3 _ h3 hb34).mono ?_; rintro e w5 ⟨v5, rfl, h5⟩))
      all_goals (try go_wp2)
      all_goals (go_end0; exact ⟨rfl, by rw [HSG.out]; exact unhide HF _ _ h5⟩)
end Go.Proofs.YteaokkaidcbdlaaGreatDoor

namespace Go.Proofs.YteaokkaidcbdlaaGreatDoor
open Go Go.RowKit Go.Shelf
attribute [local go_sem] Oper.semAt_some
open Go.Sort
def procW (s : ByteArray) : List UInt8 := if s.size = 0 then [] else 61 :: s.data.toList
def methW (m : MethD) : List UInt8 := 32 :: m.name.data.toList ++ sigW m ++ procW m.proc
def methsW (l : List MethD) : List UInt8 := l.flatMap methW
structure MethOk (m : MethD) : Prop where
 name : m.name.size ≤ 1000
 proc : m.proc.size ≤ 1000
 args : ∀ x ∈ m.args, I64 x
 res : I64 m.result
 n : m.args.length ≤ 10
 raises : (raisesW m.raises).length ≤ 100000 ∧ m.raises.length ≤ 1000
theorem sigW_len {m : MethD} (h : MethOk m) : (sigW m).length ≤ 100300 := by
 have h1 := argsW_len m.args h.args
 have h2 : (resW m.result).length ≤ 21 := by unfold resW; split; simp; exact itoa_len h.res
 have h3 := h.raises.1
 have h4 := h.n
 unfold sigW
 simp only [List.length_append, List.length_cons, List.length_nil]; omega
theorem methW_len {m : MethD} (h : MethOk m) : (methW m).length ≤ 103000 := by
 have h1 := sigW_len h
 have h2 := h.name
 have h3 : (procW m.proc).length ≤ 1001 := by
  unfold procW; split
  ·simp
  ·have := h.proc; simp only [List.length_cons, ba_size]; omega
 unfold methW
 simp only [List.length_append, List.length_cons, ba_size]; omega
def BoxM (bx : Nat) (m : MethD) (va vr : Value) (w : World) : Prop := w.heap[bx]? = some (.cells #[.string m.name, va, .int .i64 m.result, vr, .string m.proc] 74 (0, 0))
theorem BoxM.kept {bx b : Nat} {m : MethD} {va vr : Value} {w w' : World} (h : BoxM bx m va vr w) (hne : bx ≠ b) (ho : Lib.OthersKept 5 (some b) w w') : BoxM bx m va vr w' :=
 ho bx _ h (by simpa using hne) (by intro c fz e; cases e)
theorem BoxM.cells {bx : Nat} {m : MethD} {va vr : Value} {w : World} (h : BoxM bx m va vr w) : w.cell? ⟨bx, 0, none⟩ = some (.string m.name) ∧ w.cell? ⟨bx, 1, none⟩ = some va ∧ w.cell? ⟨bx, 2, none⟩ = some (.int .i64 m.result) ∧ w.cell? ⟨bx, 3, none⟩ = some vr ∧ w.cell? ⟨bx, 4, none⟩ = some (.string m.proc) := by
 unfold BoxM at h
 simp [World.cell?, h]
set_option maxHeartbeats 4000000 in
set_option maxRecDepth 100000 in
theorem wrMeths {W0 w : World} {b tb tk : Nat} {l : List UInt8} {t : TyD} (hT : TyAt W0 tb tk t) (h : WC W0 b l w) (hp : ∀ m ∈ t.meths, MethOk m) (hn : t.meths.length ≤ 10) (hlen : l.length ≤ 700000000) :
    Calls Tryz.prog 288 #[.pointer (some ⟨b, 0, none⟩), .pointer (some ⟨tb, tk, none⟩)] w fun e w' => e = .returned (.tuple #[]) ∧ WS W0.heap.size b w (l ++ methsW t.meths) w' := by
  obtain ⟨vp, vm, vo, hTL, -, -, -, -, -, -, -, -, c8, -⟩ := hT
  have k8 := Holds.below h.bel _ _ c8
  obtain ⟨op, cp, rfl⟩ := hTL.meths.form
  go_enter Tryz.func288, Tryz.ntmps288
  go_wp2
  clear k8 c8
  go_loopw [11] (fun i wr => ∃ k : Nat, k ≤ t.meths.length ∧ i = .int .i64 k ∧ WS W0.heap.size b w (l ++ methsW (t.meths.take k)) wr) (fun i _ => t.meths.length - (intOf i).toNat)
  case atStart => exact ⟨0, Nat.zero_le _, rfl, by simpa [methsW] using WS.refl h.at'⟩
  case round =>
   obtain ⟨k, hk, rfl, hs⟩ := hrel
   by_cases hlt : k < t.meths.length
   ·have hlt' : (k : Int) < t.meths.length := by omega
    have hbw := h.bel.trans hs.bel
    have hge := hs.at'.ge
    obtain ⟨-, -, -, hat⟩ := hTL.meths.at
    obtain ⟨g, off, rfl, va, vr, hV, hc0, hc1, hc2, hc3, hc4⟩ := hat k t.meths[k] (List.getElem?_eq_getElem hlt)
    have hok := hp _ (List.getElem_mem hlt)
    have e0 := Holds.below hbw _ _ hc0
    have e1 := Holds.below hbw _ _ hc1
    have e2 := Holds.below hbw _ _ hc2
    have e3 := Holds.below hbw _ _ hc3
    have e4 := Holds.below hbw _ _ hc4
    have hfl : (methsW (t.meths.take k)).length ≤ 1030000 := Nat.le_trans (take_flatW_len t.meths (fun m hm => methW_len (hp m hm)) k) (by omega)
    have hsn : methsW (t.meths.take (k + 1)) = methsW (t.meths.take k) ++ methW t.meths[k] := by
     unfold methsW
     rw [List.take_succ_eq_append_getElem hlt, List.flatMap_append]; simp
    have HSN := Lib.hid hsn
    generalize t.meths[k] = p at hok e0 e1 e2 e3 e4 hV HSN
    generalize hL : l ++ methsW (t.meths.take k) = L at hs
    have hLl : L.length ≤ 701030000 := by rw [← hL, List.length_append]; omega
    obtain ⟨oa, ca, rfl⟩ := hV.args.form
    obtain ⟨oq, cq, rfl⟩ := hV.raises.form
    have hps := hok.name
    have hpt := hok.proc
    have hsl := sigW_len hok
    have hz : (⟨#[32]⟩ ++ p.name : ByteArray).size = p.name.size + 1 := by rw [ByteArray.size_append, show (⟨#[32]⟩ : ByteArray).size = 1 from rfl]; omega
    have hd : (⟨#[32]⟩ ++ p.name : ByteArray).data.toList = 32 :: p.name.data.toList := by rw [ByteArray.data_append]; simp
    have hz2 : (⟨#[61]⟩ ++ p.proc : ByteArray).size = p.proc.size + 1 := by rw [ByteArray.size_append, show (⟨#[61]⟩ : ByteArray).size = 1 from rfl]; omega
    have hd2 : (⟨#[61]⟩ ++ p.proc : ByteArray).data.toList = 61 :: p.proc.data.toList := by rw [ByteArray.data_append]; simp
    have bx : BoxM wr.heap.size p (.slice oa p.args.length ca) (.slice oq p.raises.length cq) (wr.alloc (.cells #[.string p.name, .slice oa p.args.length ca, .int .i64 p.result, .slice oq p.raises.length cq, .string p.proc] 74)) := Blk.new wr [.string p.name, .slice oa p.args.length ca, .int .i64 p.result, .slice oq p.raises.length cq, .string p.proc] 74
    have hbX : Below wr.heap.size wr (wr.alloc (.cells #[.string p.name, .slice oa p.args.length ca, .int .i64 p.result, .slice oq p.raises.length cq, .string p.proc] 74)).drew := (Below.refl _ _).alloc (Nat.le_refl _) _ |>.drew
    have hne : wr.heap.size ≠ b := by omega
    have HS := hide (fun w1 (hb : Below wr.heap.size wr w1) => (wr141 (⟨#[32]⟩ ++ p.name) (hs.below hb).at' (by rw [hz]; omega)).mono (R' := fun e w' => ∃ v, e = .returned v ∧ WS W0.heap.size b w (L ++ 32 :: p.name.data.toList) w' ∧ Lib.OthersKept 5 (some b) w1 w') (by
     rintro e w' ⟨rfl, h2⟩
     rw [hd] at h2
     exact ⟨_, rfl, (hs.below hb).trans h2, h2.oth⟩))
    have HN := hide (fun w1 (h1 : WS W0.heap.size b w (L ++ 32 :: p.name.data.toList) w1) => (wrSig hV (h.step h1) hok.args hok.res hok.n (by simp only [List.length_append, List.length_cons, ba_size]; omega) hok.raises).mono (R' := fun e w' => e = .returned (.tuple #[]) ∧ WS W0.heap.size b w (L ++ (32 :: p.name.data.toList ++ sigW p)) w' ∧ Lib.OthersKept 5 (some b) w1 w') (by
     rintro e w' ⟨rfl, h2⟩
     have h3 := h1.trans h2
     rw [List.append_assoc] at h3
     exact ⟨rfl, h3, h2.oth⟩))
    have HP := hide (fun w1 w2 (h1 : WS W0.heap.size b w (L ++ (32 :: p.name.data.toList ++ sigW p)) w1) (hb : Below w1.heap.size w1 w2) (h0 : ¬ p.proc.size = 0) => (wr141 (⟨#[61]⟩ ++ p.proc) (h1.below hb).at' (by rw [hz2]; simp only [List.length_append, List.length_cons, ba_size]; omega)).mono (R' := fun e w' => ∃ v, e = .returned v ∧ WS W0.heap.size b w (L ++ methW p) w') (by
     rintro e w' ⟨rfl, h2⟩
     rw [hd2] at h2
     have h3 := (h1.below hb).trans h2
     unfold methW procW
     rw [if_neg h0]
     rw [List.append_assoc] at h3
     exact ⟨_, rfl, h3⟩))
    obtain ⟨d0, d1, d2, d3, d4⟩ := bx.cells
    have HCX := hide (fun w2 (ho : Lib.OthersKept 5 (some b) (wr.alloc (.cells #[.string p.name, .slice oa p.args.length ca, .int .i64 p.result, .slice oq p.raises.length cq, .string p.proc] 74)).drew w2) => bx.kept hne ho)
    have HE := hide (fun (h0 : p.proc.size = 0) => show methW p = 32 :: p.name.data.toList ++ sigW p by unfold methW procW; rw [if_pos h0, List.append_nil])
    clear hat hc0 hc1 hc2 hc3 hc4 hsn hz hd hz2 hd2 hp hTL bx hV hok
    by_cases h0 : p.proc.size = 0
    ·have he : p.proc.toList.isEmpty = true := by
       have hn : bs p.proc = [] := List.eq_nil_of_length_eq_zero (by rw [bs_len]; exact h0)
       rw [toList_bs, hn]; rfl
     have HM := Lib.hid (unhide HE h0)
     clear HP HE
     go_wp2
     go_region_with (first | (go_at_call 141; refine (unhide HS _ hbX).mono ?_; rintro e w2 ⟨v2, rfl, h2, ho⟩; have bx2 := unhide HCX w2 ho; obtain ⟨x0, x1, x2, x3, x4⟩ := bx2.cells))
     all_goals clear d0 d1 d2 d3 d4
     all_goals go_wp2_with (first | (go_at_call 294; refine (unhide HN _ h2).mono ?_; rintro e w3 ⟨rfl, h3, ho3⟩; have bx3 := bx2.kept hne ho3; obtain ⟨y0, y1, y2, y3, y4⟩ := bx3.cells))
     all_goals go_roundw
     all_goals first
      | exact ⟨k + 1, by omega, by go_num, by rw [HSN.out, ← List.append_assoc, hL, HM.out]; exact h3⟩
      | (simp [intOf]; omega)
    ·have he : p.proc.toList.isEmpty = false := by
       rw [toList_bs, List.isEmpty_eq_false_iff]; intro h; exact h0 (by rw [← bs_len, h]; rfl)
     go_wp2
     go_region_with (first | (go_at_call 141; refine (unhide HS _ hbX).mono ?_; rintro e w2 ⟨v2, rfl, h2, ho⟩; have bx2 := unhide HCX w2 ho; obtain ⟨x0, x1, x2, x3, x4⟩ := bx2.cells))
     all_goals clear d0 d1 d2 d3 d4
     all_goals go_wp2_with (first | (go_at_call 294; refine (unhide HN _ h2).mono ?_; rintro e w3 ⟨rfl, h3, ho3⟩; have bx3 := bx2.kept hne ho3; obtain ⟨y0, y1, y2, y3, y4⟩ := bx3.cells))
     all_goals (
      have hdr : Below w3.heap.size w3 w3.drew := ⟨rfl, rfl, rfl, Nat.le_refl _, fun _ _ => rfl⟩
      go_region_with (first | (go_at_call 141; refine (unhide HP w3 _ h3 hdr h0).mono ?_; rintro e w4 ⟨v4, rfl, h4⟩)))
     all_goals (try go_wp2)
     all_goals go_roundw
     all_goals first
      | exact ⟨k + 1, by omega, by go_num, by rw [HSN.out, ← List.append_assoc, hL]; exact h4⟩
      | (simp [intOf]; omega)
   ·obtain rfl : k = t.meths.length := by omega
    rw [List.take_length] at hs
    clear hTL hp
    go_wp2
    go_end0
    exact ⟨rfl, hs⟩
end Go.Proofs.YteaokkaidcbdlaaGreatDoor

