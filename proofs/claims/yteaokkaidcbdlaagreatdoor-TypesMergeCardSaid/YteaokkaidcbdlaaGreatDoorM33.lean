/- Part 33 of 53: the texts Wv, one behind the other. -/
import Derived.Test.YteaokkaidcbdlaaGreatDoorM32
namespace Go.Proofs.YteaokkaidcbdlaaGreatDoor
open Go Go.RowKit Go.Shelf
attribute [local go_sem] Oper.semAt_some
open Go.Sort
structure TyTx (t : TyD) : Prop where
 low : I64 t.low
 high : I64 t.high
 sup : I64 t.super
 brand : t.brand.size ≤ 1000
 opq : t.opq.size ≤ 1000
 parts : ∀ p ∈ t.parts, p.name.size ≤ 1000 ∧ I64 p.type
 meths : ∀ m ∈ t.meths, MethOk m
 overs : ∀ p ∈ t.overs, p.name.size ≤ 1000 ∧ p.proc.size ≤ 1000
 np : t.parts.length ≤ 10
 nm : t.meths.length ≤ 10
 no : t.overs.length ≤ 10
theorem brandW_len {t : TyD} (h : TyTx t) : (brandW t).length ≤ 1003 := by
 have := h.brand
 unfold brandW; split
 ·simp only [List.length_append, List.length_cons, List.length_nil, ba_size]; omega
 ·simp
theorem opaqueW_len {t : TyD} (h : TyTx t) : (opaqueW t).length ≤ 1001 := by
 have := h.opq
 unfold opaqueW; simp only [List.length_cons, ba_size]; omega
theorem superW_len {t : TyD} (h : TyTx t) : (superW t).length ≤ 22 := by
 have := itoa_len h.sup
 unfold superW; simp only [List.length_cons]; omega
theorem fieldsW_len {t : TyD} (h : TyTx t) : (fieldsW t.parts).length ≤ 11000 := by
 have := flatW_len t.parts (f := partW) (m := 1100) (fun p hpm => by
  have h1 := (h.parts p hpm).1
  have h2 := itoa_len (h.parts p hpm).2
  unfold partW
  simp only [List.length_append, List.length_cons, List.length_nil, ba_size]; omega)
 have := h.np
 unfold fieldsW; omega
theorem methsW_len {t : TyD} (h : TyTx t) : (methsW t.meths).length ≤ 1030000 := by
 have := flatW_len t.meths (f := methW) (m := 103000) (fun m hm => methW_len (h.meths m hm))
 have := h.nm
 unfold methsW; omega
def fieldsT (t : TyD) : List UInt8 := brandW t ++ fieldsW t.parts
def objT (t : TyD) : List UInt8 := brandW t ++ superW t ++ fieldsW t.parts ++ methsW t.meths ++ oversW t.overs
def opqT (t : TyD) : List UInt8 := opaqueW t ++ superW t
section
variable {W0 w : World} {b tb tk : Nat} {l : List UInt8} {t : TyD}
set_option maxHeartbeats 2000000 in
set_option maxRecDepth 100000 in
theorem lead148 (h : WC W0 b l w) : Calls Tryz.prog 148 #[.iface 166 (.pointer (some ⟨b, 0, none⟩)), .pointer (some ⟨tb, tk, none⟩)] w fun e w' => e = .returned (.tuple #[]) ∧ WS W0.heap.size b w l w' := by
 have hs := WS.refl h.at'
 clear h
 go_enter Tryz.func148, Tryz.ntmps148
 go_wp2
 go_end0
 exact ⟨rfl, hs⟩
set_option maxHeartbeats 2000000 in
set_option maxRecDepth 100000 in
theorem lead149 (hT : TyAt W0 tb tk t) (h : WC W0 b l w) (ht : TyTx t) (hlen : l.length ≤ 600000000) :
    Calls Tryz.prog 149 #[.iface 166 (.pointer (some ⟨b, 0, none⟩)), .pointer (some ⟨tb, tk, none⟩)] w fun e w' => e = .returned (.tuple #[]) ∧ WS W0.heap.size b w (l ++ fieldsT t) w' := by
  have hl1 := brandW_len ht
  have HB := hide (wrBrand hT h (by have := ht.brand; omega) (by omega))
  have HP := hide (fun w1 (h1 : WS W0.heap.size b w (l ++ brandW t) w1) => (wrPart hT (h.step h1) ht.parts ht.np (by rw [List.length_append]; omega)).mono (R' := fun e w' => e = .returned (.tuple #[]) ∧ WS W0.heap.size b w (l ++ fieldsT t) w') (by
   rintro e w' ⟨rfl, h2⟩
   have h3 := h1.trans h2
   rw [List.append_assoc] at h3
   exact ⟨rfl, h3⟩))
  clear hT h ht
  go_enter Tryz.func149, Tryz.ntmps149
  go_wp2_with (first | (go_at_call 286; refine (unhide HB).mono ?_; rintro e w1 ⟨rfl, h1⟩) | (go_at_call 291; refine (unhide HP _ h1).mono ?_; rintro e w2 ⟨rfl, h2⟩))
  go_end0
  exact ⟨rfl, h2⟩
set_option maxHeartbeats 2000000 in
set_option maxRecDepth 100000 in
theorem lead150 (hT : TyAt W0 tb tk t) (h : WC W0 b l w) (ht : TyTx t) (hlen : l.length ≤ 600000000) :
    Calls Tryz.prog 150 #[.iface 166 (.pointer (some ⟨b, 0, none⟩)), .pointer (some ⟨tb, tk, none⟩)] w fun e w' => e = .returned (.tuple #[]) ∧ WS W0.heap.size b w (l ++ fieldsT t) w' := by
  have hl1 := brandW_len ht
  have HB := hide (wrBrand hT h (by have := ht.brand; omega) (by omega))
  have HP := hide (fun w1 (h1 : WS W0.heap.size b w (l ++ brandW t) w1) => (wrFields hT (h.step h1) ht.parts ht.np (by rw [List.length_append]; omega)).mono (R' := fun e w' => e = .returned (.tuple #[]) ∧ WS W0.heap.size b w (l ++ fieldsT t) w') (by
   rintro e w' ⟨rfl, h2⟩
   have h3 := h1.trans h2
   rw [List.append_assoc] at h3
   exact ⟨rfl, h3⟩))
  clear hT h ht
  go_enter Tryz.func150, Tryz.ntmps150
  go_wp2_with (first | (go_at_call 286; refine (unhide HB).mono ?_; rintro e w1 ⟨rfl, h1⟩) | (go_at_call 287; refine (unhide HP _ h1).mono ?_; rintro e w2 ⟨rfl, h2⟩))
  go_end0
  exact ⟨rfl, h2⟩
set_option maxHeartbeats 2000000 in
set_option maxRecDepth 100000 in
theorem lead152 (hT : TyAt W0 tb tk t) (h : WC W0 b l w) (ht : TyTx t) (hlen : l.length ≤ 600000000) :
    Calls Tryz.prog 152 #[.iface 166 (.pointer (some ⟨b, 0, none⟩)), .pointer (some ⟨tb, tk, none⟩)] w fun e w' => e = .returned (.tuple #[]) ∧ WS W0.heap.size b w (l ++ opqT t) w' := by
  have hl1 := opaqueW_len ht
  have HB := hide (wrOpaque hT h (by have := ht.opq; omega) (by omega))
  have HP := hide (fun w1 (h1 : WS W0.heap.size b w (l ++ opaqueW t) w1) => (wrSuper hT (h.step h1) ht.sup (by rw [List.length_append]; omega)).mono (R' := fun e w' => e = .returned (.tuple #[]) ∧ WS W0.heap.size b w (l ++ opqT t) w') (by
   rintro e w' ⟨rfl, h2⟩
   have h3 := h1.trans h2
   rw [List.append_assoc] at h3
   exact ⟨rfl, h3⟩))
  clear hT h ht
  go_enter Tryz.func152, Tryz.ntmps152
  go_wp2_with (first | (go_at_call 289; refine (unhide HB).mono ?_; rintro e w1 ⟨rfl, h1⟩) | (go_at_call 292; refine (unhide HP _ h1).mono ?_; rintro e w2 ⟨rfl, h2⟩))
  go_end0
  exact ⟨rfl, h2⟩
set_option maxHeartbeats 2000000 in
set_option maxRecDepth 100000 in
theorem lead151 (hT : TyAt W0 tb tk t) (h : WC W0 b l w) (ht : TyTx t) (hlen : l.length ≤ 600000000) :
    Calls Tryz.prog 151 #[.iface 166 (.pointer (some ⟨b, 0, none⟩)), .pointer (some ⟨tb, tk, none⟩)] w fun e w' => e = .returned (.tuple #[]) ∧ WS W0.heap.size b w (l ++ objT t) w' := by
  have hl1 := brandW_len ht
  have hl2 := superW_len ht
  have hl3 := fieldsW_len ht
  have hl4 := methsW_len ht
  have HB := hide (wrBrand hT h (by have := ht.brand; omega) (by omega))
  have H2 := hide (fun w1 (h1 : WS W0.heap.size b w (l ++ brandW t) w1) => (wrSuper hT (h.step h1) ht.sup (by rw [List.length_append]; omega)).mono (R' := fun e w' => e = .returned (.tuple #[]) ∧ WS W0.heap.size b w (l ++ brandW t ++ superW t) w') (by
   rintro e w' ⟨rfl, h2⟩
   exact ⟨rfl, h1.trans h2⟩))
  have H3 := hide (fun w1 (h1 : WS W0.heap.size b w (l ++ brandW t ++ superW t) w1) => (wrFields hT (h.step h1) ht.parts ht.np (by simp only [List.length_append]; omega)).mono (R' := fun e w' => e = .returned (.tuple #[]) ∧ WS W0.heap.size b w (l ++ brandW t ++ superW t ++ fieldsW t.parts) w') (by
   rintro e w' ⟨rfl, h2⟩
   exact ⟨rfl, h1.trans h2⟩))
  have H4 := hide (fun w1 (h1 : WS W0.heap.size b w (l ++ brandW t ++ superW t ++ fieldsW t.parts) w1) => (wrMeths hT (h.step h1) ht.meths ht.nm (by simp only [List.length_append]; omega)).mono (R' := fun e w' => e = .returned (.tuple #[]) ∧ WS W0.heap.size b w (l ++ brandW t ++ superW t ++ fieldsW t.parts ++ methsW t.meths) w') (by
   rintro e w' ⟨rfl, h2⟩
   exact ⟨rfl, h1.trans h2⟩))
  have H5 := hide (fun w1 (h1 : WS W0.heap.size b w (l ++ brandW t ++ superW t ++ fieldsW t.parts ++ methsW t.meths) w1) => (wrOvers hT (h.step h1) ht.overs ht.no (by simp only [List.length_append]; omega)).mono (R' := fun e w' => e = .returned (.tuple #[]) ∧ WS W0.heap.size b w (l ++ objT t) w') (by
   rintro e w' ⟨rfl, h2⟩
   have h3 := h1.trans h2
   unfold objT
   simp only [List.append_assoc] at h3 ⊢
   exact ⟨trivial, h3⟩))
  clear hT h ht
  go_enter Tryz.func151, Tryz.ntmps151
  go_wp2_with (first | (go_at_call 286; refine (unhide HB).mono ?_; rintro e w1 ⟨rfl, h1⟩) | (go_at_call 292; refine (unhide H2 _ h1).mono ?_; rintro e w2 ⟨rfl, h2⟩) | (go_at_call 287; refine (unhide H3 _ h2).mono ?_; rintro e w3 ⟨rfl, h3⟩) | (go_at_call 288; refine (unhide H4 _ h3).mono ?_; rintro e w4 ⟨rfl, h4⟩) | (go_at_call 290; refine (unhide H5 _ h4).mono ?_; rintro e w5 ⟨rfl, h5⟩))
  go_end0
  exact ⟨rfl, h5⟩
end
end Go.Proofs.YteaokkaidcbdlaaGreatDoor

