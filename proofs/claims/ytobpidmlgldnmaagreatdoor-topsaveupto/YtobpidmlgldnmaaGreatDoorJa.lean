/-
  Joined: Iy, Iz, Ja.
-/
import Derived.Test.YtobpidmlgldnmaaGreatDoorIh
import Derived.Test.YtobpidmlgldnmaaGreatDoorOe

/-
  A painter: a step.
-/
namespace Go.Proofs.YtobpidmlgldnmaaGreatDoor
open Go.RowKit Go.WideMaps Go.Maps
set_option maxRecDepth 100000

theorem ne_litY {n : ByteArray} {l : List UInt8} (h : ¬ n = ⟨l.toArray⟩) : (n.toList == l) = false := by
  rw [ByteArray.toList_eq, beq_eq_false_iff_ne]
  intro e; apply h; subst e; rfl
/-- What a step asks of a painter. -/
structure PsOk (K : Pk) (sg : FnC → ByteArray → Ex (List Sp)) (p : PS) : Prop where
  one : p.now.x.one
  ones : ∀ s ∈ p.saved, s.x.one
  out : p.out.length ≤ 1000
  sig : p.now.has = true → SigOk K sg p.now.x
  sigs : ∀ s ∈ p.saved, s.has = true → SigOk K sg s.x
theorem zeroFn (w : World) : (zeroValue 92).run Tryz.prog w = .ok .nilFunc w := by kernel_rfl
theorem map_at {w w' : World} {k : TypeId} {R : Value → Option (DataW Value × List MemPlace)} {b n : Nat} {D : DataW Value} (h : w.ownsMap Tryz.prog k R b n D) (e : w'.heap[b]? = w.heap[b]?) : w'.ownsMap Tryz.prog k R b n D := by
  obtain ⟨es, cl, h1, h2⟩ := h
  exact ⟨es, cl, e.trans h1, h2⟩
/-- A setter is looked for. -/
theorem set_look {K : Pk} {p : PS} {tS tG : Value} (hS : SetAt K) : ∃ Pp mb, K.sm = .map (some mb) ∧ Pp < K.B ∧ Pp ≠ K.P ∧ At K.wB Pp 69 #[.pointer (some ⟨K.P, 0, none⟩)] ∧ ∀ W, PAt K W p tS tG → ∀ s : ByteArray, s.size ≤ maxLen → ∃ v, (Instr.lookup 72 (.map (some mb)) (.string s) true).run Tryz.prog W = .ok (.tuple #[v, .bool (Maps.has (setD Pp) (.string s.data.toList))]) W ∧ DataW.held v = (setD Pp).atKey (.string s.data.toList) (.held .nilFunc) := by
  obtain ⟨mb, Pp, h1, h2, h3, h4, h5, h6, h7⟩ := hS
  refine ⟨Pp, mb, h1, h4, h5, h7, fun W hP s hs => ?_⟩
  obtain ⟨v, ps, hr, hv⟩ := (map_at h6 (hP.fix mb h2 h3)).look_ok lawS Tryz.underlying72 (zeroFn W) (zd := .held .nilFunc) (zp := []) rfl (keyOf_string_mk Tryz.underlying9 hs)
  refine ⟨v, hr, ?_⟩
  unfold heldR at hv
  injection hv with hv
  injection hv with hv
theorem isMap_putH {D : DataW Value} (h : IsMap D) (k : Lit) (d : DataW Value) : IsMap (D.put k d) := by
  obtain ⟨l, rfl⟩ := h
  exact ⟨_, rfl⟩
theorem keyLitS (k : List UInt8) : WideAt.IsKeyLit (.string k) := keyLit k
theorem isMap_chain0 (_Pp : Nat) : IsMap (DataW.map [] : DataW Value) := ⟨[], rfl⟩
theorem isMap_chain1 (Pp : Nat) : IsMap ((DataW.map [] : DataW Value).put (.string [84, 99]) (.held (setF 35 Pp))) := isMap_putH (isMap_chain0 Pp) _ _
theorem isMap_chain2 (Pp : Nat) : IsMap (((DataW.map [] : DataW Value).put (.string [84, 99]) (.held (setF 35 Pp))).put (.string [84, 119]) (.held (setF 36 Pp))) := isMap_putH (isMap_chain1 Pp) _ _
theorem isMap_chain3 (Pp : Nat) : IsMap ((((DataW.map [] : DataW Value).put (.string [84, 99]) (.held (setF 35 Pp))).put (.string [84, 119]) (.held (setF 36 Pp))).put (.string [84, 122]) (.held (setF 37 Pp))) := isMap_putH (isMap_chain2 Pp) _ _
theorem isMap_chain4 (Pp : Nat) : IsMap (((((DataW.map [] : DataW Value).put (.string [84, 99]) (.held (setF 35 Pp))).put (.string [84, 119]) (.held (setF 36 Pp))).put (.string [84, 122]) (.held (setF 37 Pp))).put (.string [84, 76]) (.held (setF 38 Pp))) := isMap_putH (isMap_chain3 Pp) _ _
theorem setD_Tc (Pp : Nat) : Maps.has (setD Pp) (.string [84, 99]) = true ∧ (setD Pp).atKey (.string [84, 99]) (.held .nilFunc) = .held (setF 35 Pp) := by
  unfold setD
  constructor
  · rw [has_put_other (show (Lit.string [84, 99]) ≠ Lit.string [84, 115] by simp)]
    rw [has_put_other (show (Lit.string [84, 99]) ≠ Lit.string [84, 76] by simp)]
    rw [has_put_other (show (Lit.string [84, 99]) ≠ Lit.string [84, 122] by simp)]
    rw [has_put_other (show (Lit.string [84, 99]) ≠ Lit.string [84, 119] by simp)]
    exact has_put_same (isMap_chain0 Pp) (keyLitS _) _
  · rw [atKey_put_other (show (Lit.string [84, 99]) ≠ Lit.string [84, 115] by simp)]
    rw [atKey_put_other (show (Lit.string [84, 99]) ≠ Lit.string [84, 76] by simp)]
    rw [atKey_put_other (show (Lit.string [84, 99]) ≠ Lit.string [84, 122] by simp)]
    rw [atKey_put_other (show (Lit.string [84, 99]) ≠ Lit.string [84, 119] by simp)]
    exact atKey_put_same (isMap_chain0 Pp) (keyLitS _) _ _
theorem setD_Tw (Pp : Nat) : Maps.has (setD Pp) (.string [84, 119]) = true ∧ (setD Pp).atKey (.string [84, 119]) (.held .nilFunc) = .held (setF 36 Pp) := by
  unfold setD
  constructor
  · rw [has_put_other (show (Lit.string [84, 119]) ≠ Lit.string [84, 115] by simp)]
    rw [has_put_other (show (Lit.string [84, 119]) ≠ Lit.string [84, 76] by simp)]
    rw [has_put_other (show (Lit.string [84, 119]) ≠ Lit.string [84, 122] by simp)]
    exact has_put_same (isMap_chain1 Pp) (keyLitS _) _
  · rw [atKey_put_other (show (Lit.string [84, 119]) ≠ Lit.string [84, 115] by simp)]
    rw [atKey_put_other (show (Lit.string [84, 119]) ≠ Lit.string [84, 76] by simp)]
    rw [atKey_put_other (show (Lit.string [84, 119]) ≠ Lit.string [84, 122] by simp)]
    exact atKey_put_same (isMap_chain1 Pp) (keyLitS _) _ _
theorem setD_Tz (Pp : Nat) : Maps.has (setD Pp) (.string [84, 122]) = true ∧ (setD Pp).atKey (.string [84, 122]) (.held .nilFunc) = .held (setF 37 Pp) := by
  unfold setD
  constructor
  · rw [has_put_other (show (Lit.string [84, 122]) ≠ Lit.string [84, 115] by simp)]
    rw [has_put_other (show (Lit.string [84, 122]) ≠ Lit.string [84, 76] by simp)]
    exact has_put_same (isMap_chain2 Pp) (keyLitS _) _
  · rw [atKey_put_other (show (Lit.string [84, 122]) ≠ Lit.string [84, 115] by simp)]
    rw [atKey_put_other (show (Lit.string [84, 122]) ≠ Lit.string [84, 76] by simp)]
    exact atKey_put_same (isMap_chain2 Pp) (keyLitS _) _ _
theorem setD_TL (Pp : Nat) : Maps.has (setD Pp) (.string [84, 76]) = true ∧ (setD Pp).atKey (.string [84, 76]) (.held .nilFunc) = .held (setF 38 Pp) := by
  unfold setD
  constructor
  · rw [has_put_other (show (Lit.string [84, 76]) ≠ Lit.string [84, 115] by simp)]
    exact has_put_same (isMap_chain3 Pp) (keyLitS _) _
  · rw [atKey_put_other (show (Lit.string [84, 76]) ≠ Lit.string [84, 115] by simp)]
    exact atKey_put_same (isMap_chain3 Pp) (keyLitS _) _ _
theorem setD_Ts (Pp : Nat) : Maps.has (setD Pp) (.string [84, 115]) = true ∧ (setD Pp).atKey (.string [84, 115]) (.held .nilFunc) = .held (setF 39 Pp) := by
  unfold setD
  constructor
  · exact has_put_same (isMap_chain4 Pp) (keyLitS _) _
  · exact atKey_put_same (isMap_chain4 Pp) (keyLitS _) _ _
theorem setD_none (Pp : Nat) (k : List UInt8) (h0 : k ≠ [84, 99]) (h1 : k ≠ [84, 119]) (h2 : k ≠ [84, 122]) (h3 : k ≠ [84, 76]) (h4 : k ≠ [84, 115]) : Maps.has (setD Pp) (.string k) = false := by
  unfold setD
  rw [has_put_other (fun e => h4 (by injection e)), has_put_other (fun e => h3 (by injection e)), has_put_other (fun e => h2 (by injection e)), has_put_other (fun e => h1 (by injection e)), has_put_other (fun e => h0 (by injection e))]
  rfl
set_option maxHeartbeats 4000000 in
theorem step_Tc (K : Pk) (sg : FnC → ByteArray → Ex (List Sp)) (ff : ByteArray → Option FnC) (p : PS) (tS tG : Value) (d : Nat) (A : List V) (t : Value) (w : World) (hP : PAt K w p tS tG) (hA : ArgsAt d K.w0 t A) (hk : okA A) (hx : PsOk K sg p) (hF : FontsAt K ff) (hS : SetAt K) :
    Calls Tryz.prog 24 #[.pointer (some ⟨K.P, 0, none⟩), .agg #[.string ⟨#[84, 99]⟩, t]] w fun e w' => PRes K e w' (set1X p A) := by
  have hu := (And.intro hk (And.intro hx hF))
  clear hu
  obtain ⟨a, c, rfl, hl, hA2⟩ := id hA
  clear hA2
  obtain ⟨Pp, mb, hsm, hpB, hpP, hV, hLk⟩ := set_look (p := p) (tS := tS) (tG := tG) hS
  have HK := hid (show ∀ W, PAt K W p tS tG → (Instr.lookup 72 (.map (some mb)) (.string ⟨#[84, 99]⟩) true).run Tryz.prog W = .ok (.tuple #[setF 35 Pp, .bool true]) W from fun W h => by
    obtain ⟨v, hlk, hv⟩ := hLk W h ⟨#[84, 99]⟩ (by unfold maxLen; decide)
    rw [show (⟨#[84, 99]⟩ : ByteArray).data.toList = [84, 99] from rfl, (setD_Tc Pp).2] at hv
    rw [show (⟨#[84, 99]⟩ : ByteArray).data.toList = [84, 99] from rfl, (setD_Tc Pp).1] at hlk
    injection hv with hv
    subst hv
    exact hlk)
  have C := hid (fun W (h : PAt K W p tS tG) => (setter1_says K p tS tG d A _ Pp W h (hA.later h.keep) hV hpB hpP : Calls Tryz.prog _ _ W _))
  have hc1 : ∀ W, PAt K W p tS tG → W.cell? ⟨K.P, 1, none⟩ = some (.map (some mb)) := fun W h => by have := h.c 1; simp at this; rw [hsm] at this; exact this
  have HC1 := hid hc1
  have P0 := hid (hP.alloc (.cells #[.string ⟨#[84, 99]⟩, .slice a A.length c] 41))
  have A0 := hid (At.new w #[.string ⟨#[84, 99]⟩, .slice a A.length c] 41 rfl)
  clear hP hA hk hx hF hS hLk hV hpB hpP hsm hc1
  go_enter Tryz.func24, Tryz.ntmps24
  go_wp2_with fail
  generalize w.alloc (.cells #[.string ⟨#[84, 99]⟩, .slice a A.length c] 41) = W0 at P0 A0 ⊢
  have H0 := hid (show ∀ W, Below W0.heap.size W0 W → Below W0.heap.size W0 W ∧ W.cell? ⟨K.P, 1, none⟩ = some (.map (some mb)) ∧ W.cell? ⟨w.heap.size, 0, none⟩ = some (.string ⟨#[84, 99]⟩) ∧ (Instr.lookup 72 (.map (some mb)) (.string ⟨#[84, 99]⟩) true).run Tryz.prog W = .ok (.tuple #[setF 35 Pp, .bool true]) W from fun W hW => ⟨hW, HC1.out _ (P0.out.later hW), (A0.out.later hW).cell 0, HK.out _ (P0.out.later hW)⟩)
  go_region_held3 (fun (W : World) => Below W0.heap.size W0 W ∧ W.cell? ⟨K.P, 1, none⟩ = some (.map (some mb)) ∧ W.cell? ⟨w.heap.size, 0, none⟩ = some (.string ⟨#[84, 99]⟩) ∧ (Instr.lookup 72 (.map (some mb)) (.string ⟨#[84, 99]⟩) true).run Tryz.prog W = .ok (.tuple #[setF 35 Pp, .bool true]) W)
    (first | with_reducible exact H0.out _ (Below.refl _ _) | with_reducible exact H0.out _ (Below.refl _ _).drew)
    (first | fail)
  all_goals
    have q0 := A0.out.cell 0
    have q1 := A0.out.cell 1
    simp at q0 q1
    have zP := P0.out.at_.lt
    go_wp2_with (go_at_call 40; refine (C.out _ (by first | with_reducible exact P0.out.drew | with_reducible exact P0.out | exact P0.out.later (by go_grown))).mono ?_; intro e w3 h; obtain ⟨v, rfl⟩ := h.ret)
    go_ret
    exact h
set_option maxHeartbeats 4000000 in
theorem step_Tw (K : Pk) (sg : FnC → ByteArray → Ex (List Sp)) (ff : ByteArray → Option FnC) (p : PS) (tS tG : Value) (d : Nat) (A : List V) (t : Value) (w : World) (hP : PAt K w p tS tG) (hA : ArgsAt d K.w0 t A) (hk : okA A) (hx : PsOk K sg p) (hF : FontsAt K ff) (hS : SetAt K) :
    Calls Tryz.prog 24 #[.pointer (some ⟨K.P, 0, none⟩), .agg #[.string ⟨#[84, 119]⟩, t]] w fun e w' => PRes K e w' (set2X p A) := by
  have hu := (And.intro hk (And.intro hx hF))
  clear hu
  obtain ⟨a, c, rfl, hl, hA2⟩ := id hA
  clear hA2
  obtain ⟨Pp, mb, hsm, hpB, hpP, hV, hLk⟩ := set_look (p := p) (tS := tS) (tG := tG) hS
  have HK := hid (show ∀ W, PAt K W p tS tG → (Instr.lookup 72 (.map (some mb)) (.string ⟨#[84, 119]⟩) true).run Tryz.prog W = .ok (.tuple #[setF 36 Pp, .bool true]) W from fun W h => by
    obtain ⟨v, hlk, hv⟩ := hLk W h ⟨#[84, 119]⟩ (by unfold maxLen; decide)
    rw [show (⟨#[84, 119]⟩ : ByteArray).data.toList = [84, 119] from rfl, (setD_Tw Pp).2] at hv
    rw [show (⟨#[84, 119]⟩ : ByteArray).data.toList = [84, 119] from rfl, (setD_Tw Pp).1] at hlk
    injection hv with hv
    subst hv
    exact hlk)
  have C := hid (fun W (h : PAt K W p tS tG) => (setter2_says K p tS tG d A _ Pp W h (hA.later h.keep) hV hpB hpP : Calls Tryz.prog _ _ W _))
  have hc1 : ∀ W, PAt K W p tS tG → W.cell? ⟨K.P, 1, none⟩ = some (.map (some mb)) := fun W h => by have := h.c 1; simp at this; rw [hsm] at this; exact this
  have HC1 := hid hc1
  have P0 := hid (hP.alloc (.cells #[.string ⟨#[84, 119]⟩, .slice a A.length c] 41))
  have A0 := hid (At.new w #[.string ⟨#[84, 119]⟩, .slice a A.length c] 41 rfl)
  clear hP hA hk hx hF hS hLk hV hpB hpP hsm hc1
  go_enter Tryz.func24, Tryz.ntmps24
  go_wp2_with fail
  generalize w.alloc (.cells #[.string ⟨#[84, 119]⟩, .slice a A.length c] 41) = W0 at P0 A0 ⊢
  have H0 := hid (show ∀ W, Below W0.heap.size W0 W → Below W0.heap.size W0 W ∧ W.cell? ⟨K.P, 1, none⟩ = some (.map (some mb)) ∧ W.cell? ⟨w.heap.size, 0, none⟩ = some (.string ⟨#[84, 119]⟩) ∧ (Instr.lookup 72 (.map (some mb)) (.string ⟨#[84, 119]⟩) true).run Tryz.prog W = .ok (.tuple #[setF 36 Pp, .bool true]) W from fun W hW => ⟨hW, HC1.out _ (P0.out.later hW), (A0.out.later hW).cell 0, HK.out _ (P0.out.later hW)⟩)
  go_region_held3 (fun (W : World) => Below W0.heap.size W0 W ∧ W.cell? ⟨K.P, 1, none⟩ = some (.map (some mb)) ∧ W.cell? ⟨w.heap.size, 0, none⟩ = some (.string ⟨#[84, 119]⟩) ∧ (Instr.lookup 72 (.map (some mb)) (.string ⟨#[84, 119]⟩) true).run Tryz.prog W = .ok (.tuple #[setF 36 Pp, .bool true]) W)
    (first | with_reducible exact H0.out _ (Below.refl _ _) | with_reducible exact H0.out _ (Below.refl _ _).drew)
    (first | fail)
  all_goals
    have q0 := A0.out.cell 0
    have q1 := A0.out.cell 1
    simp at q0 q1
    have zP := P0.out.at_.lt
    go_wp2_with (go_at_call 40; refine (C.out _ (by first | with_reducible exact P0.out.drew | with_reducible exact P0.out | exact P0.out.later (by go_grown))).mono ?_; intro e w3 h; obtain ⟨v, rfl⟩ := h.ret)
    go_ret
    exact h
set_option maxHeartbeats 4000000 in
theorem step_Tz (K : Pk) (sg : FnC → ByteArray → Ex (List Sp)) (ff : ByteArray → Option FnC) (p : PS) (tS tG : Value) (d : Nat) (A : List V) (t : Value) (w : World) (hP : PAt K w p tS tG) (hA : ArgsAt d K.w0 t A) (hk : okA A) (hx : PsOk K sg p) (hF : FontsAt K ff) (hS : SetAt K) :
    Calls Tryz.prog 24 #[.pointer (some ⟨K.P, 0, none⟩), .agg #[.string ⟨#[84, 122]⟩, t]] w fun e w' => PRes K e w' (set3X p A) := by
  have hu := (And.intro hk (And.intro hx hF))
  clear hu
  obtain ⟨a, c, rfl, hl, hA2⟩ := id hA
  clear hA2
  obtain ⟨Pp, mb, hsm, hpB, hpP, hV, hLk⟩ := set_look (p := p) (tS := tS) (tG := tG) hS
  have HK := hid (show ∀ W, PAt K W p tS tG → (Instr.lookup 72 (.map (some mb)) (.string ⟨#[84, 122]⟩) true).run Tryz.prog W = .ok (.tuple #[setF 37 Pp, .bool true]) W from fun W h => by
    obtain ⟨v, hlk, hv⟩ := hLk W h ⟨#[84, 122]⟩ (by unfold maxLen; decide)
    rw [show (⟨#[84, 122]⟩ : ByteArray).data.toList = [84, 122] from rfl, (setD_Tz Pp).2] at hv
    rw [show (⟨#[84, 122]⟩ : ByteArray).data.toList = [84, 122] from rfl, (setD_Tz Pp).1] at hlk
    injection hv with hv
    subst hv
    exact hlk)
  have C := hid (fun W (h : PAt K W p tS tG) => (setter3_says K p tS tG d A _ Pp W h (hA.later h.keep) hV hpB hpP : Calls Tryz.prog _ _ W _))
  have hc1 : ∀ W, PAt K W p tS tG → W.cell? ⟨K.P, 1, none⟩ = some (.map (some mb)) := fun W h => by have := h.c 1; simp at this; rw [hsm] at this; exact this
  have HC1 := hid hc1
  have P0 := hid (hP.alloc (.cells #[.string ⟨#[84, 122]⟩, .slice a A.length c] 41))
  have A0 := hid (At.new w #[.string ⟨#[84, 122]⟩, .slice a A.length c] 41 rfl)
  clear hP hA hk hx hF hS hLk hV hpB hpP hsm hc1
  go_enter Tryz.func24, Tryz.ntmps24
  go_wp2_with fail
  generalize w.alloc (.cells #[.string ⟨#[84, 122]⟩, .slice a A.length c] 41) = W0 at P0 A0 ⊢
  have H0 := hid (show ∀ W, Below W0.heap.size W0 W → Below W0.heap.size W0 W ∧ W.cell? ⟨K.P, 1, none⟩ = some (.map (some mb)) ∧ W.cell? ⟨w.heap.size, 0, none⟩ = some (.string ⟨#[84, 122]⟩) ∧ (Instr.lookup 72 (.map (some mb)) (.string ⟨#[84, 122]⟩) true).run Tryz.prog W = .ok (.tuple #[setF 37 Pp, .bool true]) W from fun W hW => ⟨hW, HC1.out _ (P0.out.later hW), (A0.out.later hW).cell 0, HK.out _ (P0.out.later hW)⟩)
  go_region_held3 (fun (W : World) => Below W0.heap.size W0 W ∧ W.cell? ⟨K.P, 1, none⟩ = some (.map (some mb)) ∧ W.cell? ⟨w.heap.size, 0, none⟩ = some (.string ⟨#[84, 122]⟩) ∧ (Instr.lookup 72 (.map (some mb)) (.string ⟨#[84, 122]⟩) true).run Tryz.prog W = .ok (.tuple #[setF 37 Pp, .bool true]) W)
    (first | with_reducible exact H0.out _ (Below.refl _ _) | with_reducible exact H0.out _ (Below.refl _ _).drew)
    (first | fail)
  all_goals
    have q0 := A0.out.cell 0
    have q1 := A0.out.cell 1
    simp at q0 q1
    have zP := P0.out.at_.lt
    go_wp2_with (go_at_call 40; refine (C.out _ (by first | with_reducible exact P0.out.drew | with_reducible exact P0.out | exact P0.out.later (by go_grown))).mono ?_; intro e w3 h; obtain ⟨v, rfl⟩ := h.ret)
    go_ret
    exact h
set_option maxHeartbeats 4000000 in
theorem step_TL (K : Pk) (sg : FnC → ByteArray → Ex (List Sp)) (ff : ByteArray → Option FnC) (p : PS) (tS tG : Value) (d : Nat) (A : List V) (t : Value) (w : World) (hP : PAt K w p tS tG) (hA : ArgsAt d K.w0 t A) (hk : okA A) (hx : PsOk K sg p) (hF : FontsAt K ff) (hS : SetAt K) :
    Calls Tryz.prog 24 #[.pointer (some ⟨K.P, 0, none⟩), .agg #[.string ⟨#[84, 76]⟩, t]] w fun e w' => PRes K e w' (set4X p A) := by
  have hu := (And.intro hk (And.intro hx hF))
  clear hu
  obtain ⟨a, c, rfl, hl, hA2⟩ := id hA
  clear hA2
  obtain ⟨Pp, mb, hsm, hpB, hpP, hV, hLk⟩ := set_look (p := p) (tS := tS) (tG := tG) hS
  have HK := hid (show ∀ W, PAt K W p tS tG → (Instr.lookup 72 (.map (some mb)) (.string ⟨#[84, 76]⟩) true).run Tryz.prog W = .ok (.tuple #[setF 38 Pp, .bool true]) W from fun W h => by
    obtain ⟨v, hlk, hv⟩ := hLk W h ⟨#[84, 76]⟩ (by unfold maxLen; decide)
    rw [show (⟨#[84, 76]⟩ : ByteArray).data.toList = [84, 76] from rfl, (setD_TL Pp).2] at hv
    rw [show (⟨#[84, 76]⟩ : ByteArray).data.toList = [84, 76] from rfl, (setD_TL Pp).1] at hlk
    injection hv with hv
    subst hv
    exact hlk)
  have C := hid (fun W (h : PAt K W p tS tG) => (setter4_says K p tS tG d A _ Pp W h (hA.later h.keep) hV hpB hpP : Calls Tryz.prog _ _ W _))
  have hc1 : ∀ W, PAt K W p tS tG → W.cell? ⟨K.P, 1, none⟩ = some (.map (some mb)) := fun W h => by have := h.c 1; simp at this; rw [hsm] at this; exact this
  have HC1 := hid hc1
  have P0 := hid (hP.alloc (.cells #[.string ⟨#[84, 76]⟩, .slice a A.length c] 41))
  have A0 := hid (At.new w #[.string ⟨#[84, 76]⟩, .slice a A.length c] 41 rfl)
  clear hP hA hk hx hF hS hLk hV hpB hpP hsm hc1
  go_enter Tryz.func24, Tryz.ntmps24
  go_wp2_with fail
  generalize w.alloc (.cells #[.string ⟨#[84, 76]⟩, .slice a A.length c] 41) = W0 at P0 A0 ⊢
  have H0 := hid (show ∀ W, Below W0.heap.size W0 W → Below W0.heap.size W0 W ∧ W.cell? ⟨K.P, 1, none⟩ = some (.map (some mb)) ∧ W.cell? ⟨w.heap.size, 0, none⟩ = some (.string ⟨#[84, 76]⟩) ∧ (Instr.lookup 72 (.map (some mb)) (.string ⟨#[84, 76]⟩) true).run Tryz.prog W = .ok (.tuple #[setF 38 Pp, .bool true]) W from fun W hW => ⟨hW, HC1.out _ (P0.out.later hW), (A0.out.later hW).cell 0, HK.out _ (P0.out.later hW)⟩)
  go_region_held3 (fun (W : World) => Below W0.heap.size W0 W ∧ W.cell? ⟨K.P, 1, none⟩ = some (.map (some mb)) ∧ W.cell? ⟨w.heap.size, 0, none⟩ = some (.string ⟨#[84, 76]⟩) ∧ (Instr.lookup 72 (.map (some mb)) (.string ⟨#[84, 76]⟩) true).run Tryz.prog W = .ok (.tuple #[setF 38 Pp, .bool true]) W)
    (first | with_reducible exact H0.out _ (Below.refl _ _) | with_reducible exact H0.out _ (Below.refl _ _).drew)
    (first | fail)
  all_goals
    have q0 := A0.out.cell 0
    have q1 := A0.out.cell 1
    simp at q0 q1
    have zP := P0.out.at_.lt
    go_wp2_with (go_at_call 40; refine (C.out _ (by first | with_reducible exact P0.out.drew | with_reducible exact P0.out | exact P0.out.later (by go_grown))).mono ?_; intro e w3 h; obtain ⟨v, rfl⟩ := h.ret)
    go_ret
    exact h
set_option maxHeartbeats 4000000 in
theorem step_Ts (K : Pk) (sg : FnC → ByteArray → Ex (List Sp)) (ff : ByteArray → Option FnC) (p : PS) (tS tG : Value) (d : Nat) (A : List V) (t : Value) (w : World) (hP : PAt K w p tS tG) (hA : ArgsAt d K.w0 t A) (hk : okA A) (hx : PsOk K sg p) (hF : FontsAt K ff) (hS : SetAt K) :
    Calls Tryz.prog 24 #[.pointer (some ⟨K.P, 0, none⟩), .agg #[.string ⟨#[84, 115]⟩, t]] w fun e w' => PRes K e w' (set5X p A) := by
  have hu := (And.intro hk (And.intro hx hF))
  clear hu
  obtain ⟨a, c, rfl, hl, hA2⟩ := id hA
  clear hA2
  obtain ⟨Pp, mb, hsm, hpB, hpP, hV, hLk⟩ := set_look (p := p) (tS := tS) (tG := tG) hS
  have HK := hid (show ∀ W, PAt K W p tS tG → (Instr.lookup 72 (.map (some mb)) (.string ⟨#[84, 115]⟩) true).run Tryz.prog W = .ok (.tuple #[setF 39 Pp, .bool true]) W from fun W h => by
    obtain ⟨v, hlk, hv⟩ := hLk W h ⟨#[84, 115]⟩ (by unfold maxLen; decide)
    rw [show (⟨#[84, 115]⟩ : ByteArray).data.toList = [84, 115] from rfl, (setD_Ts Pp).2] at hv
    rw [show (⟨#[84, 115]⟩ : ByteArray).data.toList = [84, 115] from rfl, (setD_Ts Pp).1] at hlk
    injection hv with hv
    subst hv
    exact hlk)
  have C := hid (fun W (h : PAt K W p tS tG) => (setter5_says K p tS tG d A _ Pp W h (hA.later h.keep) hV hpB hpP : Calls Tryz.prog _ _ W _))
  have hc1 : ∀ W, PAt K W p tS tG → W.cell? ⟨K.P, 1, none⟩ = some (.map (some mb)) := fun W h => by have := h.c 1; simp at this; rw [hsm] at this; exact this
  have HC1 := hid hc1
  have P0 := hid (hP.alloc (.cells #[.string ⟨#[84, 115]⟩, .slice a A.length c] 41))
  have A0 := hid (At.new w #[.string ⟨#[84, 115]⟩, .slice a A.length c] 41 rfl)
  clear hP hA hk hx hF hS hLk hV hpB hpP hsm hc1
  go_enter Tryz.func24, Tryz.ntmps24
  go_wp2_with fail
  generalize w.alloc (.cells #[.string ⟨#[84, 115]⟩, .slice a A.length c] 41) = W0 at P0 A0 ⊢
  have H0 := hid (show ∀ W, Below W0.heap.size W0 W → Below W0.heap.size W0 W ∧ W.cell? ⟨K.P, 1, none⟩ = some (.map (some mb)) ∧ W.cell? ⟨w.heap.size, 0, none⟩ = some (.string ⟨#[84, 115]⟩) ∧ (Instr.lookup 72 (.map (some mb)) (.string ⟨#[84, 115]⟩) true).run Tryz.prog W = .ok (.tuple #[setF 39 Pp, .bool true]) W from fun W hW => ⟨hW, HC1.out _ (P0.out.later hW), (A0.out.later hW).cell 0, HK.out _ (P0.out.later hW)⟩)
  go_region_held3 (fun (W : World) => Below W0.heap.size W0 W ∧ W.cell? ⟨K.P, 1, none⟩ = some (.map (some mb)) ∧ W.cell? ⟨w.heap.size, 0, none⟩ = some (.string ⟨#[84, 115]⟩) ∧ (Instr.lookup 72 (.map (some mb)) (.string ⟨#[84, 115]⟩) true).run Tryz.prog W = .ok (.tuple #[setF 39 Pp, .bool true]) W)
    (first | with_reducible exact H0.out _ (Below.refl _ _) | with_reducible exact H0.out _ (Below.refl _ _).drew)
    (first | fail)
  all_goals
    have q0 := A0.out.cell 0
    have q1 := A0.out.cell 1
    simp at q0 q1
    have zP := P0.out.at_.lt
    go_wp2_with (go_at_call 40; refine (C.out _ (by first | with_reducible exact P0.out.drew | with_reducible exact P0.out | exact P0.out.later (by go_grown))).mono ?_; intro e w3 h; obtain ⟨v, rfl⟩ := h.ret)
    go_ret
    exact h
set_option maxHeartbeats 4000000 in
theorem step_save (K : Pk) (sg : FnC → ByteArray → Ex (List Sp)) (ff : ByteArray → Option FnC) (p : PS) (tS tG : Value) (d : Nat) (A : List V) (t : Value) (w : World) (hP : PAt K w p tS tG) (hA : ArgsAt d K.w0 t A) (hk : okA A) (hx : PsOk K sg p) (hF : FontsAt K ff) (hS : SetAt K) :
    Calls Tryz.prog 24 #[.pointer (some ⟨K.P, 0, none⟩), .agg #[.string ⟨#[113]⟩, t]] w fun e w' => PRes K e w' (saveX p A) := by
  have hu := (And.intro hk (And.intro hx hF))
  clear hu
  obtain ⟨a, c, rfl, hl, hA2⟩ := id hA
  clear hA2
  obtain ⟨Pp, mb, hsm, hpB, hpP, hV, hLk⟩ := set_look (p := p) (tS := tS) (tG := tG) hS
  have HK := hid (show ∀ W, PAt K W p tS tG → (Instr.lookup 72 (.map (some mb)) (.string ⟨#[113]⟩) true).run Tryz.prog W = .ok (.tuple #[.nilFunc, .bool false]) W from fun W h => by
    obtain ⟨v, hlk, hv⟩ := hLk W h ⟨#[113]⟩ (by unfold maxLen; decide)
    have hn := setD_none Pp (⟨#[113]⟩ : ByteArray).data.toList (by decide) (by decide) (by decide) (by decide) (by decide)
    rw [atKey_of_not_has hn] at hv
    rw [hn] at hlk
    injection hv with hv
    subst hv
    exact hlk)
  have C := hid (fun W (h : PAt K W p tS tG) => (save_says K p tS tG A a c W h hl hx.one : Calls Tryz.prog _ _ W _))
  have hc1 : ∀ W, PAt K W p tS tG → W.cell? ⟨K.P, 1, none⟩ = some (.map (some mb)) := fun W h => by have := h.c 1; simp at this; rw [hsm] at this; exact this
  have HC1 := hid hc1
  have P0 := hid (hP.alloc (.cells #[.string ⟨#[113]⟩, .slice a A.length c] 41))
  have A0 := hid (At.new w #[.string ⟨#[113]⟩, .slice a A.length c] 41 rfl)
  clear hP hA hk hx hF hS hLk hV hpB hpP hsm hc1
  go_enter Tryz.func24, Tryz.ntmps24
  go_wp2_with fail
  generalize w.alloc (.cells #[.string ⟨#[113]⟩, .slice a A.length c] 41) = W0 at P0 A0 ⊢
  have H0 := hid (show ∀ W, Below W0.heap.size W0 W → Below W0.heap.size W0 W ∧ W.cell? ⟨K.P, 1, none⟩ = some (.map (some mb)) ∧ W.cell? ⟨w.heap.size, 0, none⟩ = some (.string ⟨#[113]⟩) ∧ (Instr.lookup 72 (.map (some mb)) (.string ⟨#[113]⟩) true).run Tryz.prog W = .ok (.tuple #[.nilFunc, .bool false]) W from fun W hW => ⟨hW, HC1.out _ (P0.out.later hW), (A0.out.later hW).cell 0, HK.out _ (P0.out.later hW)⟩)
  go_region_held3 (fun (W : World) => Below W0.heap.size W0 W ∧ W.cell? ⟨K.P, 1, none⟩ = some (.map (some mb)) ∧ W.cell? ⟨w.heap.size, 0, none⟩ = some (.string ⟨#[113]⟩) ∧ (Instr.lookup 72 (.map (some mb)) (.string ⟨#[113]⟩) true).run Tryz.prog W = .ok (.tuple #[.nilFunc, .bool false]) W)
    (first | with_reducible exact H0.out _ (Below.refl _ _) | with_reducible exact H0.out _ (Below.refl _ _).drew)
    (first | fail)
  all_goals
    have q0 := A0.out.cell 0
    have q1 := A0.out.cell 1
    simp at q0 q1
    have zP := P0.out.at_.lt
    go_wp2_with (go_at_call 41; refine (C.out _ (by first | with_reducible exact P0.out.drew | with_reducible exact P0.out | exact P0.out.later (by go_grown))).mono ?_; intro e w3 h; obtain ⟨v, rfl⟩ := h.ret)
    go_ret
    exact h
set_option maxHeartbeats 4000000 in
theorem step_back (K : Pk) (sg : FnC → ByteArray → Ex (List Sp)) (ff : ByteArray → Option FnC) (p : PS) (tS tG : Value) (d : Nat) (A : List V) (t : Value) (w : World) (hP : PAt K w p tS tG) (hA : ArgsAt d K.w0 t A) (hk : okA A) (hx : PsOk K sg p) (hF : FontsAt K ff) (hS : SetAt K) :
    Calls Tryz.prog 24 #[.pointer (some ⟨K.P, 0, none⟩), .agg #[.string ⟨#[81]⟩, t]] w fun e w' => PRes K e w' (takeX p A) := by
  have hu := (And.intro hk (And.intro hx hF))
  clear hu
  obtain ⟨a, c, rfl, hl, hA2⟩ := id hA
  clear hA2
  obtain ⟨Pp, mb, hsm, hpB, hpP, hV, hLk⟩ := set_look (p := p) (tS := tS) (tG := tG) hS
  have HK := hid (show ∀ W, PAt K W p tS tG → (Instr.lookup 72 (.map (some mb)) (.string ⟨#[81]⟩) true).run Tryz.prog W = .ok (.tuple #[.nilFunc, .bool false]) W from fun W h => by
    obtain ⟨v, hlk, hv⟩ := hLk W h ⟨#[81]⟩ (by unfold maxLen; decide)
    have hn := setD_none Pp (⟨#[81]⟩ : ByteArray).data.toList (by decide) (by decide) (by decide) (by decide) (by decide)
    rw [atKey_of_not_has hn] at hv
    rw [hn] at hlk
    injection hv with hv
    subst hv
    exact hlk)
  have C := hid (fun W (h : PAt K W p tS tG) => (takeBack_says K p tS tG A a c W h hl hx.ones : Calls Tryz.prog _ _ W _))
  have hc1 : ∀ W, PAt K W p tS tG → W.cell? ⟨K.P, 1, none⟩ = some (.map (some mb)) := fun W h => by have := h.c 1; simp at this; rw [hsm] at this; exact this
  have HC1 := hid hc1
  have P0 := hid (hP.alloc (.cells #[.string ⟨#[81]⟩, .slice a A.length c] 41))
  have A0 := hid (At.new w #[.string ⟨#[81]⟩, .slice a A.length c] 41 rfl)
  clear hP hA hk hx hF hS hLk hV hpB hpP hsm hc1
  go_enter Tryz.func24, Tryz.ntmps24
  go_wp2_with fail
  generalize w.alloc (.cells #[.string ⟨#[81]⟩, .slice a A.length c] 41) = W0 at P0 A0 ⊢
  have H0 := hid (show ∀ W, Below W0.heap.size W0 W → Below W0.heap.size W0 W ∧ W.cell? ⟨K.P, 1, none⟩ = some (.map (some mb)) ∧ W.cell? ⟨w.heap.size, 0, none⟩ = some (.string ⟨#[81]⟩) ∧ (Instr.lookup 72 (.map (some mb)) (.string ⟨#[81]⟩) true).run Tryz.prog W = .ok (.tuple #[.nilFunc, .bool false]) W from fun W hW => ⟨hW, HC1.out _ (P0.out.later hW), (A0.out.later hW).cell 0, HK.out _ (P0.out.later hW)⟩)
  go_region_held3 (fun (W : World) => Below W0.heap.size W0 W ∧ W.cell? ⟨K.P, 1, none⟩ = some (.map (some mb)) ∧ W.cell? ⟨w.heap.size, 0, none⟩ = some (.string ⟨#[81]⟩) ∧ (Instr.lookup 72 (.map (some mb)) (.string ⟨#[81]⟩) true).run Tryz.prog W = .ok (.tuple #[.nilFunc, .bool false]) W)
    (first | with_reducible exact H0.out _ (Below.refl _ _) | with_reducible exact H0.out _ (Below.refl _ _).drew)
    (first | fail)
  all_goals
    have q0 := A0.out.cell 0
    have q1 := A0.out.cell 1
    simp at q0 q1
    have zP := P0.out.at_.lt
    go_wp2_with (go_at_call 42; refine (C.out _ (by first | with_reducible exact P0.out.drew | with_reducible exact P0.out | exact P0.out.later (by go_grown))).mono ?_; intro e w3 h; obtain ⟨v, rfl⟩ := h.ret)
    go_ret
    exact h
set_option maxHeartbeats 4000000 in
theorem step_cm (K : Pk) (sg : FnC → ByteArray → Ex (List Sp)) (ff : ByteArray → Option FnC) (p : PS) (tS tG : Value) (d : Nat) (A : List V) (t : Value) (w : World) (hP : PAt K w p tS tG) (hA : ArgsAt d K.w0 t A) (hk : okA A) (hx : PsOk K sg p) (hF : FontsAt K ff) (hS : SetAt K) :
    Calls Tryz.prog 24 #[.pointer (some ⟨K.P, 0, none⟩), .agg #[.string ⟨#[99, 109]⟩, t]] w fun e w' => PRes K e w' (pageX p A) := by
  have hu := (And.intro hk (And.intro hx hF))
  clear hu
  obtain ⟨a, c, rfl, hl, hA2⟩ := id hA
  clear hA2
  obtain ⟨Pp, mb, hsm, hpB, hpP, hV, hLk⟩ := set_look (p := p) (tS := tS) (tG := tG) hS
  have HK := hid (show ∀ W, PAt K W p tS tG → (Instr.lookup 72 (.map (some mb)) (.string ⟨#[99, 109]⟩) true).run Tryz.prog W = .ok (.tuple #[.nilFunc, .bool false]) W from fun W h => by
    obtain ⟨v, hlk, hv⟩ := hLk W h ⟨#[99, 109]⟩ (by unfold maxLen; decide)
    have hn := setD_none Pp (⟨#[99, 109]⟩ : ByteArray).data.toList (by decide) (by decide) (by decide) (by decide) (by decide)
    rw [atKey_of_not_has hn] at hv
    rw [hn] at hlk
    injection hv with hv
    subst hv
    exact hlk)
  have C := hid (fun W (h : PAt K W p tS tG) => (movePage_says K p tS tG d A _ W h (hA.later h.keep) : Calls Tryz.prog _ _ W _))
  have hc1 : ∀ W, PAt K W p tS tG → W.cell? ⟨K.P, 1, none⟩ = some (.map (some mb)) := fun W h => by have := h.c 1; simp at this; rw [hsm] at this; exact this
  have HC1 := hid hc1
  have P0 := hid (hP.alloc (.cells #[.string ⟨#[99, 109]⟩, .slice a A.length c] 41))
  have A0 := hid (At.new w #[.string ⟨#[99, 109]⟩, .slice a A.length c] 41 rfl)
  clear hP hA hk hx hF hS hLk hV hpB hpP hsm hc1
  go_enter Tryz.func24, Tryz.ntmps24
  go_wp2_with fail
  generalize w.alloc (.cells #[.string ⟨#[99, 109]⟩, .slice a A.length c] 41) = W0 at P0 A0 ⊢
  have H0 := hid (show ∀ W, Below W0.heap.size W0 W → Below W0.heap.size W0 W ∧ W.cell? ⟨K.P, 1, none⟩ = some (.map (some mb)) ∧ W.cell? ⟨w.heap.size, 0, none⟩ = some (.string ⟨#[99, 109]⟩) ∧ (Instr.lookup 72 (.map (some mb)) (.string ⟨#[99, 109]⟩) true).run Tryz.prog W = .ok (.tuple #[.nilFunc, .bool false]) W from fun W hW => ⟨hW, HC1.out _ (P0.out.later hW), (A0.out.later hW).cell 0, HK.out _ (P0.out.later hW)⟩)
  go_region_held3 (fun (W : World) => Below W0.heap.size W0 W ∧ W.cell? ⟨K.P, 1, none⟩ = some (.map (some mb)) ∧ W.cell? ⟨w.heap.size, 0, none⟩ = some (.string ⟨#[99, 109]⟩) ∧ (Instr.lookup 72 (.map (some mb)) (.string ⟨#[99, 109]⟩) true).run Tryz.prog W = .ok (.tuple #[.nilFunc, .bool false]) W)
    (first | with_reducible exact H0.out _ (Below.refl _ _) | with_reducible exact H0.out _ (Below.refl _ _).drew)
    (first | fail)
  all_goals
    have q0 := A0.out.cell 0
    have q1 := A0.out.cell 1
    simp at q0 q1
    have zP := P0.out.at_.lt
    go_wp2_with (go_at_call 43; refine (C.out _ (by first | with_reducible exact P0.out.drew | with_reducible exact P0.out | exact P0.out.later (by go_grown))).mono ?_; intro e w3 h; obtain ⟨v, rfl⟩ := h.ret)
    go_ret
    exact h
set_option maxHeartbeats 4000000 in
theorem step_BT (K : Pk) (sg : FnC → ByteArray → Ex (List Sp)) (ff : ByteArray → Option FnC) (p : PS) (tS tG : Value) (d : Nat) (A : List V) (t : Value) (w : World) (hP : PAt K w p tS tG) (hA : ArgsAt d K.w0 t A) (hk : okA A) (hx : PsOk K sg p) (hF : FontsAt K ff) (hS : SetAt K) :
    Calls Tryz.prog 24 #[.pointer (some ⟨K.P, 0, none⟩), .agg #[.string ⟨#[66, 84]⟩, t]] w fun e w' => PRes K e w' (turnX p true A) := by
  have hu := (And.intro hk (And.intro hx hF))
  clear hu
  obtain ⟨a, c, rfl, hl, hA2⟩ := id hA
  clear hA2
  obtain ⟨Pp, mb, hsm, hpB, hpP, hV, hLk⟩ := set_look (p := p) (tS := tS) (tG := tG) hS
  have HK := hid (show ∀ W, PAt K W p tS tG → (Instr.lookup 72 (.map (some mb)) (.string ⟨#[66, 84]⟩) true).run Tryz.prog W = .ok (.tuple #[.nilFunc, .bool false]) W from fun W h => by
    obtain ⟨v, hlk, hv⟩ := hLk W h ⟨#[66, 84]⟩ (by unfold maxLen; decide)
    have hn := setD_none Pp (⟨#[66, 84]⟩ : ByteArray).data.toList (by decide) (by decide) (by decide) (by decide) (by decide)
    rw [atKey_of_not_has hn] at hv
    rw [hn] at hlk
    injection hv with hv
    subst hv
    exact hlk)
  have C := hid (fun W (h : PAt K W p tS tG) => (turnText_says K p tS tG true A a c W h hl : Calls Tryz.prog _ _ W _))
  have hc1 : ∀ W, PAt K W p tS tG → W.cell? ⟨K.P, 1, none⟩ = some (.map (some mb)) := fun W h => by have := h.c 1; simp at this; rw [hsm] at this; exact this
  have HC1 := hid hc1
  have P0 := hid (hP.alloc (.cells #[.string ⟨#[66, 84]⟩, .slice a A.length c] 41))
  have A0 := hid (At.new w #[.string ⟨#[66, 84]⟩, .slice a A.length c] 41 rfl)
  clear hP hA hk hx hF hS hLk hV hpB hpP hsm hc1
  go_enter Tryz.func24, Tryz.ntmps24
  go_wp2_with fail
  generalize w.alloc (.cells #[.string ⟨#[66, 84]⟩, .slice a A.length c] 41) = W0 at P0 A0 ⊢
  have H0 := hid (show ∀ W, Below W0.heap.size W0 W → Below W0.heap.size W0 W ∧ W.cell? ⟨K.P, 1, none⟩ = some (.map (some mb)) ∧ W.cell? ⟨w.heap.size, 0, none⟩ = some (.string ⟨#[66, 84]⟩) ∧ (Instr.lookup 72 (.map (some mb)) (.string ⟨#[66, 84]⟩) true).run Tryz.prog W = .ok (.tuple #[.nilFunc, .bool false]) W from fun W hW => ⟨hW, HC1.out _ (P0.out.later hW), (A0.out.later hW).cell 0, HK.out _ (P0.out.later hW)⟩)
  go_region_held3 (fun (W : World) => Below W0.heap.size W0 W ∧ W.cell? ⟨K.P, 1, none⟩ = some (.map (some mb)) ∧ W.cell? ⟨w.heap.size, 0, none⟩ = some (.string ⟨#[66, 84]⟩) ∧ (Instr.lookup 72 (.map (some mb)) (.string ⟨#[66, 84]⟩) true).run Tryz.prog W = .ok (.tuple #[.nilFunc, .bool false]) W)
    (first | with_reducible exact H0.out _ (Below.refl _ _) | with_reducible exact H0.out _ (Below.refl _ _).drew)
    (first | fail)
  all_goals
    have q0 := A0.out.cell 0
    have q1 := A0.out.cell 1
    simp at q0 q1
    have zP := P0.out.at_.lt
    go_wp2_with (go_at_call 44; refine (C.out _ (by first | with_reducible exact P0.out.drew | with_reducible exact P0.out | exact P0.out.later (by go_grown))).mono ?_; intro e w3 h; obtain ⟨v, rfl⟩ := h.ret)
    go_ret
    exact h
set_option maxHeartbeats 4000000 in
theorem step_ET (K : Pk) (sg : FnC → ByteArray → Ex (List Sp)) (ff : ByteArray → Option FnC) (p : PS) (tS tG : Value) (d : Nat) (A : List V) (t : Value) (w : World) (hP : PAt K w p tS tG) (hA : ArgsAt d K.w0 t A) (hk : okA A) (hx : PsOk K sg p) (hF : FontsAt K ff) (hS : SetAt K) :
    Calls Tryz.prog 24 #[.pointer (some ⟨K.P, 0, none⟩), .agg #[.string ⟨#[69, 84]⟩, t]] w fun e w' => PRes K e w' (turnX p false A) := by
  have hu := (And.intro hk (And.intro hx hF))
  clear hu
  obtain ⟨a, c, rfl, hl, hA2⟩ := id hA
  clear hA2
  obtain ⟨Pp, mb, hsm, hpB, hpP, hV, hLk⟩ := set_look (p := p) (tS := tS) (tG := tG) hS
  have HK := hid (show ∀ W, PAt K W p tS tG → (Instr.lookup 72 (.map (some mb)) (.string ⟨#[69, 84]⟩) true).run Tryz.prog W = .ok (.tuple #[.nilFunc, .bool false]) W from fun W h => by
    obtain ⟨v, hlk, hv⟩ := hLk W h ⟨#[69, 84]⟩ (by unfold maxLen; decide)
    have hn := setD_none Pp (⟨#[69, 84]⟩ : ByteArray).data.toList (by decide) (by decide) (by decide) (by decide) (by decide)
    rw [atKey_of_not_has hn] at hv
    rw [hn] at hlk
    injection hv with hv
    subst hv
    exact hlk)
  have C := hid (fun W (h : PAt K W p tS tG) => (turnText_says K p tS tG false A a c W h hl : Calls Tryz.prog _ _ W _))
  have hc1 : ∀ W, PAt K W p tS tG → W.cell? ⟨K.P, 1, none⟩ = some (.map (some mb)) := fun W h => by have := h.c 1; simp at this; rw [hsm] at this; exact this
  have HC1 := hid hc1
  have P0 := hid (hP.alloc (.cells #[.string ⟨#[69, 84]⟩, .slice a A.length c] 41))
  have A0 := hid (At.new w #[.string ⟨#[69, 84]⟩, .slice a A.length c] 41 rfl)
  clear hP hA hk hx hF hS hLk hV hpB hpP hsm hc1
  go_enter Tryz.func24, Tryz.ntmps24
  go_wp2_with fail
  generalize w.alloc (.cells #[.string ⟨#[69, 84]⟩, .slice a A.length c] 41) = W0 at P0 A0 ⊢
  have H0 := hid (show ∀ W, Below W0.heap.size W0 W → Below W0.heap.size W0 W ∧ W.cell? ⟨K.P, 1, none⟩ = some (.map (some mb)) ∧ W.cell? ⟨w.heap.size, 0, none⟩ = some (.string ⟨#[69, 84]⟩) ∧ (Instr.lookup 72 (.map (some mb)) (.string ⟨#[69, 84]⟩) true).run Tryz.prog W = .ok (.tuple #[.nilFunc, .bool false]) W from fun W hW => ⟨hW, HC1.out _ (P0.out.later hW), (A0.out.later hW).cell 0, HK.out _ (P0.out.later hW)⟩)
  go_region_held3 (fun (W : World) => Below W0.heap.size W0 W ∧ W.cell? ⟨K.P, 1, none⟩ = some (.map (some mb)) ∧ W.cell? ⟨w.heap.size, 0, none⟩ = some (.string ⟨#[69, 84]⟩) ∧ (Instr.lookup 72 (.map (some mb)) (.string ⟨#[69, 84]⟩) true).run Tryz.prog W = .ok (.tuple #[.nilFunc, .bool false]) W)
    (first | with_reducible exact H0.out _ (Below.refl _ _) | with_reducible exact H0.out _ (Below.refl _ _).drew)
    (first | fail)
  all_goals
    have q0 := A0.out.cell 0
    have q1 := A0.out.cell 1
    simp at q0 q1
    have zP := P0.out.at_.lt
    go_wp2_with (go_at_call 44; refine (C.out _ (by first | with_reducible exact P0.out.drew | with_reducible exact P0.out | exact P0.out.later (by go_grown))).mono ?_; intro e w3 h; obtain ⟨v, rfl⟩ := h.ret)
    go_ret
    exact h
set_option maxHeartbeats 4000000 in
theorem step_Tf (K : Pk) (sg : FnC → ByteArray → Ex (List Sp)) (ff : ByteArray → Option FnC) (p : PS) (tS tG : Value) (d : Nat) (A : List V) (t : Value) (w : World) (hP : PAt K w p tS tG) (hA : ArgsAt d K.w0 t A) (hk : okA A) (hx : PsOk K sg p) (hF : FontsAt K ff) (hS : SetAt K) :
    Calls Tryz.prog 24 #[.pointer (some ⟨K.P, 0, none⟩), .agg #[.string ⟨#[84, 102]⟩, t]] w fun e w' => PRes K e w' (chooseX ff p A) := by
  have hu := (And.intro hk (And.intro hx hF))
  clear hu
  obtain ⟨a, c, rfl, hl, hA2⟩ := id hA
  clear hA2
  obtain ⟨Pp, mb, hsm, hpB, hpP, hV, hLk⟩ := set_look (p := p) (tS := tS) (tG := tG) hS
  have HK := hid (show ∀ W, PAt K W p tS tG → (Instr.lookup 72 (.map (some mb)) (.string ⟨#[84, 102]⟩) true).run Tryz.prog W = .ok (.tuple #[.nilFunc, .bool false]) W from fun W h => by
    obtain ⟨v, hlk, hv⟩ := hLk W h ⟨#[84, 102]⟩ (by unfold maxLen; decide)
    have hn := setD_none Pp (⟨#[84, 102]⟩ : ByteArray).data.toList (by decide) (by decide) (by decide) (by decide) (by decide)
    rw [atKey_of_not_has hn] at hv
    rw [hn] at hlk
    injection hv with hv
    subst hv
    exact hlk)
  have C := hid (fun W (h : PAt K W p tS tG) => (choose_says K ff p tS tG d A _ W h (hA.later h.keep) hF : Calls Tryz.prog _ _ W _))
  have hc1 : ∀ W, PAt K W p tS tG → W.cell? ⟨K.P, 1, none⟩ = some (.map (some mb)) := fun W h => by have := h.c 1; simp at this; rw [hsm] at this; exact this
  have HC1 := hid hc1
  have P0 := hid (hP.alloc (.cells #[.string ⟨#[84, 102]⟩, .slice a A.length c] 41))
  have A0 := hid (At.new w #[.string ⟨#[84, 102]⟩, .slice a A.length c] 41 rfl)
  clear hP hA hk hx hF hS hLk hV hpB hpP hsm hc1
  go_enter Tryz.func24, Tryz.ntmps24
  go_wp2_with fail
  generalize w.alloc (.cells #[.string ⟨#[84, 102]⟩, .slice a A.length c] 41) = W0 at P0 A0 ⊢
  have H0 := hid (show ∀ W, Below W0.heap.size W0 W → Below W0.heap.size W0 W ∧ W.cell? ⟨K.P, 1, none⟩ = some (.map (some mb)) ∧ W.cell? ⟨w.heap.size, 0, none⟩ = some (.string ⟨#[84, 102]⟩) ∧ (Instr.lookup 72 (.map (some mb)) (.string ⟨#[84, 102]⟩) true).run Tryz.prog W = .ok (.tuple #[.nilFunc, .bool false]) W from fun W hW => ⟨hW, HC1.out _ (P0.out.later hW), (A0.out.later hW).cell 0, HK.out _ (P0.out.later hW)⟩)
  go_region_held3 (fun (W : World) => Below W0.heap.size W0 W ∧ W.cell? ⟨K.P, 1, none⟩ = some (.map (some mb)) ∧ W.cell? ⟨w.heap.size, 0, none⟩ = some (.string ⟨#[84, 102]⟩) ∧ (Instr.lookup 72 (.map (some mb)) (.string ⟨#[84, 102]⟩) true).run Tryz.prog W = .ok (.tuple #[.nilFunc, .bool false]) W)
    (first | with_reducible exact H0.out _ (Below.refl _ _) | with_reducible exact H0.out _ (Below.refl _ _).drew)
    (first | fail)
  all_goals
    have q0 := A0.out.cell 0
    have q1 := A0.out.cell 1
    simp at q0 q1
    have zP := P0.out.at_.lt
    go_wp2_with (go_at_call 45; refine (C.out _ (by first | with_reducible exact P0.out.drew | with_reducible exact P0.out | exact P0.out.later (by go_grown))).mono ?_; intro e w3 h; obtain ⟨v, rfl⟩ := h.ret)
    go_ret
    exact h
set_option maxHeartbeats 4000000 in
theorem step_Td (K : Pk) (sg : FnC → ByteArray → Ex (List Sp)) (ff : ByteArray → Option FnC) (p : PS) (tS tG : Value) (d : Nat) (A : List V) (t : Value) (w : World) (hP : PAt K w p tS tG) (hA : ArgsAt d K.w0 t A) (hk : okA A) (hx : PsOk K sg p) (hF : FontsAt K ff) (hS : SetAt K) :
    Calls Tryz.prog 24 #[.pointer (some ⟨K.P, 0, none⟩), .agg #[.string ⟨#[84, 100]⟩, t]] w fun e w' => PRes K e w' (moveX p A) := by
  have hu := (And.intro hk (And.intro hx hF))
  clear hu
  obtain ⟨a, c, rfl, hl, hA2⟩ := id hA
  clear hA2
  obtain ⟨Pp, mb, hsm, hpB, hpP, hV, hLk⟩ := set_look (p := p) (tS := tS) (tG := tG) hS
  have HK := hid (show ∀ W, PAt K W p tS tG → (Instr.lookup 72 (.map (some mb)) (.string ⟨#[84, 100]⟩) true).run Tryz.prog W = .ok (.tuple #[.nilFunc, .bool false]) W from fun W h => by
    obtain ⟨v, hlk, hv⟩ := hLk W h ⟨#[84, 100]⟩ (by unfold maxLen; decide)
    have hn := setD_none Pp (⟨#[84, 100]⟩ : ByteArray).data.toList (by decide) (by decide) (by decide) (by decide) (by decide)
    rw [atKey_of_not_has hn] at hv
    rw [hn] at hlk
    injection hv with hv
    subst hv
    exact hlk)
  have C := hid (fun W (h : PAt K W p tS tG) => (moveLine_says K p tS tG d A _ W h (hA.later h.keep) : Calls Tryz.prog _ _ W _))
  have hc1 : ∀ W, PAt K W p tS tG → W.cell? ⟨K.P, 1, none⟩ = some (.map (some mb)) := fun W h => by have := h.c 1; simp at this; rw [hsm] at this; exact this
  have HC1 := hid hc1
  have P0 := hid (hP.alloc (.cells #[.string ⟨#[84, 100]⟩, .slice a A.length c] 41))
  have A0 := hid (At.new w #[.string ⟨#[84, 100]⟩, .slice a A.length c] 41 rfl)
  clear hP hA hk hx hF hS hLk hV hpB hpP hsm hc1
  go_enter Tryz.func24, Tryz.ntmps24
  go_wp2_with fail
  generalize w.alloc (.cells #[.string ⟨#[84, 100]⟩, .slice a A.length c] 41) = W0 at P0 A0 ⊢
  have H0 := hid (show ∀ W, Below W0.heap.size W0 W → Below W0.heap.size W0 W ∧ W.cell? ⟨K.P, 1, none⟩ = some (.map (some mb)) ∧ W.cell? ⟨w.heap.size, 0, none⟩ = some (.string ⟨#[84, 100]⟩) ∧ (Instr.lookup 72 (.map (some mb)) (.string ⟨#[84, 100]⟩) true).run Tryz.prog W = .ok (.tuple #[.nilFunc, .bool false]) W from fun W hW => ⟨hW, HC1.out _ (P0.out.later hW), (A0.out.later hW).cell 0, HK.out _ (P0.out.later hW)⟩)
  go_region_held3 (fun (W : World) => Below W0.heap.size W0 W ∧ W.cell? ⟨K.P, 1, none⟩ = some (.map (some mb)) ∧ W.cell? ⟨w.heap.size, 0, none⟩ = some (.string ⟨#[84, 100]⟩) ∧ (Instr.lookup 72 (.map (some mb)) (.string ⟨#[84, 100]⟩) true).run Tryz.prog W = .ok (.tuple #[.nilFunc, .bool false]) W)
    (first | with_reducible exact H0.out _ (Below.refl _ _) | with_reducible exact H0.out _ (Below.refl _ _).drew)
    (first | fail)
  all_goals
    have q0 := A0.out.cell 0
    have q1 := A0.out.cell 1
    simp at q0 q1
    have zP := P0.out.at_.lt
    go_wp2_with (go_at_call 46; refine (C.out _ (by first | with_reducible exact P0.out.drew | with_reducible exact P0.out | exact P0.out.later (by go_grown))).mono ?_; intro e w3 h; obtain ⟨v, rfl⟩ := h.ret)
    go_ret
    exact h
set_option maxHeartbeats 4000000 in
theorem step_TD (K : Pk) (sg : FnC → ByteArray → Ex (List Sp)) (ff : ByteArray → Option FnC) (p : PS) (tS tG : Value) (d : Nat) (A : List V) (t : Value) (w : World) (hP : PAt K w p tS tG) (hA : ArgsAt d K.w0 t A) (hk : okA A) (hx : PsOk K sg p) (hF : FontsAt K ff) (hS : SetAt K) :
    Calls Tryz.prog 24 #[.pointer (some ⟨K.P, 0, none⟩), .agg #[.string ⟨#[84, 68]⟩, t]] w fun e w' => PRes K e w' (leadX p A) := by
  have hu := (And.intro hk (And.intro hx hF))
  clear hu
  obtain ⟨a, c, rfl, hl, hA2⟩ := id hA
  clear hA2
  obtain ⟨Pp, mb, hsm, hpB, hpP, hV, hLk⟩ := set_look (p := p) (tS := tS) (tG := tG) hS
  have HK := hid (show ∀ W, PAt K W p tS tG → (Instr.lookup 72 (.map (some mb)) (.string ⟨#[84, 68]⟩) true).run Tryz.prog W = .ok (.tuple #[.nilFunc, .bool false]) W from fun W h => by
    obtain ⟨v, hlk, hv⟩ := hLk W h ⟨#[84, 68]⟩ (by unfold maxLen; decide)
    have hn := setD_none Pp (⟨#[84, 68]⟩ : ByteArray).data.toList (by decide) (by decide) (by decide) (by decide) (by decide)
    rw [atKey_of_not_has hn] at hv
    rw [hn] at hlk
    injection hv with hv
    subst hv
    exact hlk)
  have C := hid (fun W (h : PAt K W p tS tG) => (leadLine_says K p tS tG d A _ W h (hA.later h.keep) : Calls Tryz.prog _ _ W _))
  have hc1 : ∀ W, PAt K W p tS tG → W.cell? ⟨K.P, 1, none⟩ = some (.map (some mb)) := fun W h => by have := h.c 1; simp at this; rw [hsm] at this; exact this
  have HC1 := hid hc1
  have P0 := hid (hP.alloc (.cells #[.string ⟨#[84, 68]⟩, .slice a A.length c] 41))
  have A0 := hid (At.new w #[.string ⟨#[84, 68]⟩, .slice a A.length c] 41 rfl)
  clear hP hA hk hx hF hS hLk hV hpB hpP hsm hc1
  go_enter Tryz.func24, Tryz.ntmps24
  go_wp2_with fail
  generalize w.alloc (.cells #[.string ⟨#[84, 68]⟩, .slice a A.length c] 41) = W0 at P0 A0 ⊢
  have H0 := hid (show ∀ W, Below W0.heap.size W0 W → Below W0.heap.size W0 W ∧ W.cell? ⟨K.P, 1, none⟩ = some (.map (some mb)) ∧ W.cell? ⟨w.heap.size, 0, none⟩ = some (.string ⟨#[84, 68]⟩) ∧ (Instr.lookup 72 (.map (some mb)) (.string ⟨#[84, 68]⟩) true).run Tryz.prog W = .ok (.tuple #[.nilFunc, .bool false]) W from fun W hW => ⟨hW, HC1.out _ (P0.out.later hW), (A0.out.later hW).cell 0, HK.out _ (P0.out.later hW)⟩)
  go_region_held3 (fun (W : World) => Below W0.heap.size W0 W ∧ W.cell? ⟨K.P, 1, none⟩ = some (.map (some mb)) ∧ W.cell? ⟨w.heap.size, 0, none⟩ = some (.string ⟨#[84, 68]⟩) ∧ (Instr.lookup 72 (.map (some mb)) (.string ⟨#[84, 68]⟩) true).run Tryz.prog W = .ok (.tuple #[.nilFunc, .bool false]) W)
    (first | with_reducible exact H0.out _ (Below.refl _ _) | with_reducible exact H0.out _ (Below.refl _ _).drew)
    (first | fail)
  all_goals
    have q0 := A0.out.cell 0
    have q1 := A0.out.cell 1
    simp at q0 q1
    have zP := P0.out.at_.lt
    go_wp2_with (go_at_call 47; refine (C.out _ (by first | with_reducible exact P0.out.drew | with_reducible exact P0.out | exact P0.out.later (by go_grown))).mono ?_; intro e w3 h; obtain ⟨v, rfl⟩ := h.ret)
    go_ret
    exact h
set_option maxHeartbeats 4000000 in
theorem step_Tm (K : Pk) (sg : FnC → ByteArray → Ex (List Sp)) (ff : ByteArray → Option FnC) (p : PS) (tS tG : Value) (d : Nat) (A : List V) (t : Value) (w : World) (hP : PAt K w p tS tG) (hA : ArgsAt d K.w0 t A) (hk : okA A) (hx : PsOk K sg p) (hF : FontsAt K ff) (hS : SetAt K) :
    Calls Tryz.prog 24 #[.pointer (some ⟨K.P, 0, none⟩), .agg #[.string ⟨#[84, 109]⟩, t]] w fun e w' => PRes K e w' (putX p A) := by
  have hu := (And.intro hk (And.intro hx hF))
  clear hu
  obtain ⟨a, c, rfl, hl, hA2⟩ := id hA
  clear hA2
  obtain ⟨Pp, mb, hsm, hpB, hpP, hV, hLk⟩ := set_look (p := p) (tS := tS) (tG := tG) hS
  have HK := hid (show ∀ W, PAt K W p tS tG → (Instr.lookup 72 (.map (some mb)) (.string ⟨#[84, 109]⟩) true).run Tryz.prog W = .ok (.tuple #[.nilFunc, .bool false]) W from fun W h => by
    obtain ⟨v, hlk, hv⟩ := hLk W h ⟨#[84, 109]⟩ (by unfold maxLen; decide)
    have hn := setD_none Pp (⟨#[84, 109]⟩ : ByteArray).data.toList (by decide) (by decide) (by decide) (by decide) (by decide)
    rw [atKey_of_not_has hn] at hv
    rw [hn] at hlk
    injection hv with hv
    subst hv
    exact hlk)
  have C := hid (fun W (h : PAt K W p tS tG) => (placeLine_says K p tS tG d A _ W h (hA.later h.keep) : Calls Tryz.prog _ _ W _))
  have hc1 : ∀ W, PAt K W p tS tG → W.cell? ⟨K.P, 1, none⟩ = some (.map (some mb)) := fun W h => by have := h.c 1; simp at this; rw [hsm] at this; exact this
  have HC1 := hid hc1
  have P0 := hid (hP.alloc (.cells #[.string ⟨#[84, 109]⟩, .slice a A.length c] 41))
  have A0 := hid (At.new w #[.string ⟨#[84, 109]⟩, .slice a A.length c] 41 rfl)
  clear hP hA hk hx hF hS hLk hV hpB hpP hsm hc1
  go_enter Tryz.func24, Tryz.ntmps24
  go_wp2_with fail
  generalize w.alloc (.cells #[.string ⟨#[84, 109]⟩, .slice a A.length c] 41) = W0 at P0 A0 ⊢
  have H0 := hid (show ∀ W, Below W0.heap.size W0 W → Below W0.heap.size W0 W ∧ W.cell? ⟨K.P, 1, none⟩ = some (.map (some mb)) ∧ W.cell? ⟨w.heap.size, 0, none⟩ = some (.string ⟨#[84, 109]⟩) ∧ (Instr.lookup 72 (.map (some mb)) (.string ⟨#[84, 109]⟩) true).run Tryz.prog W = .ok (.tuple #[.nilFunc, .bool false]) W from fun W hW => ⟨hW, HC1.out _ (P0.out.later hW), (A0.out.later hW).cell 0, HK.out _ (P0.out.later hW)⟩)
  go_region_held3 (fun (W : World) => Below W0.heap.size W0 W ∧ W.cell? ⟨K.P, 1, none⟩ = some (.map (some mb)) ∧ W.cell? ⟨w.heap.size, 0, none⟩ = some (.string ⟨#[84, 109]⟩) ∧ (Instr.lookup 72 (.map (some mb)) (.string ⟨#[84, 109]⟩) true).run Tryz.prog W = .ok (.tuple #[.nilFunc, .bool false]) W)
    (first | with_reducible exact H0.out _ (Below.refl _ _) | with_reducible exact H0.out _ (Below.refl _ _).drew)
    (first | fail)
  all_goals
    have q0 := A0.out.cell 0
    have q1 := A0.out.cell 1
    simp at q0 q1
    have zP := P0.out.at_.lt
    go_wp2_with (go_at_call 48; refine (C.out _ (by first | with_reducible exact P0.out.drew | with_reducible exact P0.out | exact P0.out.later (by go_grown))).mono ?_; intro e w3 h; obtain ⟨v, rfl⟩ := h.ret)
    go_ret
    exact h
set_option maxHeartbeats 4000000 in
theorem step_Tstar (K : Pk) (sg : FnC → ByteArray → Ex (List Sp)) (ff : ByteArray → Option FnC) (p : PS) (tS tG : Value) (d : Nat) (A : List V) (t : Value) (w : World) (hP : PAt K w p tS tG) (hA : ArgsAt d K.w0 t A) (hk : okA A) (hx : PsOk K sg p) (hF : FontsAt K ff) (hS : SetAt K) :
    Calls Tryz.prog 24 #[.pointer (some ⟨K.P, 0, none⟩), .agg #[.string ⟨#[84, 42]⟩, t]] w fun e w' => PRes K e w' (nextX p A) := by
  have hu := (And.intro hk (And.intro hx hF))
  clear hu
  obtain ⟨a, c, rfl, hl, hA2⟩ := id hA
  clear hA2
  obtain ⟨Pp, mb, hsm, hpB, hpP, hV, hLk⟩ := set_look (p := p) (tS := tS) (tG := tG) hS
  have HK := hid (show ∀ W, PAt K W p tS tG → (Instr.lookup 72 (.map (some mb)) (.string ⟨#[84, 42]⟩) true).run Tryz.prog W = .ok (.tuple #[.nilFunc, .bool false]) W from fun W h => by
    obtain ⟨v, hlk, hv⟩ := hLk W h ⟨#[84, 42]⟩ (by unfold maxLen; decide)
    have hn := setD_none Pp (⟨#[84, 42]⟩ : ByteArray).data.toList (by decide) (by decide) (by decide) (by decide) (by decide)
    rw [atKey_of_not_has hn] at hv
    rw [hn] at hlk
    injection hv with hv
    subst hv
    exact hlk)
  have C := hid (fun W (h : PAt K W p tS tG) => (nextLine_says K p tS tG A a c W h hl : Calls Tryz.prog _ _ W _))
  have hc1 : ∀ W, PAt K W p tS tG → W.cell? ⟨K.P, 1, none⟩ = some (.map (some mb)) := fun W h => by have := h.c 1; simp at this; rw [hsm] at this; exact this
  have HC1 := hid hc1
  have P0 := hid (hP.alloc (.cells #[.string ⟨#[84, 42]⟩, .slice a A.length c] 41))
  have A0 := hid (At.new w #[.string ⟨#[84, 42]⟩, .slice a A.length c] 41 rfl)
  clear hP hA hk hx hF hS hLk hV hpB hpP hsm hc1
  go_enter Tryz.func24, Tryz.ntmps24
  go_wp2_with fail
  generalize w.alloc (.cells #[.string ⟨#[84, 42]⟩, .slice a A.length c] 41) = W0 at P0 A0 ⊢
  have H0 := hid (show ∀ W, Below W0.heap.size W0 W → Below W0.heap.size W0 W ∧ W.cell? ⟨K.P, 1, none⟩ = some (.map (some mb)) ∧ W.cell? ⟨w.heap.size, 0, none⟩ = some (.string ⟨#[84, 42]⟩) ∧ (Instr.lookup 72 (.map (some mb)) (.string ⟨#[84, 42]⟩) true).run Tryz.prog W = .ok (.tuple #[.nilFunc, .bool false]) W from fun W hW => ⟨hW, HC1.out _ (P0.out.later hW), (A0.out.later hW).cell 0, HK.out _ (P0.out.later hW)⟩)
  go_region_held3 (fun (W : World) => Below W0.heap.size W0 W ∧ W.cell? ⟨K.P, 1, none⟩ = some (.map (some mb)) ∧ W.cell? ⟨w.heap.size, 0, none⟩ = some (.string ⟨#[84, 42]⟩) ∧ (Instr.lookup 72 (.map (some mb)) (.string ⟨#[84, 42]⟩) true).run Tryz.prog W = .ok (.tuple #[.nilFunc, .bool false]) W)
    (first | with_reducible exact H0.out _ (Below.refl _ _) | with_reducible exact H0.out _ (Below.refl _ _).drew)
    (first | fail)
  all_goals
    have q0 := A0.out.cell 0
    have q1 := A0.out.cell 1
    simp at q0 q1
    have zP := P0.out.at_.lt
    go_wp2_with (go_at_call 49; refine (C.out _ (by first | with_reducible exact P0.out.drew | with_reducible exact P0.out | exact P0.out.later (by go_grown))).mono ?_; intro e w3 h; obtain ⟨v, rfl⟩ := h.ret)
    go_ret
    exact h
set_option maxHeartbeats 4000000 in
theorem step_Tj (K : Pk) (sg : FnC → ByteArray → Ex (List Sp)) (ff : ByteArray → Option FnC) (p : PS) (tS tG : Value) (d : Nat) (A : List V) (t : Value) (w : World) (hP : PAt K w p tS tG) (hA : ArgsAt d K.w0 t A) (hk : okA A) (hx : PsOk K sg p) (hF : FontsAt K ff) (hS : SetAt K) :
    Calls Tryz.prog 24 #[.pointer (some ⟨K.P, 0, none⟩), .agg #[.string ⟨#[84, 106]⟩, t]] w fun e w' => PRes K e w' (strX sg p A) := by
  have hu := (And.intro hk (And.intro hx hF))
  clear hu
  obtain ⟨a, c, rfl, hl, hA2⟩ := id hA
  clear hA2
  obtain ⟨Pp, mb, hsm, hpB, hpP, hV, hLk⟩ := set_look (p := p) (tS := tS) (tG := tG) hS
  have HK := hid (show ∀ W, PAt K W p tS tG → (Instr.lookup 72 (.map (some mb)) (.string ⟨#[84, 106]⟩) true).run Tryz.prog W = .ok (.tuple #[.nilFunc, .bool false]) W from fun W h => by
    obtain ⟨v, hlk, hv⟩ := hLk W h ⟨#[84, 106]⟩ (by unfold maxLen; decide)
    have hn := setD_none Pp (⟨#[84, 106]⟩ : ByteArray).data.toList (by decide) (by decide) (by decide) (by decide) (by decide)
    rw [atKey_of_not_has hn] at hv
    rw [hn] at hlk
    injection hv with hv
    subst hv
    exact hlk)
  have C := hid (fun W (h : PAt K W p tS tG) => (showString_says K sg p tS tG d A _ W h hA hk hx.out hx.sig : Calls Tryz.prog _ _ W _))
  have hc1 : ∀ W, PAt K W p tS tG → W.cell? ⟨K.P, 1, none⟩ = some (.map (some mb)) := fun W h => by have := h.c 1; simp at this; rw [hsm] at this; exact this
  have HC1 := hid hc1
  have P0 := hid (hP.alloc (.cells #[.string ⟨#[84, 106]⟩, .slice a A.length c] 41))
  have A0 := hid (At.new w #[.string ⟨#[84, 106]⟩, .slice a A.length c] 41 rfl)
  clear hP hA hk hx hF hS hLk hV hpB hpP hsm hc1
  go_enter Tryz.func24, Tryz.ntmps24
  go_wp2_with fail
  generalize w.alloc (.cells #[.string ⟨#[84, 106]⟩, .slice a A.length c] 41) = W0 at P0 A0 ⊢
  have H0 := hid (show ∀ W, Below W0.heap.size W0 W → Below W0.heap.size W0 W ∧ W.cell? ⟨K.P, 1, none⟩ = some (.map (some mb)) ∧ W.cell? ⟨w.heap.size, 0, none⟩ = some (.string ⟨#[84, 106]⟩) ∧ (Instr.lookup 72 (.map (some mb)) (.string ⟨#[84, 106]⟩) true).run Tryz.prog W = .ok (.tuple #[.nilFunc, .bool false]) W from fun W hW => ⟨hW, HC1.out _ (P0.out.later hW), (A0.out.later hW).cell 0, HK.out _ (P0.out.later hW)⟩)
  go_region_held3 (fun (W : World) => Below W0.heap.size W0 W ∧ W.cell? ⟨K.P, 1, none⟩ = some (.map (some mb)) ∧ W.cell? ⟨w.heap.size, 0, none⟩ = some (.string ⟨#[84, 106]⟩) ∧ (Instr.lookup 72 (.map (some mb)) (.string ⟨#[84, 106]⟩) true).run Tryz.prog W = .ok (.tuple #[.nilFunc, .bool false]) W)
    (first | with_reducible exact H0.out _ (Below.refl _ _) | with_reducible exact H0.out _ (Below.refl _ _).drew)
    (first | fail)
  all_goals
    have q0 := A0.out.cell 0
    have q1 := A0.out.cell 1
    simp at q0 q1
    have zP := P0.out.at_.lt
    go_wp2_with (go_at_call 50; refine (C.out _ (by first | with_reducible exact P0.out.drew | with_reducible exact P0.out | exact P0.out.later (by go_grown))).mono ?_; intro e w3 h; obtain ⟨v, rfl⟩ := h.ret)
    go_ret
    exact h
set_option maxHeartbeats 4000000 in
theorem step_quote (K : Pk) (sg : FnC → ByteArray → Ex (List Sp)) (ff : ByteArray → Option FnC) (p : PS) (tS tG : Value) (d : Nat) (A : List V) (t : Value) (w : World) (hP : PAt K w p tS tG) (hA : ArgsAt d K.w0 t A) (hk : okA A) (hx : PsOk K sg p) (hF : FontsAt K ff) (hS : SetAt K) :
    Calls Tryz.prog 24 #[.pointer (some ⟨K.P, 0, none⟩), .agg #[.string ⟨#[39]⟩, t]] w fun e w' => PRes K e w' (nxtX sg p A) := by
  have hu := (And.intro hk (And.intro hx hF))
  clear hu
  obtain ⟨a, c, rfl, hl, hA2⟩ := id hA
  clear hA2
  obtain ⟨Pp, mb, hsm, hpB, hpP, hV, hLk⟩ := set_look (p := p) (tS := tS) (tG := tG) hS
  have HK := hid (show ∀ W, PAt K W p tS tG → (Instr.lookup 72 (.map (some mb)) (.string ⟨#[39]⟩) true).run Tryz.prog W = .ok (.tuple #[.nilFunc, .bool false]) W from fun W h => by
    obtain ⟨v, hlk, hv⟩ := hLk W h ⟨#[39]⟩ (by unfold maxLen; decide)
    have hn := setD_none Pp (⟨#[39]⟩ : ByteArray).data.toList (by decide) (by decide) (by decide) (by decide) (by decide)
    rw [atKey_of_not_has hn] at hv
    rw [hn] at hlk
    injection hv with hv
    subst hv
    exact hlk)
  have C := hid (fun W (h : PAt K W p tS tG) => (showNext_says K sg p tS tG d A _ W h hA hk hx.out hx.sig : Calls Tryz.prog _ _ W _))
  have hc1 : ∀ W, PAt K W p tS tG → W.cell? ⟨K.P, 1, none⟩ = some (.map (some mb)) := fun W h => by have := h.c 1; simp at this; rw [hsm] at this; exact this
  have HC1 := hid hc1
  have P0 := hid (hP.alloc (.cells #[.string ⟨#[39]⟩, .slice a A.length c] 41))
  have A0 := hid (At.new w #[.string ⟨#[39]⟩, .slice a A.length c] 41 rfl)
  clear hP hA hk hx hF hS hLk hV hpB hpP hsm hc1
  go_enter Tryz.func24, Tryz.ntmps24
  go_wp2_with fail
  generalize w.alloc (.cells #[.string ⟨#[39]⟩, .slice a A.length c] 41) = W0 at P0 A0 ⊢
  have H0 := hid (show ∀ W, Below W0.heap.size W0 W → Below W0.heap.size W0 W ∧ W.cell? ⟨K.P, 1, none⟩ = some (.map (some mb)) ∧ W.cell? ⟨w.heap.size, 0, none⟩ = some (.string ⟨#[39]⟩) ∧ (Instr.lookup 72 (.map (some mb)) (.string ⟨#[39]⟩) true).run Tryz.prog W = .ok (.tuple #[.nilFunc, .bool false]) W from fun W hW => ⟨hW, HC1.out _ (P0.out.later hW), (A0.out.later hW).cell 0, HK.out _ (P0.out.later hW)⟩)
  go_region_held3 (fun (W : World) => Below W0.heap.size W0 W ∧ W.cell? ⟨K.P, 1, none⟩ = some (.map (some mb)) ∧ W.cell? ⟨w.heap.size, 0, none⟩ = some (.string ⟨#[39]⟩) ∧ (Instr.lookup 72 (.map (some mb)) (.string ⟨#[39]⟩) true).run Tryz.prog W = .ok (.tuple #[.nilFunc, .bool false]) W)
    (first | with_reducible exact H0.out _ (Below.refl _ _) | with_reducible exact H0.out _ (Below.refl _ _).drew)
    (first | fail)
  all_goals
    have q0 := A0.out.cell 0
    have q1 := A0.out.cell 1
    simp at q0 q1
    have zP := P0.out.at_.lt
    go_wp2_with (go_at_call 51; refine (C.out _ (by first | with_reducible exact P0.out.drew | with_reducible exact P0.out | exact P0.out.later (by go_grown))).mono ?_; intro e w3 h; obtain ⟨v, rfl⟩ := h.ret)
    go_ret
    exact h
set_option maxHeartbeats 4000000 in
theorem step_TJ (K : Pk) (sg : FnC → ByteArray → Ex (List Sp)) (ff : ByteArray → Option FnC) (p : PS) (tS tG : Value) (d : Nat) (A : List V) (t : Value) (w : World) (hP : PAt K w p tS tG) (hA : ArgsAt d K.w0 t A) (hk : okA A) (hx : PsOk K sg p) (hF : FontsAt K ff) (hS : SetAt K) :
    Calls Tryz.prog 24 #[.pointer (some ⟨K.P, 0, none⟩), .agg #[.string ⟨#[84, 74]⟩, t]] w fun e w' => PRes K e w' (lstX sg p A) := by
  have hu := (And.intro hk (And.intro hx hF))
  clear hu
  obtain ⟨a, c, rfl, hl, hA2⟩ := id hA
  clear hA2
  obtain ⟨Pp, mb, hsm, hpB, hpP, hV, hLk⟩ := set_look (p := p) (tS := tS) (tG := tG) hS
  have HK := hid (show ∀ W, PAt K W p tS tG → (Instr.lookup 72 (.map (some mb)) (.string ⟨#[84, 74]⟩) true).run Tryz.prog W = .ok (.tuple #[.nilFunc, .bool false]) W from fun W h => by
    obtain ⟨v, hlk, hv⟩ := hLk W h ⟨#[84, 74]⟩ (by unfold maxLen; decide)
    have hn := setD_none Pp (⟨#[84, 74]⟩ : ByteArray).data.toList (by decide) (by decide) (by decide) (by decide) (by decide)
    rw [atKey_of_not_has hn] at hv
    rw [hn] at hlk
    injection hv with hv
    subst hv
    exact hlk)
  have C := hid (fun W (h : PAt K W p tS tG) => (showList_says K sg p tS tG d A _ W h hA hk hx.out hx.sig : Calls Tryz.prog _ _ W _))
  have hc1 : ∀ W, PAt K W p tS tG → W.cell? ⟨K.P, 1, none⟩ = some (.map (some mb)) := fun W h => by have := h.c 1; simp at this; rw [hsm] at this; exact this
  have HC1 := hid hc1
  have P0 := hid (hP.alloc (.cells #[.string ⟨#[84, 74]⟩, .slice a A.length c] 41))
  have A0 := hid (At.new w #[.string ⟨#[84, 74]⟩, .slice a A.length c] 41 rfl)
  clear hP hA hk hx hF hS hLk hV hpB hpP hsm hc1
  go_enter Tryz.func24, Tryz.ntmps24
  go_wp2_with fail
  generalize w.alloc (.cells #[.string ⟨#[84, 74]⟩, .slice a A.length c] 41) = W0 at P0 A0 ⊢
  have H0 := hid (show ∀ W, Below W0.heap.size W0 W → Below W0.heap.size W0 W ∧ W.cell? ⟨K.P, 1, none⟩ = some (.map (some mb)) ∧ W.cell? ⟨w.heap.size, 0, none⟩ = some (.string ⟨#[84, 74]⟩) ∧ (Instr.lookup 72 (.map (some mb)) (.string ⟨#[84, 74]⟩) true).run Tryz.prog W = .ok (.tuple #[.nilFunc, .bool false]) W from fun W hW => ⟨hW, HC1.out _ (P0.out.later hW), (A0.out.later hW).cell 0, HK.out _ (P0.out.later hW)⟩)
  go_region_held3 (fun (W : World) => Below W0.heap.size W0 W ∧ W.cell? ⟨K.P, 1, none⟩ = some (.map (some mb)) ∧ W.cell? ⟨w.heap.size, 0, none⟩ = some (.string ⟨#[84, 74]⟩) ∧ (Instr.lookup 72 (.map (some mb)) (.string ⟨#[84, 74]⟩) true).run Tryz.prog W = .ok (.tuple #[.nilFunc, .bool false]) W)
    (first | with_reducible exact H0.out _ (Below.refl _ _) | with_reducible exact H0.out _ (Below.refl _ _).drew)
    (first | fail)
  all_goals
    have q0 := A0.out.cell 0
    have q1 := A0.out.cell 1
    simp at q0 q1
    have zP := P0.out.at_.lt
    go_wp2_with (go_at_call 52; refine (C.out _ (by first | with_reducible exact P0.out.drew | with_reducible exact P0.out | exact P0.out.later (by go_grown))).mono ?_; intro e w3 h; obtain ⟨v, rfl⟩ := h.ret)
    go_ret
    exact h
set_option maxHeartbeats 4000000 in
theorem step_other (K : Pk) (sg : FnC → ByteArray → Ex (List Sp)) (ff : ByteArray → Option FnC) (p : PS) (tS tG : Value) (d : Nat) (A : List V) (t : Value) (w : World) (hP : PAt K w p tS tG) (hA : ArgsAt d K.w0 t A) (hk : okA A) (hx : PsOk K sg p) (hF : FontsAt K ff) (hS : SetAt K) (s : ByteArray) (hs : s.size ≤ maxLen) (h0 : s.data.toList ≠ [84, 99]) (h1 : s.data.toList ≠ [84, 119]) (h2 : s.data.toList ≠ [84, 122]) (h3 : s.data.toList ≠ [84, 76]) (h4 : s.data.toList ≠ [84, 115]) (g0 : s ≠ ⟨#[113]⟩) (g1 : s ≠ ⟨#[81]⟩) (g2 : s ≠ ⟨#[99, 109]⟩) (g3 : s ≠ ⟨#[66, 84]⟩) (g4 : s ≠ ⟨#[69, 84]⟩) (g5 : s ≠ ⟨#[84, 102]⟩) (g6 : s ≠ ⟨#[84, 100]⟩) (g7 : s ≠ ⟨#[84, 68]⟩) (g8 : s ≠ ⟨#[84, 109]⟩) (g9 : s ≠ ⟨#[84, 42]⟩) (g10 : s ≠ ⟨#[84, 106]⟩) (g11 : s ≠ ⟨#[39]⟩) (g12 : s ≠ ⟨#[84, 74]⟩) :
    Calls Tryz.prog 24 #[.pointer (some ⟨K.P, 0, none⟩), .agg #[.string s, t]] w fun e w' => PRes K e w' (.ok p) := by
  have e0 : (s.toList == [113]) = false := ne_litY g0
  have e1 : (s.toList == [81]) = false := ne_litY g1
  have e2 : (s.toList == [99, 109]) = false := ne_litY g2
  have e3 : (s.toList == [66, 84]) = false := ne_litY g3
  have e4 : (s.toList == [69, 84]) = false := ne_litY g4
  have e5 : (s.toList == [84, 102]) = false := ne_litY g5
  have e6 : (s.toList == [84, 100]) = false := ne_litY g6
  have e7 : (s.toList == [84, 68]) = false := ne_litY g7
  have e8 : (s.toList == [84, 109]) = false := ne_litY g8
  have e9 : (s.toList == [84, 42]) = false := ne_litY g9
  have e10 : (s.toList == [84, 106]) = false := ne_litY g10
  have e11 : (s.toList == [39]) = false := ne_litY g11
  have e12 : (s.toList == [84, 74]) = false := ne_litY g12
  have hu := (And.intro hk (And.intro hx hF))
  clear hu
  obtain ⟨a, c, rfl, hl, hA2⟩ := id hA
  clear hA2
  obtain ⟨Pp, mb, hsm, hpB, hpP, hV, hLk⟩ := set_look (p := p) (tS := tS) (tG := tG) hS
  have HK := hid (show ∀ W, PAt K W p tS tG → (Instr.lookup 72 (.map (some mb)) (.string s) true).run Tryz.prog W = .ok (.tuple #[.nilFunc, .bool false]) W from fun W h => by
    obtain ⟨v, hlk, hv⟩ := hLk W h s hs
    have hn := setD_none Pp (s : ByteArray).data.toList h0 h1 h2 h3 h4
    rw [atKey_of_not_has hn] at hv
    rw [hn] at hlk
    injection hv with hv
    subst hv
    exact hlk)
  have C := hid (fun W (h : PAt K W p tS tG) => (nextLine_says K p tS tG A a c W h hl : Calls Tryz.prog _ _ W _))
  have hc1 : ∀ W, PAt K W p tS tG → W.cell? ⟨K.P, 1, none⟩ = some (.map (some mb)) := fun W h => by have := h.c 1; simp at this; rw [hsm] at this; exact this
  have HC1 := hid hc1
  have P0 := hid (hP.alloc (.cells #[.string s, .slice a A.length c] 41))
  have A0 := hid (At.new w #[.string s, .slice a A.length c] 41 rfl)
  clear hP hA hk hx hF hS hLk hV hpB hpP hsm hc1 h0 h1 h2 h3 h4
  go_enter Tryz.func24, Tryz.ntmps24
  go_wp2_with fail
  generalize w.alloc (.cells #[.string s, .slice a A.length c] 41) = W0 at P0 A0 ⊢
  have H0 := hid (show ∀ W, Below W0.heap.size W0 W → Below W0.heap.size W0 W ∧ W.cell? ⟨K.P, 1, none⟩ = some (.map (some mb)) ∧ W.cell? ⟨w.heap.size, 0, none⟩ = some (.string s) ∧ (Instr.lookup 72 (.map (some mb)) (.string s) true).run Tryz.prog W = .ok (.tuple #[.nilFunc, .bool false]) W from fun W hW => ⟨hW, HC1.out _ (P0.out.later hW), (A0.out.later hW).cell 0, HK.out _ (P0.out.later hW)⟩)
  go_region_held3 (fun (W : World) => Below W0.heap.size W0 W ∧ W.cell? ⟨K.P, 1, none⟩ = some (.map (some mb)) ∧ W.cell? ⟨w.heap.size, 0, none⟩ = some (.string s) ∧ (Instr.lookup 72 (.map (some mb)) (.string s) true).run Tryz.prog W = .ok (.tuple #[.nilFunc, .bool false]) W)
    (first | with_reducible exact H0.out _ (Below.refl _ _) | with_reducible exact H0.out _ (Below.refl _ _).drew)
    (first | fail)
  all_goals
    have q0 := A0.out.cell 0
    have q1 := A0.out.cell 1
    simp at q0 q1
    have zP := P0.out.at_.lt
    go_wp2_with fail
    go_ret
    first | exact PRes.done rfl P0.out.drew | exact PRes.done rfl P0.out | exact PRes.done rfl (P0.out.later (by go_grown))
end Go.Proofs.YtobpidmlgldnmaaGreatDoor

/-
  A painter: all steps; a page.
-/
namespace Go.Proofs.YtobpidmlgldnmaaGreatDoor
open Go.RowKit
set_option maxRecDepth 100000

section
variable (sg : FnC → ByteArray → Ex (List Sp)) (ff : ByteArray → Option FnC)
/-- What an operator does. -/
noncomputable def stepX (p : PS) (s : ByteArray) (A : List V) : Ex PS := open Classical in
  if s = ⟨#[84, 99]⟩ then set1X p A else
  if s = ⟨#[84, 119]⟩ then set2X p A else
  if s = ⟨#[84, 122]⟩ then set3X p A else
  if s = ⟨#[84, 76]⟩ then set4X p A else
  if s = ⟨#[84, 115]⟩ then set5X p A else
  if s = ⟨#[113]⟩ then saveX p A else
  if s = ⟨#[81]⟩ then takeX p A else
  if s = ⟨#[99, 109]⟩ then pageX p A else
  if s = ⟨#[66, 84]⟩ then turnX p true A else
  if s = ⟨#[69, 84]⟩ then turnX p false A else
  if s = ⟨#[84, 102]⟩ then chooseX ff p A else
  if s = ⟨#[84, 100]⟩ then moveX p A else
  if s = ⟨#[84, 68]⟩ then leadX p A else
  if s = ⟨#[84, 109]⟩ then putX p A else
  if s = ⟨#[84, 42]⟩ then nextX p A else
  if s = ⟨#[84, 106]⟩ then strX sg p A else
  if s = ⟨#[39]⟩ then nxtX sg p A else
  if s = ⟨#[84, 74]⟩ then lstX sg p A else
  .ok p
noncomputable def stepsX : PS → List OpP → Ex PS
  | p, [] => .ok p
  | p, o :: L => (stepX sg ff p o.1 o.2).bind fun p => stepsX p L
noncomputable def pageR (L : List OpP) : Ex PS := if 2000 < L.length then .error 2 else stepsX sg ff ps0 L
end
theorem ba_list {s : ByteArray} {l : List UInt8} (h : s ≠ ⟨l.toArray⟩) : s.data.toList ≠ l := by
  intro e; apply h; subst e; rfl
theorem step_says (K : Pk) (sg : FnC → ByteArray → Ex (List Sp)) (ff : ByteArray → Option FnC) (p : PS) (tS tG : Value) (d : Nat) (s : ByteArray) (A : List V) (t : Value) (w : World) (hs : s.size ≤ maxLen) (hP : PAt K w p tS tG) (hA : ArgsAt d K.w0 t A) (hk : okA A) (hx : PsOk K sg p) (hF : FontsAt K ff) (hS : SetAt K) :
    Calls Tryz.prog 24 #[.pointer (some ⟨K.P, 0, none⟩), .agg #[.string s, t]] w fun e w' => PRes K e w' (stepX sg ff p s A) := by
  unfold stepX
  by_cases h0 : s = ⟨#[84, 99]⟩
  · rw [if_pos h0]
    subst h0
    exact step_Tc K sg ff p tS tG d A t w hP hA hk hx hF hS
  rw [if_neg h0]
  by_cases h1 : s = ⟨#[84, 119]⟩
  · rw [if_pos h1]
    subst h1
    exact step_Tw K sg ff p tS tG d A t w hP hA hk hx hF hS
  rw [if_neg h1]
  by_cases h2 : s = ⟨#[84, 122]⟩
  · rw [if_pos h2]
    subst h2
    exact step_Tz K sg ff p tS tG d A t w hP hA hk hx hF hS
  rw [if_neg h2]
  by_cases h3 : s = ⟨#[84, 76]⟩
  · rw [if_pos h3]
    subst h3
    exact step_TL K sg ff p tS tG d A t w hP hA hk hx hF hS
  rw [if_neg h3]
  by_cases h4 : s = ⟨#[84, 115]⟩
  · rw [if_pos h4]
    subst h4
    exact step_Ts K sg ff p tS tG d A t w hP hA hk hx hF hS
  rw [if_neg h4]
  by_cases h5 : s = ⟨#[113]⟩
  · rw [if_pos h5]
    subst h5
    exact step_save K sg ff p tS tG d A t w hP hA hk hx hF hS
  rw [if_neg h5]
  by_cases h6 : s = ⟨#[81]⟩
  · rw [if_pos h6]
    subst h6
    exact step_back K sg ff p tS tG d A t w hP hA hk hx hF hS
  rw [if_neg h6]
  by_cases h7 : s = ⟨#[99, 109]⟩
  · rw [if_pos h7]
    subst h7
    exact step_cm K sg ff p tS tG d A t w hP hA hk hx hF hS
  rw [if_neg h7]
  by_cases h8 : s = ⟨#[66, 84]⟩
  · rw [if_pos h8]
    subst h8
    exact step_BT K sg ff p tS tG d A t w hP hA hk hx hF hS
  rw [if_neg h8]
  by_cases h9 : s = ⟨#[69, 84]⟩
  · rw [if_pos h9]
    subst h9
    exact step_ET K sg ff p tS tG d A t w hP hA hk hx hF hS
  rw [if_neg h9]
  by_cases h10 : s = ⟨#[84, 102]⟩
  · rw [if_pos h10]
    subst h10
    exact step_Tf K sg ff p tS tG d A t w hP hA hk hx hF hS
  rw [if_neg h10]
  by_cases h11 : s = ⟨#[84, 100]⟩
  · rw [if_pos h11]
    subst h11
    exact step_Td K sg ff p tS tG d A t w hP hA hk hx hF hS
  rw [if_neg h11]
  by_cases h12 : s = ⟨#[84, 68]⟩
  · rw [if_pos h12]
    subst h12
    exact step_TD K sg ff p tS tG d A t w hP hA hk hx hF hS
  rw [if_neg h12]
  by_cases h13 : s = ⟨#[84, 109]⟩
  · rw [if_pos h13]
    subst h13
    exact step_Tm K sg ff p tS tG d A t w hP hA hk hx hF hS
  rw [if_neg h13]
  by_cases h14 : s = ⟨#[84, 42]⟩
  · rw [if_pos h14]
    subst h14
    exact step_Tstar K sg ff p tS tG d A t w hP hA hk hx hF hS
  rw [if_neg h14]
  by_cases h15 : s = ⟨#[84, 106]⟩
  · rw [if_pos h15]
    subst h15
    exact step_Tj K sg ff p tS tG d A t w hP hA hk hx hF hS
  rw [if_neg h15]
  by_cases h16 : s = ⟨#[39]⟩
  · rw [if_pos h16]
    subst h16
    exact step_quote K sg ff p tS tG d A t w hP hA hk hx hF hS
  rw [if_neg h16]
  by_cases h17 : s = ⟨#[84, 74]⟩
  · rw [if_pos h17]
    subst h17
    exact step_TJ K sg ff p tS tG d A t w hP hA hk hx hF hS
  rw [if_neg h17]
  exact step_other K sg ff p tS tG d A t w hP hA hk hx hF hS s hs (ba_list h0) (ba_list h1) (ba_list h2) (ba_list h3) (ba_list h4) h5 h6 h7 h8 h9 h10 h11 h12 h13 h14 h15 h16 h17
/-- What most steps leave as it is. -/
structure Same (p q : PS) : Prop where
  x : q.now.x = p.now.x
  has : q.now.has = p.now.has
  saved : q.saved = p.saved
  out : p.out.length ≤ 1000 → q.out.length ≤ 1000
theorem PsOk.same {K : Pk} {sg : FnC → ByteArray → Ex (List Sp)} {p q : PS} (h : PsOk K sg p) (k : Same p q) : PsOk K sg q :=
  ⟨by rw [k.x]; exact h.one, by rw [k.saved]; exact h.ones, k.out h.out, fun e => by rw [k.x]; exact h.sig (by rw [← k.has]; exact e), by rw [k.saved]; exact h.sigs⟩
theorem line_same {p q : PS} {x y : Int} (h : lineX p x y = .ok q) : q.now = p.now ∧ q.saved = p.saved ∧ q.out = p.out ∧ q.inn = p.inn := by
  unfold lineX at h
  obtain ⟨m, _, h⟩ := bindX h
  injection h with h
  rw [← h]; exact ⟨rfl, rfl, rfl, rfl⟩
theorem Same.line {p q : PS} {x y : Int} (h : lineX p x y = .ok q) : Same p q := by
  obtain ⟨h1, h2, h3, _⟩ := line_same h
  exact ⟨by rw [h1], by rw [h1], h2, by rw [h3]; exact fun h => h⟩
theorem Same.trans {p q r : PS} (h : Same p q) (k : Same q r) : Same p r := ⟨k.x.trans h.x, k.has.trans h.has, k.saved.trans h.saved, fun e => k.out (h.out e)⟩
theorem Same.refl (p : PS) : Same p p := ⟨rfl, rfl, rfl, fun h => h⟩
theorem Same.back {p q : PS} {n : Int} (h : bckX p n = .ok q) : Same p q := by
  unfold bckX at h
  obtain ⟨_, _, h⟩ := bindX h
  obtain ⟨_, _, h⟩ := bindX h
  obtain ⟨_, _, h⟩ := bindX (by unfold textX at h; exact h)
  injection h with h
  rw [← h]; exact ⟨rfl, rfl, rfl, fun h => h⟩
theorem Same.show {sg : FnC → ByteArray → Ex (List Sp)} {p q : PS} {s : ByteArray} (h : showX sg p s = .ok q) : Same p q := by
  obtain ⟨h1, h2, h3, h4⟩ := show_same h
  exact ⟨by rw [h1], by rw [h1], h3, fun e => show_out e h⟩
theorem Same.prt {sg : FnC → ByteArray → Ex (List Sp)} {p q : PS} {v : V} (h : prtX sg p v = .ok q) : Same p q := by
  unfold prtX at h
  split at h
  · exact Same.show h
  · split at h
    · exact Same.back h
    · cases h
theorem Same.prts {sg : FnC → ByteArray → Ex (List Sp)} : ∀ (l : List V) {p q : PS}, prtsX sg p l = .ok q → Same p q
  | [], p, q, h => by injection h with h; rw [← h]; exact Same.refl _
  | v :: l, p, q, h => by
    unfold prtsX at h
    obtain ⟨r, h1, h2⟩ := bindX h
    exact (Same.prt h1).trans (Same.prts l h2)
theorem Same.set1 {p q : PS} {A : List V} (h : set1X p A = .ok q) : Same p q := by
  unfold set1X at h
  split at h
  · injection h with h
    rw [← h]; exact ⟨rfl, rfl, rfl, fun h => h⟩
  · cases h
  · cases h
theorem Same.set2 {p q : PS} {A : List V} (h : set2X p A = .ok q) : Same p q := by
  unfold set2X at h
  split at h
  · injection h with h
    rw [← h]; exact ⟨rfl, rfl, rfl, fun h => h⟩
  · cases h
  · cases h
theorem Same.set3 {p q : PS} {A : List V} (h : set3X p A = .ok q) : Same p q := by
  unfold set3X at h
  split at h
  · injection h with h
    rw [← h]; exact ⟨rfl, rfl, rfl, fun h => h⟩
  · cases h
  · cases h
theorem Same.set4 {p q : PS} {A : List V} (h : set4X p A = .ok q) : Same p q := by
  unfold set4X at h
  split at h
  · injection h with h
    rw [← h]; exact ⟨rfl, rfl, rfl, fun h => h⟩
  · cases h
  · cases h
theorem Same.set5 {p q : PS} {A : List V} (h : set5X p A = .ok q) : Same p q := by
  unfold set5X at h
  split at h
  · injection h with h
    rw [← h]; exact ⟨rfl, rfl, rfl, fun h => h⟩
  · cases h
  · cases h
theorem PsOk.step {K : Pk} {sg : FnC → ByteArray → Ex (List Sp)} {ff : ByteArray → Option FnC} {p q : PS} {s : ByteArray} {A : List V} (h : PsOk K sg p) (hf : ∀ s x, ff s = some x → SigOk K sg x) (hq : stepX sg ff p s A = .ok q) : PsOk K sg q := by
  unfold stepX at hq
  by_cases h0 : s = ⟨#[84, 99]⟩
  · rw [if_pos h0] at hq
    exact h.same (Same.set1 hq)
  rw [if_neg h0] at hq
  by_cases h1 : s = ⟨#[84, 119]⟩
  · rw [if_pos h1] at hq
    exact h.same (Same.set2 hq)
  rw [if_neg h1] at hq
  by_cases h2 : s = ⟨#[84, 122]⟩
  · rw [if_pos h2] at hq
    exact h.same (Same.set3 hq)
  rw [if_neg h2] at hq
  by_cases h3 : s = ⟨#[84, 76]⟩
  · rw [if_pos h3] at hq
    exact h.same (Same.set4 hq)
  rw [if_neg h3] at hq
  by_cases h4 : s = ⟨#[84, 115]⟩
  · rw [if_pos h4] at hq
    exact h.same (Same.set5 hq)
  rw [if_neg h4] at hq
  by_cases h5 : s = ⟨#[113]⟩
  · rw [if_pos h5] at hq
    unfold saveX at hq
    split at hq
    · cases hq
    · split at hq
      · injection hq with hq
        rw [← hq]
        exact ⟨h.one, fun s hs => by
          rcases List.mem_append.1 hs with hs | hs
          · exact h.ones s hs
          · simp at hs; rw [hs]; exact h.one, h.out, h.sig, fun s hs => by
          rcases List.mem_append.1 hs with hs | hs
          · exact h.sigs s hs
          · simp at hs; rw [hs]; exact h.sig⟩
      · cases hq
  rw [if_neg h5] at hq
  by_cases h6 : s = ⟨#[81]⟩
  · rw [if_pos h6] at hq
    unfold takeX at hq
    split at hq
    · cases hq
    · rename_i s' hs'
      split at hq
      · injection hq with hq
        rw [← hq]
        have hm : s' ∈ p.saved := List.mem_of_getLast? hs'
        exact ⟨h.ones s' hm, fun s hs => h.ones s ((List.dropLast_sublist _).subset hs), h.out, h.sigs s' hm, fun s hs => h.sigs s ((List.dropLast_sublist _).subset hs)⟩
      · cases hq
  rw [if_neg h6] at hq
  by_cases h7 : s = ⟨#[99, 109]⟩
  · rw [if_pos h7] at hq
    unfold pageX at hq
    obtain ⟨_, _, hq⟩ := bindX hq
    obtain ⟨_, _, hq⟩ := bindX hq
    injection hq with hq
    rw [← hq]
    exact h.same ⟨rfl, rfl, rfl, fun h => h⟩
  rw [if_neg h7] at hq
  by_cases h8 : s = ⟨#[66, 84]⟩
  · rw [if_pos h8] at hq
    unfold turnX at hq
    split at hq
    · cases hq
    · split at hq
      · injection hq with hq
        rw [← hq]
        exact h.same ⟨rfl, rfl, rfl, fun h => h⟩
      · cases hq
  rw [if_neg h8] at hq
  by_cases h9 : s = ⟨#[69, 84]⟩
  · rw [if_pos h9] at hq
    unfold turnX at hq
    split at hq
    · cases hq
    · split at hq
      · injection hq with hq
        rw [← hq]
        exact h.same ⟨rfl, rfl, rfl, fun h => h⟩
      · cases hq
  rw [if_neg h9] at hq
  by_cases h10 : s = ⟨#[84, 102]⟩
  · rw [if_pos h10] at hq
    unfold chooseX at hq
    split at hq
    · split at hq
      · split at hq
        · split at hq
          · rename_i x hx
            injection hq with hq
            rw [← hq]
            exact ⟨(hf _ _ hx).1.one, h.ones, h.out, fun _ => hf _ _ hx, h.sigs⟩
          · cases hq
        · cases hq
      · cases hq
    · cases hq
  rw [if_neg h10] at hq
  by_cases h11 : s = ⟨#[84, 100]⟩
  · rw [if_pos h11] at hq
    unfold moveX at hq
    obtain ⟨_, _, hq⟩ := bindX hq
    exact h.same (Same.line hq)
  rw [if_neg h11] at hq
  by_cases h12 : s = ⟨#[84, 68]⟩
  · rw [if_pos h12] at hq
    unfold leadX at hq
    obtain ⟨_, _, hq⟩ := bindX hq
    have k := Same.line hq
    exact h.same ⟨k.x, k.has, k.saved, k.out⟩
  rw [if_neg h12] at hq
  by_cases h13 : s = ⟨#[84, 109]⟩
  · rw [if_pos h13] at hq
    unfold putX at hq
    obtain ⟨_, _, hq⟩ := bindX hq
    injection hq with hq
    rw [← hq]
    exact h.same ⟨rfl, rfl, rfl, fun h => h⟩
  rw [if_neg h13] at hq
  by_cases h14 : s = ⟨#[84, 42]⟩
  · rw [if_pos h14] at hq
    unfold nextX at hq
    split at hq
    · exact h.same (Same.line hq)
    · cases hq
  rw [if_neg h14] at hq
  by_cases h15 : s = ⟨#[84, 106]⟩
  · rw [if_pos h15] at hq
    unfold strX at hq
    obtain ⟨_, _, hq⟩ := bindX hq
    exact h.same (Same.show hq)
  rw [if_neg h15] at hq
  by_cases h16 : s = ⟨#[39]⟩
  · rw [if_pos h16] at hq
    unfold nxtX at hq
    obtain ⟨_, _, hq⟩ := bindX hq
    obtain ⟨_, h1, hq⟩ := bindX hq
    unfold nextX at h1
    rw [if_pos (by rfl)] at h1
    exact h.same ((Same.line h1).trans (Same.show hq))
  rw [if_neg h16] at hq
  by_cases h17 : s = ⟨#[84, 74]⟩
  · rw [if_pos h17] at hq
    unfold lstX at hq
    obtain ⟨_, _, hq⟩ := bindX hq
    exact h.same (Same.prts _ hq)
  rw [if_neg h17] at hq
  injection hq with hq
  rw [← hq]; exact h
theorem steps_take {sg : FnC → ByteArray → Ex (List Sp)} {ff : ByteArray → Option FnC} : ∀ (l : List OpP) {p : PS} (j : Nat) {p' : PS} {g : OpP}, stepsX sg ff p (l.take j) = .ok p' → l[j]? = some g → stepsX sg ff p (l.take (j + 1)) = stepX sg ff p' g.1 g.2 := by
  intro l
  induction l with
  | nil => intro p j p' g _ h; simp at h
  | cons a l ih =>
    intro p j p' g h1 h2
    cases j with
    | zero =>
      simp [stepsX] at h1 h2
      subst h1; subst h2
      simp only [Nat.zero_add, List.take_succ_cons, List.take_zero, stepsX]
      cases stepX sg ff p a.1 a.2 <;> rfl
    | succ j =>
      simp only [List.take_succ_cons, stepsX] at h1 ⊢
      cases hs : stepX sg ff p a.1 a.2 with
      | error k => rw [hs] at h1; cases h1
      | ok q =>
        rw [hs] at h1
        exact ih j h1 (by simpa using h2)
theorem steps_err {sg : FnC → ByteArray → Ex (List Sp)} {ff : ByteArray → Option FnC} : ∀ (l : List OpP) {p : PS} (j : Nat) {k : Int}, stepsX sg ff p (l.take j) = .error k → stepsX sg ff p l = .error k := by
  intro l
  induction l with
  | nil => intro p j k h; simpa using h
  | cons a l ih =>
    intro p j k h
    cases j with
    | zero => simp [stepsX] at h
    | succ j =>
      simp only [List.take_succ_cons, stepsX] at h ⊢
      cases hs : stepX sg ff p a.1 a.2 with
      | error k => rw [hs] at h; exact h
      | ok q => rw [hs] at h; exact ih j h
theorem args_of {d : Nat} {w : World} {A : List V} {tA : Value} (h : RepN d w (listV5 A) (listC tA)) : ∃ d', ArgsAt d' w tA A := by
  obtain ⟨d', rfl⟩ := h.inv
  obtain ⟨al, af, cl, cf, hc, hs, hl, _⟩ := h
  unfold listC at hc
  injection hc with _ hc
  injection hc with _ hc
  injection hc with _ hc
  injection hc with hc _
  exact ⟨d', al, cl, hc, hs.2.1, fun i x hx => hl i x hx⟩
end Go.Proofs.YtobpidmlgldnmaaGreatDoor

/-
  A page is painted.
-/
namespace Go.Proofs.YtobpidmlgldnmaaGreatDoor
open Go.RowKit
set_option maxRecDepth 100000

def PgA (w : World) (e : Ending) (w' : World) (r : Ex PS) : Prop := match r with
  | .ok p => p.out.length ≤ 1000 ∧ ∃ tG B, e = .returned (.tuple #[tG, .nilIface]) ∧ w.heap.size ≤ B ∧ w'.ownsRow B 48 10 tG p.out.length (flatG p.out)
  | .error k => e = .returned (.tuple #[.slice none 0 0, .iface 68 (.int .i64 k)])
theorem ps0_ok (K : Pk) (sg : FnC → ByteArray → Ex (List Sp)) : PsOk K sg ps0 := by
  refine ⟨⟨rfl, rfl, rfl⟩, fun s hs => ?_, Nat.zero_le _, fun e => ?_, fun s hs => ?_⟩
  · simp [ps0] at hs
  · simp [ps0, st0] at e
  · simp [ps0] at hs
set_option maxHeartbeats 4000000 in
theorem page_many (d : Nat) (L : List OpP) (t : Value) (fb : Option Nat) (w : World) (hO : OpsN d w t L) (hl : 2000 < L.length) :
    Calls Tryz.prog 10 #[t, .map fb] w fun e w' => PgA w e w' (.error 2) ∧ Below w.heap.size w w' := by
  obtain ⟨a, c, rfl, hL, _⟩ := hO
  unfold maxLen at hL
  have h1 : (2000 : Int) < L.length := by omega
  go_enter Tryz.func10, Tryz.ntmps10
  go_wp2_with fail
  go_ret2
  exact ⟨rfl, Below.refl _ _⟩
set_option maxHeartbeats 4000000 in
theorem page_few (sg : FnC → ByteArray → Ex (List Sp)) (ff : ByteArray → Option FnC) (d : Nat) (L : List OpP) (t : Value) (fb : Option Nat) (w : World) (hO : OpsN d w t L) (hl : ¬ 2000 < L.length) (hk : ∀ o ∈ L, okA o.2) (hF : ∀ K : Pk, K.w0 = w → K.fm = .map fb → FontsAt K ff) (hsig : ∀ K : Pk, K.w0 = w → ∀ s x, ff s = some x → SigOk K sg x) :
    Calls Tryz.prog 10 #[t, .map fb] w fun e w' => PgA w e w' (stepsX sg ff ps0 L) ∧ Below w.heap.size w w' := by
  obtain ⟨a, c, rfl, hL, hR⟩ := hO
  unfold maxLen at hL
  have h1 : ¬ (2000 : Int) < L.length := by omega
  have HR := hid hR
  have HF := hid hF
  have HK := hid hk
  have HS := hid hsig
  clear hR hF hk hsig hl
  go_enter Tryz.func10, Tryz.ntmps10
  go_wp2_with (go_at_call 23; fail)
  go_at_call 23
  refine (newPainter_says fb _).mono ?_
  rintro e w1 ⟨K, rfl, rfl, hfm, hP, hSt⟩
  have HP := hid hP
  have HSt := hid hSt
  have HFM := hid hfm
  clear hP hSt hfm
  go_wp2_with fail
  go_loopw [18] (fun i wr => ∃ (j : Nat) (q : PS) (uS uG : Value), i = .int .i64 j ∧ j ≤ L.length ∧ stepsX sg ff ps0 (L.take j) = .ok q ∧ PsOk K sg q ∧ PAt K wr q uS uG) (fun i _ => L.length - (intOf i).toNat)
  case atStart => exact ⟨0, ps0, _, _, rfl, Nat.zero_le _, rfl, ps0_ok K sg, HP.out⟩
  case round =>
    obtain ⟨j, q, uS, uG, rfl, hj, hq, hqo, hPr⟩ := hrel
    have HQ := hid (And.intro hq (And.intro hqo hPr))
    have zr := hPr.at_.lt
    have c34 := hPr.c 34
    simp at c34
    clear hq hqo hPr
    by_cases hlt : j < L.length
    · have hlt' : (j : Int) < L.length := by omega
      obtain ⟨x, hx⟩ : ∃ x, L[j]? = some x := ⟨L[j], by simp [hlt]⟩
      have HG := hid hx
      obtain ⟨b, off, tA, rfl, hb, m0, m1, hsz, hr⟩ := HR.out j x hx
      obtain ⟨d', hA⟩ := args_of hr
      obtain ⟨a2, c2, htA, _⟩ := id hA
      have HA := hid hA
      have HZ := hid hsz
      have m0 := (HQ.out.2.2.keep.cell (p := ⟨b, off + j * 2, none⟩) hb).trans m0
      have m1 := (HQ.out.2.2.keep.cell (p := ⟨b, off + j * 2 + 1, none⟩) hb).trans m1
      have hb2 := Nat.lt_of_lt_of_le hb HQ.out.2.2.keep.size
      rw [htA] at m1 HA
      clear hx hr hA htA hsz hb c34
      go_wp2_with (go_at_call 24; fail)
      go_at_call 24
      refine (step_says K sg ff q uS uG d' x.1 x.2 _ _ HZ.out (HQ.out.2.2.alloc _) HA.out (HK.out x (List.mem_of_getElem? HG.out)) HQ.out.2.1 (HF.out K rfl HFM.out) HSt.out).mono ?_
      intro e w2 hm
      obtain ⟨r, hr⟩ : ∃ r, stepX sg ff q x.1 x.2 = r := ⟨_, rfl⟩
      rw [hr] at hm
      have HR2 := hid hr
      clear hr m0 m1
      cases r with
      | error k =>
        have HK2 := hid hm.2
        have he : e = .returned (.iface 68 (.int .i64 k)) := hm.1
        clear hm
        subst he
        go_wp2_with fail
        go_ret2
        rw [steps_err L (j + 1) ((steps_take L j HQ.out.1 HG.out).trans HR2.out)]
        exact ⟨rfl, HK2.out⟩
      | ok q2 =>
        obtain ⟨he, tS2, tG2, hP2⟩ := hm
        have HK2 := hid hP2
        clear hP2
        subst he
        go_wp2_with fail
        go_roundw
        case rel => exact ⟨j + 1, q2, tS2, tG2, by go_num, by omega, (steps_take L j HQ.out.1 HG.out).trans HR2.out, HQ.out.2.1.step (HS.out K rfl) HR2.out, HK2.out⟩
        case measure => simp [intOf]; omega
    · have hje : j = L.length := by omega
      subst hje
      obtain ⟨aG, cG, rfl⟩ := own_sliceO HQ.out.2.2.ownG
      go_wp2_with fail
      go_ret2
      have := HQ.out.1
      rw [List.take_length] at this
      rw [this]
      exact ⟨⟨HQ.out.2.1.out, _, K.B, rfl, by have := HQ.out.2.2.le; have := HQ.out.2.2.lt; omega, HQ.out.2.2.ownG⟩, HQ.out.2.2.keep⟩
/-- A page is painted. -/
theorem page_says (sg : FnC → ByteArray → Ex (List Sp)) (ff : ByteArray → Option FnC) (d : Nat) (L : List OpP) (t : Value) (fb : Option Nat) (w : World) (hO : OpsN d w t L) (hk : ∀ o ∈ L, okA o.2) (hF : ∀ K : Pk, K.w0 = w → K.fm = .map fb → FontsAt K ff) (hsig : ∀ K : Pk, K.w0 = w → ∀ s x, ff s = some x → SigOk K sg x) :
    Calls Tryz.prog 10 #[t, .map fb] w fun e w' => PgA w e w' (pageR sg ff L) ∧ Below w.heap.size w w' := by
  unfold pageR
  by_cases h : 2000 < L.length
  · rw [if_pos h]; exact page_many d L t fb w hO h
  · rw [if_neg h]; exact page_few sg ff d L t fb w hO h hk hF hsig
end Go.Proofs.YtobpidmlgldnmaaGreatDoor
