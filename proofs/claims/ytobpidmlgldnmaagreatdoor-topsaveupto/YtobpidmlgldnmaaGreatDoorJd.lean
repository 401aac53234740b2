/-
  Joined: Jb, Jc, Jd.
-/
import Derived.Test.YtobpidmlgldnmaaGreatDoorGf
import Derived.Test.YtobpidmlgldnmaaGreatDoorYy
import Derived.Test.YtobpidmlgldnmaaGreatDoorMb
import Derived.Test.YtobpidmlgldnmaaGreatDoorJa
import Derived.Test.YtobpidmlgldnmaaGreatDoorOc

/-
  A closed fact: operators of a page; fonts by names, and their signs.
-/
namespace Go.Proofs.YtobpidmlgldnmaaGreatDoor
open Go.RowKit Go.WideMaps Go.Maps
set_option maxRecDepth 100000

theorem stepR_valJ {s : ByteArray} {p : Nat} {O : List OpP} {A : List V} (h : opMay (wordP s p) = false) : stepR s p O A = if (pV s p).2.1 ≠ 0 then ((pV s p).2.1, p, O, A) else if A.length = 8 then (10, p, O, A) else (0, (pV s p).2.2, O, A ++ [(pV s p).1]) := by
  unfold stepR; rw [if_neg (by rw [h]; simp)]
theorem opsR_valJ {s : ByteArray} {n j p z : Nat} {O : List OpP} {A : List V} {v : V} (hp : skipP s j = p) (hne : p ≠ s.size) (hop : opMay (wordP s p) = false) (hv : pV s p = (v, 0, z)) (h8 : A.length ≠ 8) : opsR s (n + 1) j O A = opsR s n z O (A ++ [v]) := by
  have e : stepR s p O A = (0, z, O, A ++ [v]) := by
    rw [stepR_valJ hop, hv, if_neg (by simp), if_neg h8]
  rw [opsR, hp, if_neg hne, e, if_neg (by simp)]
theorem opsR_opJ {s W : ByteArray} {n j p z : Nat} {O : List OpP} {A : List V} (hp : skipP s j = p) (hne : p ≠ s.size) (hW : wordP s p = W) (hop : opMay W = true) (hz : p + W.size = z) (h2 : O.length ≠ 2000) : opsR s (n + 1) j O A = opsR s n z (O ++ [(W, A)]) [] := by
  have e : stepR s p O A = (0, z, O ++ [(W, A)], []) := by
    unfold stepR; rw [hW, if_pos hop, if_neg h2, hz]
  rw [opsR, hp, if_neg hne, e, if_neg (by simp)]
theorem opsR_endJ {s : ByteArray} {n j : Nat} {O : List OpP} (hp : skipP s j = s.size) : opsR s (n + 1) j O [] = (O, 0) := by
  rw [opsR, if_pos hp]; rfl
theorem pV_atJ {s : ByteArray} {k z : Nat} {v : V} (hs : s.size ≤ 60000) (hk : k ≤ s.size) (h : rdV s 8 k = (v, 0, z)) (hf : faultV v = 0) : pV s (k : Int) = (v, 0, z) := by
  unfold pV
  rw [if_neg (by omega), Int.toNat_natCast, h, if_neg (by simp), if_neg (by simp [hf])]
def qS : ByteArray := ⟨#[66, 84, 32, 47, 70, 32, 49, 48, 32, 84, 102, 32, 40, 97, 41, 32, 84, 106, 32, 69, 84]⟩
def qF : ByteArray := ⟨#[70]⟩
def qA : ByteArray := ⟨#[97]⟩
def nBT : ByteArray := ⟨#[66, 84]⟩
def nET : ByteArray := ⟨#[69, 84]⟩
def nTf : ByteArray := ⟨#[84, 102]⟩
def nTj : ByteArray := ⟨#[84, 106]⟩
theorem qv1 : faultV (V0 4 0 qF) = 0 := by
  refine fault_none (by rw [cnt_eq, dep_eq]; simp [V0, cntL, cntF, depL, depF]) ?_
  rw [shp_eq]
  exact ⟨.inr (.inr (.inr (.inr (.inl ⟨rfl, rfl, by decide, rfl, rfl⟩)))), by rw [shpL_iff]; simp [V0], by rw [shpF_iff]; simp [V0]⟩
theorem qv2 : faultV (V0 2 10000 eB) = 0 := by
  refine fault_none (by rw [cnt_eq, dep_eq]; simp [V0, cntL, cntF, depL, depF]) ?_
  rw [shp_eq]
  exact ⟨.inr (.inr (.inl ⟨rfl, rfl, rfl, rfl, rfl⟩)), by rw [shpL_iff]; simp [V0], by rw [shpF_iff]; simp [V0]⟩
theorem qv3 : faultV (V0 3 0 qA) = 0 := by
  refine fault_none (by rw [cnt_eq, dep_eq]; simp [V0, cntL, cntF, depL, depF]) ?_
  rw [shp_eq]
  exact ⟨.inr (.inr (.inr (.inl ⟨rfl, rfl, by decide, rfl, rfl⟩))), by rw [shpL_iff]; simp [V0], by rw [shpF_iff]; simp [V0]⟩
def qO : List OpP := [(nBT, []), (nTf, [V0 4 0 qF, V0 2 10000 eB]), (nTj, [V0 3 0 qA]), (nET, [])]
theorem page_fact : opsP qS = (qO, 0) := by
  unfold opsP
  rw [if_neg (by decide), show qS.size + 1 = 14 + 8 by decide]
  rw [opsR_opJ (p := 0) (z := 2) (W := nBT) (by kernel_rfl) (by decide) (by kernel_rfl) (by kernel_rfl) (by kernel_rfl) (by decide)]
  rw [opsR_valJ (p := 3) (z := 5) (v := V0 4 0 qF) (by kernel_rfl) (by decide) (by kernel_rfl) (pV_atJ (by decide) (by decide) (by kernel_rfl) qv1) (by decide)]
  rw [opsR_valJ (p := 6) (z := 8) (v := V0 2 10000 eB) (by kernel_rfl) (by decide) (by kernel_rfl) (pV_atJ (by decide) (by decide) (by kernel_rfl) qv2) (by decide)]
  rw [opsR_opJ (p := 9) (z := 11) (W := nTf) (by kernel_rfl) (by decide) (by kernel_rfl) (by kernel_rfl) (by kernel_rfl) (by decide)]
  rw [opsR_valJ (p := 12) (z := 15) (v := V0 3 0 qA) (by kernel_rfl) (by decide) (by kernel_rfl) (pV_atJ (by decide) (by decide) (by kernel_rfl) qv3) (by decide)]
  rw [opsR_opJ (p := 16) (z := 18) (W := nTj) (by kernel_rfl) (by decide) (by kernel_rfl) (by kernel_rfl) (by kernel_rfl) (by decide)]
  rw [opsR_opJ (p := 19) (z := 21) (W := nET) (by kernel_rfl) (by decide) (by kernel_rfl) (by kernel_rfl) (by kernel_rfl) (by decide)]
  rw [opsR_endJ (by kernel_rfl)]
  rfl
/-- Signs of a string in a font. -/
def sgR (F : Ft) (s : ByteArray) : Ex (List Sp) := if F.wide = true ∧ s.size % 2 = 1 then .error 4 else .ok (sgL F s.data.toList)
theorem cdL_le (wide : Bool) (l : List UInt8) : (cdL wide l).length ≤ l.length := by
  cases wide with
  | false => simp [cdL]
  | true => exact cdL_len l.length l (Nat.le_refl _)
theorem sgL_le (F : Ft) (l : List UInt8) : (sgL F l).length ≤ l.length := by unfold sgL; rw [List.length_map]; exact cdL_le _ _
theorem sig_of {K : Pk} {F : Ft} {i j : Option Nat} {al : Option Addr} {cap : Nat} (sg : FnC → ByteArray → Ex (List Sp)) (hsg : ∀ s, sg ⟨F.wide, .map i, F.miss, .map j, .slice al F.l.length cap⟩ s = sgR F s) (hF : FtAt K.w0 F (.map i) (.map j) al) (hT : Tb K.w0) (hf : spFault F.l F.wide = 0) : SigOk K sg ⟨F.wide, .map i, F.miss, .map j, .slice al F.l.length cap⟩ := by
  refine ⟨⟨_, _, _, _, _, rfl, rfl, rfl⟩, fun W s hW hs => ?_⟩
  refine (signs_ft F (.map i) (.map j) al cap s W hs (hF.later hW) (hT.below hW) hf).mono ?_
  rintro e w' ⟨v, er, rfl, h, hb⟩
  refine ⟨?_, hb⟩
  rw [hsg]
  unfold sgR
  have hl : s.data.toList.length = s.size := by simp
  rcases h with ⟨h1, ⟨m, h2⟩, rfl, rfl⟩ | ⟨h1, rfl, h2⟩
  · rw [if_pos ⟨h1, by omega⟩]; rfl
  · rw [if_neg (fun q => by
      rcases h1 with h1 | ⟨m, h1⟩
      · rw [h1] at q; exact absurd q.1 (by simp)
      · omega)]
    exact ⟨by have := sgL_le F s.data.toList; omega, v, rfl, h2⟩
def fnt0 : Value := .agg #[.bool false, .map none, .int .i64 0, .map none, .slice none 0 0]
theorem zeroFt (w : World) : (zeroValue 56).run Tryz.prog w = .ok fnt0 w := by kernel_rfl
/-- Fonts that a map has. -/
theorem fonts_at {K : Pk} {mb n : Nat} {D : DataW Value} (hfm : K.fm = .map (some mb)) (hO : K.w0.ownsMap Tryz.prog 9 heldR mb n D) (ff : ByteArray → Option FnC) (hff : ∀ s : ByteArray, (∃ x, ff s = some x ∧ x.shp ∧ Maps.has D (.string s.data.toList) = true ∧ D.atKey (.string s.data.toList) (.held fnt0) = .held x.v) ∨ (ff s = none ∧ Maps.has D (.string s.data.toList) = false)) : FontsAt K ff := by
  intro W hW s hs
  have hO2 := hO.kept (row := none) ⟨hW.os, hW.tape, hW.output, hW.size, fun k hk _ => hW.block k hk⟩ (by simp)
  obtain ⟨v, ps, hr, hv⟩ := hO2.look_ok lawS Tryz.underlying24 (zeroFt W) (zd := .held fnt0) (zp := []) rfl (keyOf_string_mk Tryz.underlying9 hs)
  unfold heldR at hv
  injection hv with hv
  injection hv with hv
  rw [hfm]
  rcases hff s with ⟨x, h1, h2, h3, h4⟩ | ⟨h1, h2⟩
  · rw [h4] at hv
    injection hv with hv
    rw [h3] at hr
    exact .inl ⟨x, h1, h2, by rw [hr, hv]⟩
  · rw [atKey_of_not_has h2] at hv
    injection hv with hv
    rw [h2] at hr
    exact .inr ⟨h1, by rw [hr, hv]; rfl⟩
/-- One font alone. -/
noncomputable def ffOne (n : ByteArray) (x : FnC) (s : ByteArray) : Option FnC := open Classical in if s = n then some x else none
theorem ba_ext {a b : ByteArray} (h : a.data.toList = b.data.toList) : a = b := by
  cases a; cases b; simp at h; rw [h]
theorem fonts_one {K : Pk} {mb m : Nat} (n : ByteArray) (x : FnC) (hx : x.shp) (hfm : K.fm = .map (some mb)) (hO : K.w0.ownsMap Tryz.prog 9 heldR mb m ((DataW.map []).put (.string n.data.toList) (.held x.v))) : FontsAt K (ffOne n x) := by
  refine fonts_at hfm hO _ (fun s => ?_)
  unfold ffOne
  by_cases h : s = n
  · subst h
    rw [if_pos rfl]
    exact .inl ⟨x, rfl, hx, has_put_same ⟨[], rfl⟩ (keyLit _) _, atKey_put_same ⟨[], rfl⟩ (keyLit _) _ _⟩
  · rw [if_neg h]
    refine .inr ⟨rfl, ?_⟩
    rw [has_put_other (fun e => h (ba_ext (by injection e)))]
    rfl
end Go.Proofs.YtobpidmlgldnmaaGreatDoor

/-
  A closed fact: a page is shown.
-/
namespace Go.Proofs.YtobpidmlgldnmaaGreatDoor
open Go.RowKit Go.WideMaps Go.Maps
set_option maxRecDepth 100000

theorem stepX_BT (sg : FnC → ByteArray → Ex (List Sp)) (ff : ByteArray → Option FnC) (p : PS) (A : List V) : stepX sg ff p ⟨#[66, 84]⟩ A = turnX p true A := by
  unfold stepX
  rw [if_neg (by decide), if_neg (by decide), if_neg (by decide), if_neg (by decide), if_neg (by decide), if_neg (by decide), if_neg (by decide), if_neg (by decide), if_pos rfl]
theorem stepX_ET (sg : FnC → ByteArray → Ex (List Sp)) (ff : ByteArray → Option FnC) (p : PS) (A : List V) : stepX sg ff p ⟨#[69, 84]⟩ A = turnX p false A := by
  unfold stepX
  rw [if_neg (by decide), if_neg (by decide), if_neg (by decide), if_neg (by decide), if_neg (by decide), if_neg (by decide), if_neg (by decide), if_neg (by decide), if_neg (by decide), if_pos rfl]
theorem stepX_Tf (sg : FnC → ByteArray → Ex (List Sp)) (ff : ByteArray → Option FnC) (p : PS) (A : List V) : stepX sg ff p ⟨#[84, 102]⟩ A = chooseX ff p A := by
  unfold stepX
  rw [if_neg (by decide), if_neg (by decide), if_neg (by decide), if_neg (by decide), if_neg (by decide), if_neg (by decide), if_neg (by decide), if_neg (by decide), if_neg (by decide), if_neg (by decide), if_pos rfl]
theorem stepX_Tj (sg : FnC → ByteArray → Ex (List Sp)) (ff : ByteArray → Option FnC) (p : PS) (A : List V) : stepX sg ff p ⟨#[84, 106]⟩ A = strX sg p A := by
  unfold stepX
  rw [if_neg (by decide), if_neg (by decide), if_neg (by decide), if_neg (by decide), if_neg (by decide), if_neg (by decide), if_neg (by decide), if_neg (by decide), if_neg (by decide), if_neg (by decide), if_neg (by decide), if_neg (by decide), if_neg (by decide), if_neg (by decide), if_neg (by decide), if_pos rfl]
theorem stepX_TJ (sg : FnC → ByteArray → Ex (List Sp)) (ff : ByteArray → Option FnC) (p : PS) (A : List V) : stepX sg ff p ⟨#[84, 74]⟩ A = lstX sg p A := by
  unfold stepX
  rw [if_neg (by decide), if_neg (by decide), if_neg (by decide), if_neg (by decide), if_neg (by decide), if_neg (by decide), if_neg (by decide), if_neg (by decide), if_neg (by decide), if_neg (by decide), if_neg (by decide), if_neg (by decide), if_neg (by decide), if_neg (by decide), if_neg (by decide), if_neg (by decide), if_neg (by decide), if_pos rfl]
def x500 : FnC := ⟨false, .map none, 500, .map none, .slice none 0 0⟩
def F500 : Ft := ⟨false, fun _ => none, 500, fun _ => none, []⟩
def sg500 (_ : FnC) (s : ByteArray) : Ex (List Sp) := sgR F500 s
def pA1 : PS := { ps0 with inn := true, t := unit6, l := unit6 }
def pA2 : PS := { pA1 with now := { pA1.now with x := x500, has := true, size := 10000 } }
def outN (r : Ex PS) : Nat := match r with
  | .ok q => q.out.length
  | .error _ => 99
theorem show_one : outN (signsX pA2 [⟨97, 500, ⟨#[97]⟩⟩]) = 1 := by decide
theorem page_plain : ∃ q, pageR sg500 (ffOne qF x500) qO = .ok q ∧ q.out.length = 1 := by
  have e1 : stepX sg500 (ffOne qF x500) ps0 nBT [] = .ok pA1 := by unfold nBT; rw [stepX_BT]; rfl
  have e2 : stepX sg500 (ffOne qF x500) pA1 nTf [V0 4 0 qF, V0 2 10000 eB] = .ok pA2 := by
    unfold nTf; rw [stepX_Tf]
    unfold chooseX
    simp only [V0, if_true]
    unfold ffOne
    rw [if_pos rfl]
    rfl
  have e3 : stepX sg500 (ffOne qF x500) pA2 nTj [V0 3 0 qA] = signsX pA2 [⟨97, 500, ⟨#[97]⟩⟩] := by
    unfold nTj; rw [stepX_Tj]
    rfl
  obtain ⟨q, hq⟩ : ∃ q, signsX pA2 [⟨97, 500, ⟨#[97]⟩⟩] = .ok q := by
    have := show_one
    cases h : signsX pA2 [⟨97, 500, ⟨#[97]⟩⟩] with
    | ok q => exact ⟨q, rfl⟩
    | error k => rw [h] at this; simp [outN] at this
  have h1 : q.out.length = 1 := by have := show_one; rw [hq] at this; exact this
  have h2 := signs_same _ hq
  have e4 : stepX sg500 (ffOne qF x500) q nET [] = .ok { q with inn := false, t := unit6, l := unit6 } := by
    unfold nET; rw [stepX_ET]
    unfold turnX
    rw [if_neg (by rw [h2.2.1]; decide), if_pos (show ([] : List V).length = 0 from rfl)]
  refine ⟨{ q with inn := false, t := unit6, l := unit6 }, ?_, h1⟩
  unfold pageR
  rw [if_neg (by decide)]
  unfold qO
  simp only [stepsX, e1, e2, e3, hq, e4, Except.bind]
theorem qO_ok : ∀ o ∈ qO, okA o.2 := by
  intro o ho
  unfold qO at ho
  simp only [List.mem_cons, List.not_mem_nil, or_false] at ho
  rcases ho with rfl | rfl | rfl | rfl <;> intro v hv <;> simp [V0] at hv
  · rcases hv with rfl | rfl
    · exact ⟨by decide, fun u hu => by simp at hu⟩
    · exact ⟨by decide, fun u hu => by simp at hu⟩
  · subst hv
    exact ⟨by decide, fun u hu => by simp at hu⟩
theorem ft500 (w : World) : FtAt w F500 (.map none) (.map none) none := by
  refine ⟨fun W _ c _ _ => ?_, fun W _ c _ _ => ?_, fun c n h => by simp [F500] at h, fun i x hx => by simp [F500] at hx, by simp [F500]⟩
  · kernel_rfl
  · kernel_rfl
set_option maxHeartbeats 4000000 in
theorem shows_nil (m : Int) (w : World) (hG : Gr m w) (hT : Tb w) : Calls Tryz.prog 7 #[.map none] w fun e w' => e = .returned (.bool true) ∧ Below w.heap.size w w' := by
  have hp := parseS m qS w hG (by decide)
  rw [page_fact] at hp
  unfold ParseSaid qS at hp
  simp only at hp
  rw [errN_0] at hp
  have hmm := @run_makeMap Tryz.prog
  go_enter Tryz.func7, Tryz.ntmps7
  go_wp2_with (go_at_call 20; go_must (refine hp.mono ?_); rintro e w1 ⟨t, rfl, hb1, HO⟩)
  have HT := hid hT
  have B1 := hid hb1
  clear hp hG hT hb1
  have o0 : (w1.alloc (.map #[] 0)).ownsMap Tryz.prog 9 heldR w1.heap.size 0 (.map []) := World.ownsMap_made _ _ _ _
  have b0 : Below w1.heap.size w1 (w1.alloc (.map #[] 0)) := (Below.refl _ _).alloc (Nat.le_refl _) _
  obtain ⟨v1, h1, o1, g1⟩ := o0.update lawS Tryz.underlying24 (by unfold maxLen; decide) (key := .string ⟨#[70]⟩) (keyOf_string_mk Tryz.underlying9 (by unfold maxLen; decide)) (val := x500.v) rfl
  have b1 := b0.grown g1 b0.size (fun j hj => by cases hj; exact Nat.le_refl _)
  have HO1 := hid o1
  have HB1 := hid b1
  have d0 := HO.out.later b1
  have HD := hid d0
  obtain ⟨a, c, rfl, _, _⟩ := d0
  unfold FnC.v x500 at h1
  clear o0 b0 o1 g1 b1 HO
  go_wp2_with (go_at_call 10; fail)
  go_at_call 10
  have hpg := page_says sg500 (ffOne qF x500) _ qO _ (some w1.heap.size) v1 HD.out qO_ok (fun K h hf => fonts_one qF x500 ⟨_, _, _, _, _, rfl, rfl, rfl⟩ hf (by rw [h]; exact HO1.out)) (fun K h s x hx => by
    unfold ffOne at hx
    split at hx
    · injection hx with hx
      rw [← hx]
      exact sig_of (F := F500) (i := none) (j := none) (al := none) (cap := 0) sg500 (fun s => rfl) (ft500 _) (by rw [h]; exact HT.out.below (chn0 B1.out HB1.out)) (by decide)
    · cases hx)
  obtain ⟨q, hq, hq1⟩ := page_plain
  rw [hq] at hpg
  refine hpg.mono ?_
  rintro e w2 ⟨⟨_, tG, B, rfl, _, hown⟩, hb2⟩
  obtain ⟨aG, cG, rfl⟩ := own_sliceO hown
  rw [hq1]
  have B2 := hid (chn0 (chn0 B1.out HB1.out) hb2)
  clear hown hb2 hpg hq hq1
  go_wp2_with fail
  go_ret
  exact ⟨rfl, B2.out⟩
end Go.Proofs.YtobpidmlgldnmaaGreatDoor

/-
  Fonts by names, as a law makes them.
-/
namespace Go.Proofs.YtobpidmlgldnmaaGreatDoor
open Go.RowKit Go.WideShapes Go.ChangeShapes Go.Deep Go.Joins Go.Maps
open Go.WideMaps Go.Maps
set_option maxRecDepth 100000
attribute [local go_sem ↓] Go.wp_at_zero Go.wp_at_succ

def WdIn (w : World) (mw : Value) : Prop := mw = .map none ∨ ∃ (H : Type) (b n : Nat) (D : DataW H), mw = .map (some b) ∧ w.ownsMap Tryz.prog 3 (plainElem Tryz.prog 3) b n D
theorem WdIn.later {w w' : World} {mw : Value} (h : WdIn w mw) (hB : Below w.heap.size w w') : WdIn w' mw := by
  rcases h with h | ⟨H, b, n, D, h, ho⟩
  · exact .inl h
  · exact .inr ⟨H, b, n, D, h, kept_below ho hB⟩
theorem FtIn.later {w w' : World} {F : Ft} {mw mn : Value} {al : Option Addr} (hF : FtIn w F mw mn al) (hB : Below w.heap.size w w') : FtIn w' F mw mn al :=
  ⟨hF.at_.later hB, by obtain ⟨k, hk⟩ := hF.wl; exact ⟨k, fun W' ty hW => hk W' ty (chn' hB hW)⟩, by obtain ⟨k, hk⟩ := hF.nl; exact ⟨k, fun W' ty hW => hk W' ty (chn' hB hW)⟩, by
    rcases hF.nr with h | ⟨H, b, n, D, h, ho⟩
    · exact .inl h
    · exact .inr ⟨H, b, n, D, h, kept_below ho hB⟩⟩
theorem open_font2 {H : Type} {enc : TypeId × Value → H} {W : World} {base : Nat} {v : Value} {d : DataW H} {p : List MemPlace}
    (hv : Value.okWide Tryz.prog W .any base 56 v) (h : DataW.Trod enc Tryz.prog W 0 (fun _ => true) true 56 v d p) :
    ∃ F mw mn al c, v = ftV F mw mn al c ∧ FtIn W F mw mn al ∧ WdIn W mw ∧ (∃ i, mw = .map i) ∧ (∃ j, mn = .map j) := by
  obtain ⟨cs, rfl, hsz⟩ := okWide_struct Tryz.underlying56 hv
  obtain ⟨c0, c1, c2, c3, c4, rfl⟩ := array5 (hsz.trans cellsFt)
  obtain ⟨fuel, hf⟩ := h
  obtain ⟨xs, n, _, _, hl, hlen, hx⟩ := DataW.trod_struct Tryz.underlying56 hf
  have hxl : xs.length = 5 := hlen
  obtain ⟨x0, x1, x2, x3, x4, rfl⟩ : ∃ x0 x1 x2 x3 x4, xs = [x0, x1, x2, x3, x4] := by
    match xs, hxl with
    | [x0, x1, x2, x3, x4], _ => exact ⟨x0, x1, x2, x3, x4, rfl⟩
  have g0 : DataW.trod enc Tryz.prog W 0 (fun _ => true) true n 4 [c0] = some x0 := hx 0 _ rfl
  have g1 : DataW.trod enc Tryz.prog W 0 (fun _ => true) true n 52 [c1] = some x1 := hx 1 _ rfl
  have g2 : DataW.trod enc Tryz.prog W 0 (fun _ => true) true n 3 [c2] = some x2 := hx 2 _ rfl
  have g3 : DataW.trod enc Tryz.prog W 0 (fun _ => true) true n 53 [c3] = some x3 := hx 3 _ rfl
  have g4 : DataW.trod enc Tryz.prog W 0 (fun _ => true) true n 54 [c4] = some x4 := hx 4 _ rfl
  obtain ⟨wide, e0, _⟩ := DataW.trod_bool Tryz.underlying4 g0
  obtain ⟨miss, e2, _, _⟩ := DataW.trod_int Tryz.underlying3 g2
  simp only [List.cons.injEq, and_true] at e0 e2
  subst e0 e2
  obtain ⟨al, l, c, rfl, hll, hSp⟩ := spans_cell g4
  have hW : ∃ wf : Int → Option Int, (∀ c : Int, 0 ≤ c → c ≤ 65535 → ∀ W', Below W.heap.size W W' → (Instr.lookup 52 c1 (.int .i64 c) true).run Tryz.prog W' = .ok (.tuple #[.int .i64 ((wf c).getD 0), .bool (wf c).isSome]) W') ∧ (∃ k : Nat, ∀ W' ty, Below W.heap.size W W' → (Builtin.len_ #[52] ty #[c1]).run Tryz.prog W' = .ok (.int .i64 (k : Int)) W') ∧ WdIn W c1 := by
    rcases WideElems.open_map Tryz.underlying52 g1 with ⟨e, _⟩ | ⟨b, es, clock, m, _, e, hb, _, Fi, _⟩
    · simp only [List.cons.injEq, and_true] at e
      subst e
      exact ⟨fun _ => none, fun c h0 h1 W' _ => by simpa using Maps.look_nil (w := W') true lawI Tryz.underlying52 (zeroI _) (keyI h0 h1), ⟨0, fun W' ty _ => Maps.len_nil Tryz.underlying52 ty⟩, .inl rfl⟩
    · simp only [List.cons.injEq, and_true] at e
      subst e
      have hown := World.ownsMap_of_fit (R := plainElem Tryz.prog 3) hb Fi (fun x _ z hz => elemAt_plainElem_int Tryz.underlying3 hz)
      obtain ⟨wf, hwf⟩ := Classical.axiomOfChoice (look_w hown)
      exact ⟨wf, hwf, ⟨_, fun W' ty hB => (kept_below hown hB).len Tryz.underlying52 ty⟩, .inr ⟨H, b, _, _, rfl, hown⟩⟩
  have hN : ∃ nf : Int → Option ByteArray, (∀ c s, nf c = some s → s.size ≤ maxLen) ∧ (∀ c : Int, 0 ≤ c → c ≤ 65535 → ∀ W', Below W.heap.size W W' → (Instr.lookup 53 c3 (.int .i64 c) true).run Tryz.prog W' = .ok (.tuple #[.string ((nf c).getD ⟨#[]⟩), .bool (nf c).isSome]) W') ∧ (∃ k : Nat, ∀ W' ty, Below W.heap.size W W' → (Builtin.len_ #[53] ty #[c3]).run Tryz.prog W' = .ok (.int .i64 (k : Int)) W') ∧
      (c3 = .map none ∨ ∃ (H : Type) (b n : Nat) (D : DataW H), c3 = .map (some b) ∧ W.ownsMap Tryz.prog 3 (plainElem Tryz.prog 9) b n D) := by
    rcases WideElems.open_map Tryz.underlying53 g3 with ⟨e, _⟩ | ⟨b, es, clock, m, _, e, hb, _, Fi, _⟩
    · simp only [List.cons.injEq, and_true] at e
      subst e
      exact ⟨fun _ => none, fun c s h => (by cases h), fun c h0 h1 W' _ => by simpa using Maps.look_nil (w := W') true lawI Tryz.underlying53 (zeroS _) (keyI h0 h1), ⟨0, fun W' ty _ => Maps.len_nil Tryz.underlying53 ty⟩, .inl rfl⟩
    · simp only [List.cons.injEq, and_true] at e
      subst e
      have hown := World.ownsMap_of_fit (R := plainElem Tryz.prog 9) hb Fi (fun x _ z hz => elemAt_plainElem_string Tryz.underlying9 hz)
      obtain ⟨nf, hnf⟩ := Classical.axiomOfChoice (look_n hown)
      exact ⟨nf, fun c => (hnf c).1, fun c => (hnf c).2, ⟨_, fun W' ty hB => (kept_below hown hB).len Tryz.underlying53 ty⟩, .inr ⟨H, b, _, _, rfl, hown⟩⟩
  obtain ⟨wf, hw1, hw2, hw3⟩ := hW
  have hi : ∃ i, c1 = .map i := by
    rcases hw3 with h | ⟨H, b, n, D, h, _⟩
    · exact ⟨_, h⟩
    · exact ⟨_, h⟩
  obtain ⟨nf, hn0, hn1, hn2, hn3⟩ := hN
  exact ⟨⟨wide, wf, miss, nf, l⟩, c1, c3, al, c, rfl, ⟨⟨fun W' hB c h0 h1 => hw1 c h0 h1 W' hB, fun W' hB c h0 h1 => hn1 c h0 h1 W' hB, hn0, hSp, hll⟩, hw2, hn2, hn3⟩, hw3, hi, by
    rcases hn3 with h | ⟨H, b, n, D, h, _⟩
    · exact ⟨_, h⟩
    · exact ⟨_, h⟩⟩
theorem fixF (n : Int) (w : World) : Calls Tryz.prog 19 #[.int .i64 n] w fun e w' => (e = .returned (.int .i64 0) ∨ e = .returned (.int .i64 1)) ∧ w' = w := by
  by_cases h : -1000000000 ≤ n ∧ n ≤ 1000000000
  · exact (fault_ok n w h.1 h.2).mono (fun e w' h => ⟨.inl h.1, h.2⟩)
  · exact (fault_bad n w (by omega)).mono (fun e w' h => ⟨.inr h.1, h.2⟩)
/-- A name and a font. -/
structure Nm where
  s : ByteArray
  F : Ft
  i : Option Nat
  j : Option Nat
  al : Option Addr
  cap : Nat
def Nm.x (n : Nm) : FnC := ⟨n.F.wide, .map n.i, n.F.miss, .map n.j, .slice n.al n.F.l.length n.cap⟩
def NmIn (w : World) (n : Nm) : Prop := FtIn w n.F (.map n.i) (.map n.j) n.al ∧ WdIn w (.map n.i) ∧ n.s.size ≤ maxLen
theorem NmIn.later {w w' : World} {n : Nm} (h : NmIn w n) (hB : Below w.heap.size w w') : NmIn w' n := ⟨h.1.later hB, h.2.1.later hB, h.2.2⟩
/-- Names and fonts in memory. -/
def NmsAt (w : World) (t : Value) (N : List Nm) : Prop := ∃ a c, t = .slice a N.length c ∧ N.length ≤ maxLen ∧ ∀ k n, N[k]? = some n → ∃ b off, a = some ⟨b, off, none⟩ ∧ b < w.heap.size ∧ w.cell? ⟨b, off + k * 6, none⟩ = some (.string n.s) ∧ w.cell? ⟨b, off + k * 6 + 1, none⟩ = some (.bool n.F.wide) ∧ w.cell? ⟨b, off + k * 6 + 2, none⟩ = some (.map n.i) ∧ w.cell? ⟨b, off + k * 6 + 3, none⟩ = some (.int .i64 n.F.miss) ∧ w.cell? ⟨b, off + k * 6 + 4, none⟩ = some (.map n.j) ∧ w.cell? ⟨b, off + k * 6 + 5, none⟩ = some (.slice n.al n.F.l.length n.cap) ∧ NmIn w n
def nmD (N : List Nm) : DataW Value := N.foldl (fun D n => D.put (.string n.s.data.toList) (.held n.x.v)) (.map [])
theorem nmD_snoc (N : List Nm) (n : Nm) : nmD (N ++ [n]) = (nmD N).put (.string n.s.data.toList) (.held n.x.v) := by unfold nmD; rw [List.foldl_append]; rfl
/-- What fonts by names answer. -/
def NmA (w : World) (N : List Nm) (e : Ending) (w' : World) : Prop := ∃ mb b, e = .returned (.tuple #[.map (some mb), .bool b]) ∧ (b = true → N.length ≤ 5 ∧ (∀ n ∈ N, spFault n.F.l n.F.wide = 0) ∧ w'.ownsMap Tryz.prog 9 heldR mb 5 (nmD N)) ∧ w.heap.size ≤ mb ∧ mb < w'.heap.size ∧ (∃ k D, k ≤ 5 ∧ w'.ownsMap Tryz.prog 9 heldR mb k D) ∧ Below w.heap.size w w'
set_option maxHeartbeats 4000000 in
theorem fonts_says (N : List Nm) (t : Value) (w : World) (hN : NmsAt w t N) :
    Calls Tryz.prog 6 #[t] w fun e w' => NmA w N e w' := by
  obtain ⟨a, c, rfl, hl, hn⟩ := hN
  unfold maxLen at hl
  have HN := hid hn
  clear hn
  have hmm := @run_makeMap Tryz.prog
  have o0 : (w.alloc (.map #[] 0)).ownsMap Tryz.prog 9 heldR w.heap.size 0 (.map []) := World.ownsMap_made _ _ _ _
  have HO := hid o0
  have HB : Hid (Below w.heap.size w (w.alloc (.map #[] 0))) := hid ((Below.refl _ _).alloc (Nat.le_refl _) _)
  clear o0
  go_enter Tryz.func6, Tryz.ntmps6
  by_cases h5 : (5 : Int) < N.length
  · go_wp2_with fail
    go_ret2
    exact ⟨_, false, rfl, fun e => (by cases e), Nat.le_refl _, HO.out.lt, ⟨0, _, by omega, HO.out⟩, HB.out⟩
  · go_wp2_with fail
    go_loopw [5] (fun i wr => ∃ (j : Nat), i = .int .i64 j ∧ j ≤ N.length ∧ (∀ n ∈ N.take j, spFault n.F.l n.F.wide = 0) ∧ wr.ownsMap Tryz.prog 9 heldR w.heap.size j (nmD (N.take j)) ∧ Below w.heap.size w wr) (fun i _ => N.length - (intOf i).toNat)
    case atStart => exact ⟨0, rfl, Nat.zero_le _, fun n hn => by simp at hn, HO.out, HB.out⟩
    case round =>
      obtain ⟨j, rfl, hj, hsp, hown, hB⟩ := hrel
      have HQ := hid (And.intro hsp (And.intro hown hB))
      clear hsp hown hB
      by_cases hlt : j < N.length
      · have hlt' : (j : Int) < N.length := by omega
        obtain ⟨n, hx⟩ : ∃ n, N[j]? = some n := ⟨N[j], by simp [hlt]⟩
        have HX := hid hx
        obtain ⟨b, off, rfl, hb, m0, m1, m2, m3, m4, m5, hin⟩ := HN.out j n hx
        have HI := hid hin
        have hb2 := Nat.lt_of_lt_of_le hb HQ.out.2.2.size
        have HBW := hid hb
        have m0 := (HQ.out.2.2.cell (p := ⟨b, off + j * 6, none⟩) hb).trans m0
        have m1 := (HQ.out.2.2.cell (p := ⟨b, off + j * 6 + 1, none⟩) hb).trans m1
        have m2 := (HQ.out.2.2.cell (p := ⟨b, off + j * 6 + 2, none⟩) hb).trans m2
        have m3 := (HQ.out.2.2.cell (p := ⟨b, off + j * 6 + 3, none⟩) hb).trans m3
        have m4 := (HQ.out.2.2.cell (p := ⟨b, off + j * 6 + 4, none⟩) hb).trans m4
        have m5 := (HQ.out.2.2.cell (p := ⟨b, off + j * 6 + 5, none⟩) hb).trans m5
        have hsz := hin.2.2
        unfold maxLen at hsz
        have HC := hid (And.intro m0 (And.intro m1 (And.intro m2 (And.intro m3 (And.intro m4 m5)))))
        clear hx hin hb
        have bad : ∀ W, Below w.heap.size w W → W.ownsMap Tryz.prog 9 heldR w.heap.size j (nmD (N.take j)) → NmA w N (.returned (.tuple #[.map (some w.heap.size), .bool false])) W := fun W hW hO => ⟨_, false, rfl, fun e => (by cases e), Nat.le_refl _, hO.lt, ⟨j, _, by omega, hO⟩, hW⟩
        have BAD := hid bad
        clear bad
        by_cases h50 : (50 : Int) < n.s.size
        · go_wp2_with fail
          go_ret2
          exact BAD.out _ HQ.out.2.2 HQ.out.2.1
        · go_wp2_with (go_at_call 18; fail)
          go_at_call 18
          refine (lightFont n.F (.map n.i) (.map n.j) n.al n.cap _ (HI.out.1.later HQ.out.2.2)).mono ?_
          rintro e w1 ⟨he, hb1⟩
          have B1 := hid (chn' HQ.out.2.2 hb1)
          have O1 := hid (kept_below HQ.out.2.1 hb1)
          have m0 := (hb1.cell (p := ⟨b, off + j * 6, none⟩) hb2).trans m0
          have m1 := (hb1.cell (p := ⟨b, off + j * 6 + 1, none⟩) hb2).trans m1
          have m2 := (hb1.cell (p := ⟨b, off + j * 6 + 2, none⟩) hb2).trans m2
          have m3 := (hb1.cell (p := ⟨b, off + j * 6 + 3, none⟩) hb2).trans m3
          have m4 := (hb1.cell (p := ⟨b, off + j * 6 + 4, none⟩) hb2).trans m4
          have m5 := (hb1.cell (p := ⟨b, off + j * 6 + 5, none⟩) hb2).trans m5
          have hb3 := Nat.lt_of_lt_of_le hb2 hb1.size
          clear hb1 hb2 HC
          rcases he with rfl | ⟨rfl, hf0⟩
          · go_wp2_with fail
            go_ret2
            exact BAD.out _ B1.out O1.out
          · have HF0 := hid hf0
            clear hf0
            go_wp2_with (go_at_call 19; fail)
            go_at_call 19
            refine (fixF _ _).mono ?_
            rintro e w2 ⟨he, rfl⟩
            rcases he with rfl | rfl
            · rcases (HI.out.2.1.later B1.out) with hnil | ⟨H, bw, nw, Dw, hsome, howw⟩
              · have hi : n.i = none := by injection hnil
                rw [hi] at m2
                have hrg := run_range_nilMap (P := Tryz.prog) w2 52 3 3 Tryz.underlying52
                have hnx : ∀ ty, (Instr.next (.pointer (some ⟨w2.heap.size, 0, none⟩)) false ty).run Tryz.prog (w2.alloc (.mapIter none 0 #[] 0)) = _ := fun ty => run_next_nilMap w2 ty 0 0 #[]
                go_wp2_with fail
                refine wp_loop_rounds 1 ?_
                rw [rounds_succ]
                have ba : Below w2.heap.size w2 (w2.alloc (.mapIter none 0 #[] 0)) := (Below.refl _ _).alloc (Nat.le_refl _) _
                have q0 := (ba.cell (p := ⟨b, off + j * 6, none⟩) hb3).trans m0
                have q1 := (ba.cell (p := ⟨b, off + j * 6 + 1, none⟩) hb3).trans m1
                have q2 := (ba.cell (p := ⟨b, off + j * 6 + 2, none⟩) hb3).trans m2
                have q3 := (ba.cell (p := ⟨b, off + j * 6 + 3, none⟩) hb3).trans m3
                have q4 := (ba.cell (p := ⟨b, off + j * 6 + 4, none⟩) hb3).trans m4
                have q5 := (ba.cell (p := ⟨b, off + j * 6 + 5, none⟩) hb3).trans m5
                have hb4 := Nat.lt_of_lt_of_le hb3 ba.size
                clear ba
                obtain ⟨v3, h3, o3, g3⟩ := (O1.out.alloc (.mapIter none 0 #[] 0)).drew.update lawS Tryz.underlying24 (by unfold maxLen; omega) (key := .string n.s) (keyOf_string_mk Tryz.underlying9 HI.out.2.2) (val := n.x.v) rfl
                have O3 := hid o3
                have B3 := hid ((B1.out.alloc B1.out.size (.mapIter none 0 #[] 0)).drew.grown g3 (B1.out.alloc B1.out.size (.mapIter none 0 #[] 0)).drew.size (fun k hk => by cases hk; exact Nat.le_refl _))
                have H0 := hid (show ∀ W : World, W.heap[b]? = (w2.alloc (.mapIter none 0 #[] 0)).heap[b]? → W.cell? ⟨b, off + j * 6, none⟩ = some (.string n.s) ∧ W.cell? ⟨b, off + j * 6 + 1, none⟩ = some (.bool n.F.wide) ∧ W.cell? ⟨b, off + j * 6 + 2, none⟩ = some (.map none) ∧ W.cell? ⟨b, off + j * 6 + 3, none⟩ = some (.int .i64 n.F.miss) ∧ W.cell? ⟨b, off + j * 6 + 4, none⟩ = some (.map n.j) ∧ W.cell? ⟨b, off + j * 6 + 5, none⟩ = some (.slice n.al n.F.l.length n.cap) from fun W e => ⟨(cell_blockU e _).trans q0, (cell_blockU e _).trans q1, (cell_blockU e _).trans q2, (cell_blockU e _).trans q3, (cell_blockU e _).trans q4, (cell_blockU e _).trans q5⟩)
                have HV := hid (H0.out v3 (g3.block b (by show b < (w2.alloc (.mapIter none 0 #[] 0)).heap.size; exact hb4) (by simp; have := HBW.out; omega)))
                unfold FnC.v Nm.x at h3
                simp only [hi] at h3
                clear o3 g3
                go_wp2_with fail
                go_region_held3 (fun (W : World) => W.cell? ⟨b, off + j * 6, none⟩ = some (.string n.s) ∧ W.cell? ⟨b, off + j * 6 + 1, none⟩ = some (.bool n.F.wide) ∧ W.cell? ⟨b, off + j * 6 + 2, none⟩ = some (.map none) ∧ W.cell? ⟨b, off + j * 6 + 3, none⟩ = some (.int .i64 n.F.miss) ∧ W.cell? ⟨b, off + j * 6 + 4, none⟩ = some (.map n.j) ∧ W.cell? ⟨b, off + j * 6 + 5, none⟩ = some (.slice n.al n.F.l.length n.cap))
                  (first | with_reducible exact HV.out | with_reducible exact H0.out _ rfl | exact H0.out _ rfl)
                  (first | fail)
                all_goals
                  go_wp2_with fail
                  go_roundw
                  case rel => exact ⟨j + 1, by go_num, by omega, fun n' hn' => by
                    rw [List.take_add_one, HX.out] at hn'
                    rcases List.mem_append.1 hn' with hn' | hn'
                    · exact HQ.out.1 n' hn'
                    · simp at hn'; rw [hn']; exact HF0.out, by rw [List.take_add_one, HX.out]; show World.ownsMap _ _ _ _ _ _ (nmD (N.take j ++ [n])); rw [nmD_snoc]; exact O3.out, B3.out⟩
                  case measure => simp [intOf]; omega
              · have hown1 := howw
                have hi : n.i = some bw := by injection hsome
                rw [hi] at m2
                go_wp2_with (first | (at_range; refine wpList_range_own _ rfl _ 52 rfl 3 3 lawI Tryz.underlying52 _ bw nw _ rfl hown1 ?_; intro w4 hrg2 hg2 hs2) | go_in)
                go_frame
                go_loopw [7] (fun _ wx => ∃ (left : Lit → Bool) (cnt : Nat), wx.ranges Tryz.prog 3 (plainElem Tryz.prog 3) bw w2.heap.size nw Dw left cnt ∧ Below w2.heap.size w2 wx) (fun _ wx => wx.rangeLeft bw w2.heap.size)
                case atStart => exact ⟨_, _, hrg2, (Below.refl _ _).grown hg2 (Nat.le_refl _) (fun k h => by cases h)⟩
                case round =>
                  obtain ⟨left, cnt, hrg, hBx⟩ := hrel
                  have hb4 := Nat.lt_of_lt_of_le hb3 hBx.size
                  have q0 := (hBx.cell (p := ⟨b, off + j * 6, none⟩) hb3).trans m0
                  have q1 := (hBx.cell (p := ⟨b, off + j * 6 + 1, none⟩) hb3).trans m1
                  have q2 := (hBx.cell (p := ⟨b, off + j * 6 + 2, none⟩) hb3).trans m2
                  have q3 := (hBx.cell (p := ⟨b, off + j * 6 + 3, none⟩) hb3).trans m3
                  have q4 := (hBx.cell (p := ⟨b, off + j * 6 + 4, none⟩) hb3).trans m4
                  have q5 := (hBx.cell (p := ⟨b, off + j * 6 + 5, none⟩) hb3).trans m5
                  go_wp2_with (first | (at_next; refine wpList_next_ranges_ii _ rfl _ rfl 3 3 .i64 .i64 lawI Tryz.underlying3 Tryz.underlying3 bw w2.heap.size nw _ _ _ rfl hrg ?_ ?_) | go_in)
                  · intro _ _
                    obtain ⟨v3, h3, o3, g3⟩ := (kept_below O1.out hBx).drew.update lawS Tryz.underlying24 (by unfold maxLen; omega) (key := .string n.s) (keyOf_string_mk Tryz.underlying9 HI.out.2.2) (val := n.x.v) rfl
                    have O3 := hid o3
                    have B3 := hid ((chn' B1.out hBx).drew.grown g3 (chn' B1.out hBx).drew.size (fun k hk => by cases hk; exact Nat.le_refl _))
                    have H0 := hid (show ∀ W : World, W.heap[b]? = (wr).heap[b]? → W.cell? ⟨b, off + j * 6, none⟩ = some (.string n.s) ∧ W.cell? ⟨b, off + j * 6 + 1, none⟩ = some (.bool n.F.wide) ∧ W.cell? ⟨b, off + j * 6 + 2, none⟩ = some (.map (some bw)) ∧ W.cell? ⟨b, off + j * 6 + 3, none⟩ = some (.int .i64 n.F.miss) ∧ W.cell? ⟨b, off + j * 6 + 4, none⟩ = some (.map n.j) ∧ W.cell? ⟨b, off + j * 6 + 5, none⟩ = some (.slice n.al n.F.l.length n.cap) from fun W e => ⟨(cell_blockU e _).trans q0, (cell_blockU e _).trans q1, (cell_blockU e _).trans q2, (cell_blockU e _).trans q3, (cell_blockU e _).trans q4, (cell_blockU e _).trans q5⟩)
                    have HV := hid (H0.out v3 (g3.block b (by show b < (wr).heap.size; exact hb4) (by simp; have := HBW.out; omega)))
                    unfold FnC.v Nm.x at h3
                    simp only [hi] at h3
                    clear o3 g3
                    go_wp2_with fail
                    go_region_held3 (fun (W : World) => W.cell? ⟨b, off + j * 6, none⟩ = some (.string n.s) ∧ W.cell? ⟨b, off + j * 6 + 1, none⟩ = some (.bool n.F.wide) ∧ W.cell? ⟨b, off + j * 6 + 2, none⟩ = some (.map (some bw)) ∧ W.cell? ⟨b, off + j * 6 + 3, none⟩ = some (.int .i64 n.F.miss) ∧ W.cell? ⟨b, off + j * 6 + 4, none⟩ = some (.map n.j) ∧ W.cell? ⟨b, off + j * 6 + 5, none⟩ = some (.slice n.al n.F.l.length n.cap))
                      (first | with_reducible exact HV.out | with_reducible exact H0.out _ rfl | exact H0.out _ rfl)
                      (first | fail)
                    all_goals
                      go_wp2_with fail
                      go_roundw
                      case rel => exact ⟨j + 1, by go_num, by omega, fun n' hn' => by
                        rw [List.take_add_one, HX.out] at hn'
                        rcases List.mem_append.1 hn' with hn' | hn'
                        · exact HQ.out.1 n' hn'
                        · simp at hn'; rw [hn']; exact HF0.out, by rw [List.take_add_one, HX.out]; show World.ownsMap _ _ _ _ _ _ (nmD (N.take j ++ [n])); rw [nmD_snoc]; exact O3.out, B3.out⟩
                      case measure => simp [intOf]; omega
                  · intro x cz w3 cnt3 hwx hwc hlx hat hrg3 hlt3 hg3 hs3 hen
                    have hB3 := hBx.grown hg3 hBx.size (fun k hk => by cases hk; exact Nat.le_refl _)
                    have HB3 := hid (chn' B1.out hB3)
                    have HO3 := hid (kept_below O1.out hB3)
                    clear q0 q1 q2 q3 q4 q5
                    go_wp2_with (go_at_call 19; fail)
                    go_at_call 19
                    refine (fixF _ _).mono ?_
                    rintro e w5 ⟨he, rfl⟩
                    rcases he with rfl | rfl
                    · go_wp2_with fail
                      go_roundw
                      case rel => exact ⟨_, cnt3, hrg3, hB3⟩
                      case measure => rw [hrg3.left_eq, hrg.left_eq]; exact hlt3
                    · go_wp2_with fail
                      go_ret2
                      exact BAD.out _ HB3.out HO3.out
            · go_wp2_with fail
              go_ret2
              exact BAD.out _ B1.out O1.out
      · have hje : j = N.length := by omega
        subst hje
        have hO := HQ.out.2.1
        have hs := HQ.out.1
        rw [List.take_length] at hO hs
        have HE := hid (And.intro hO hs)
        clear hO hs
        go_wp2_with fail
        go_ret2
        exact ⟨_, true, rfl, fun _ => ⟨by omega, HE.out.2, HE.out.1.mono (by omega)⟩, Nat.le_refl _, HE.out.1.lt, ⟨_, _, by omega, HE.out.1⟩, HQ.out.2.2⟩
end Go.Proofs.YtobpidmlgldnmaaGreatDoor
