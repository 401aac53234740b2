/-
  The law on the signs of strings behind each other, walked.
-/
import Derived.Test.YtggojafapieliabDoorGi
import Derived.Test.YtggojafapieliabDoorGj
namespace Go.Proofs.YtggojafapieliabDoor
open Go.RowKit Go.Maps
set_option maxRecDepth 100000
attribute [local go_sem ↓] Go.wp_at_zero Go.wp_at_succ

def F0 : Ft := ⟨false, fun _ => none, 5, fun _ => none, []⟩
theorem F0at (w : World) : FtAt w F0 (.map none) (.map none) none :=
  ⟨fun W _ c h0 h1 => by simpa [F0] using Maps.look_nil (w := W) true lawI Tryd.underlying41 (zeroI _) (keyI h0 h1), fun W _ c h0 h1 => by simpa [F0] using Maps.look_nil (w := W) true lawI Tryd.underlying42 (zeroS _) (keyI h0 h1),
   fun c n h => (by cases h), fun i x hx => (by simp [F0] at hx), by unfold maxLen; simp [F0]⟩
theorem F0sg : sgL F0 [97] = [⟨97, 5, ⟨#[97]⟩⟩] := rfl
theorem sgL_app (F : Ft) (x y : List UInt8) (h : F.wide = false ∨ ∃ m, x.length = 2 * m) : sgL F (x ++ y) = sgL F x ++ sgL F y := by
  unfold sgL
  rcases h with h | ⟨m, h⟩
  · rw [h]; simp [cdL]
  · cases hw : F.wide with
    | false => simp [cdL]
    | true => rw [cdL_two m x y h, List.map_append]
theorem sgL_len (F : Ft) (x : List UInt8) : (sgL F x).length ≤ x.length := by
  unfold sgL
  rw [List.length_map]
  cases F.wide with
  | false => simp [cdL]
  | true => exact cdL_len x.length x (Nat.le_refl _)
theorem wpAppR {ops : Array Oper} {rest : List Oper} {o : Oper} {a : Act} {Q : Exit → Act → World → Prop} {W W' : World} (hwt : Region.wanted o (yielded ops a.tmps) = true) (s x : Operand)
    (ho : o.op = .call { callee := .builtin .append, args := #[s, x], argTypes := #[47, 47] }) (hty : o.type = 47) (v y v' : Value) (hs : a.eval s = v) (hx : a.eval x = y)
    (hr : (Builtin.append_ #[47, 47] 47 #[v, y]).run Tryd.prog W = .ok v' W') (h : wpList Tryd.prog ops Q rest (a.put o.dst v') W') : wpList Tryd.prog ops Q (o :: rest) a W := by
  rw [wpList, if_pos hwt]
  refine .inl ?_
  unfold Oper.wp execOp
  simp only [ho, hty, resolve, invoke, builtin, Sem.run_bind, Sem.run_pure, Result.andThen_ok, List.map_toArray, List.map_cons, List.map_nil, hs, hx, hr]
  exact h
set_option maxHeartbeats 400000 in
theorem topSigns_any (F : Ft) (mw mn : Value) (al : Option Addr) (cap : Nat) (s t : ByteArray) (w : World) (hF : FtIn w F mw mn al) (hT : Tb w) :
    Calls Tryd.prog 6 #[ftV F mw mn al cap, .string s, .string t] w fun e w' => e = .returned (.bool true) ∧ Below w.heap.size w w' := by
  have HF := hid hF
  have HT := hid hT
  have HG := hid (fun W (hB : Below w.heap.size w W) u (hu : u.size ≤ 1000) (hf : spFault F.l F.wide = 0) => signs_ft F mw mn al cap u W hu (hF.at_.later hB) (hT.below hB) hf)
  have HLF := hid (fun W (hB : Below w.heap.size w W) => lightFont F mw mn al cap W ⟨hF.at_.later hB, by obtain ⟨k, hk⟩ := hF.wl; exact ⟨k, fun W' ty hW => hk W' ty (chn' hB hW)⟩, by obtain ⟨k, hk⟩ := hF.nl; exact ⟨k, fun W' ty hW => hk W' ty (chn' hB hW)⟩, by
    rcases hF.nr with h | ⟨H, b, n, D, h, ho⟩
    · exact .inl h
    · exact .inr ⟨H, b, n, D, h, kept_below ho hB⟩⟩)
  have HS0 := hid (fun W (hT : Tb W) => signs_ft F0 (.map none) (.map none) none 0 ⟨#[97]⟩ W (by decide) (F0at W) hT (by decide))
  unfold ftV at HS0
  simp only [F0, List.length_nil] at HS0
  clear hF hT
  go_enter Tryd.func6, Tryd.ntmps6
  go_wp2_with (go_at_call 19; fail)
  go_at_call 19
  refine (HS0.out _ (HT.out.below (by go_grown))).mono ?_
  rintro e w1 ⟨v, er, rfl, hS, hb1⟩
  have A1 := At.later (At.new w #[.bool F.wide, mw, .int .i64 F.miss, mn, .slice al F.l.length cap] 44 rfl) hb1
  have hB1 : Below w.heap.size w w1 := chn' (by go_grown) hb1
  clear hb1 HS0
  rcases hS with ⟨h, _⟩ | ⟨_, rfl, ho⟩
  · cases h
  obtain ⟨a0, c0, rfl, hat⟩ := ho.at
  have e0 : sgL (⟨false, fun _ => none, 5, fun _ => none, []⟩ : Ft) (⟨#[97]⟩ : ByteArray).data.toList = [⟨97, 5, ⟨#[97]⟩⟩] := F0sg
  rw [e0] at hat ⊢
  obtain ⟨b0, o0, rfl, hb0, q0, q1, q2⟩ := hat 0 _ rfl
  simp only [List.length_cons, List.length_nil, Nat.zero_mul, Nat.add_zero, Nat.zero_add] at q0 q1 q2 ⊢
  clear ho hat e0
  obtain ⟨k0, k1, k2, k3, k4⟩ := ftC A1
  have z1 := A1.lt
  go_wp2_with (go_at_call 16; fail)
  go_at_call 16
  refine (HLF.out _ hB1).mono ?_
  rintro e w2 ⟨he, hb2⟩
  have A2 := A1.later hb2
  have hB2 := chn' hB1 hb2
  clear hb2 hB1 A1 k0 k1 k2 k3 k4 z1 q0 q1 q2 hb0 HLF
  rcases he with rfl | ⟨rfl, hf⟩
  · go_wp2_with fail
    go_ret
    exact ⟨rfl, hB2⟩
  obtain ⟨k0, k1, k2, k3, k4⟩ := ftC A2
  have z2 := A2.lt
  by_cases h3 : (300 : Int) < s.size
  · go_wp2_with fail
    go_ret
    exact ⟨rfl, hB2⟩
  by_cases h4 : (300 : Int) < t.size
  · go_wp2_with fail
    go_ret
    exact ⟨rfl, hB2⟩
  have hsl : s.data.toList.length = s.size := by simp
  have htl : t.data.toList.length = t.size := by simp
  obtain ⟨u, hu⟩ : ∃ u : ByteArray, u = ⟨(s.data.toList ++ t.data.toList).toArray⟩ := ⟨_, rfl⟩
  have hul : u.data.toList = s.data.toList ++ t.data.toList := by rw [hu]
  have husz : u.size ≤ 1000 := by
    have : u.size = u.data.toList.length := by simp
    rw [this, hul, List.length_append]; omega
  have E := addB (a := s) (b := t) (c := u) (by omega) (by omega) hul
  have HU := hid (And.intro hul (And.intro husz (And.intro hsl htl)))
  have HFF := hid hf
  have h3' : s.size ≤ 1000 := by omega
  have h4' : t.size ≤ 1000 := by omega
  have HSZ := hid (show s.size ≤ 300 ∧ t.size ≤ 300 by omega)
  clear hsl htl hu hul husz hf
  go_wp2_with (go_at_call 19; fail)
  go_at_call 19
  refine (HG.out _ hB2 s h3' HFF.out).mono ?_
  rintro e w3 ⟨va, e1, rfl, hSa, hb3⟩
  have A3 := A2.later hb3
  have hB3 := chn' hB2 hb3
  have HSA := hid hSa
  clear hb3 hB2 A2 k0 k1 k2 k3 k4 z2 hSa
  obtain ⟨k0, k1, k2, k3, k4⟩ := ftC A3
  have z3 := A3.lt
  go_wp2_with (go_at_call 19; fail)
  go_at_call 19
  refine (HG.out _ hB3 t h4' HFF.out).mono ?_
  rintro e w4 ⟨vb, e2, rfl, hSb, hb4⟩
  have A4 := A3.later hb4
  have hB4 := chn' hB3 hb4
  have HSB := hid hSb
  have HB34 := hid hb4
  clear hb4 hB3 A3 k0 k1 k2 k3 k4 z3 hSb
  obtain ⟨k0, k1, k2, k3, k4⟩ := ftC A4
  have z4 := A4.lt
  go_wp2_with (go_at_call 19; fail)
  go_at_call 19
  refine (HG.out _ hB4 u HU.out.2.1 HFF.out).mono ?_
  rintro e w5 ⟨vc, e3, rfl, hSc, hb5⟩
  have A5 := A4.later hb5
  have hB5 := chn' hB4 hb5
  have HSC := hid hSc
  have HB45 := hid hb5
  clear hb5 hB4 A4 k0 k1 k2 k3 k4 z4 hSc E
  obtain ⟨k0, k1, k2, k3, k4⟩ := ftC A5
  have z5 := A5.lt
  rcases HSA.out with ⟨hw, _, rfl, rfl⟩ | ⟨hwa, rfl, hoa⟩
  · unfold errV
    rw [hw] at k0
    go_wp2_with fail
    go_ret
    exact ⟨rfl, hB5⟩
  rcases HSB.out with ⟨hw, _, rfl, rfl⟩ | ⟨hwb, rfl, hob⟩
  · unfold errV
    rw [hw] at k0
    go_wp2_with fail
    go_ret
    exact ⟨rfl, hB5⟩
  rcases HSC.out with ⟨hw, ⟨m, hm⟩, _⟩ | ⟨_, rfl, hoc⟩
  · exfalso
    rw [HU.out.1, List.length_append] at hm
    rcases hwa with h | ⟨ma, ha⟩
    · rw [h] at hw; cases hw
    rcases hwb with h | ⟨mb, hb⟩
    · rw [h] at hw; cases hw
    omega
  rw [HU.out.1, sgL_app F _ _ hwa] at hoc
  have hoa5 := (hoa.later HB34.out).later HB45.out
  have hob5 := hob.later HB45.out
  have hla := sgL_len F s.data.toList
  have hlb := sgL_len F t.data.toList
  have hlim : (sgL F s.data.toList).length ≤ 300 ∧ (sgL F t.data.toList).length ≤ 300 := by
    have q1 := HU.out.2.2
    have q2 := HSZ.out
    omega
  obtain ⟨v1, w6, hr1, ho1, hg1⟩ := run_appG (B := w5.heap.size) (v := .slice none 0 0) (l := []) (World.ownsRow_nil _ _ _ _) hoa5 (by simp; omega) (Nat.le_refl _)
  have hb6 : Below w5.heap.size w5 w6 := (Below.refl _ _).grown hg1 (Nat.le_refl _) (fun k hk => by simp [Value.ownBlock] at hk)
  have hob6 := hob5.later hb6
  obtain ⟨v2, w7, hr2, ho2, hg2⟩ := run_appG ho1 hob6 (by simp; omega) hb6.size
  have hb7 : Below w5.heap.size w5 w7 := hb6.grown hg2 hb6.size (fun k hk => (World.ownsRow.lt ho1 k hk).1)
  have HO2 := hid ho2
  have HOC := hid (hoc.later hb7)
  have HB7 := hid hb7
  clear ho1 hob6 hg1 hg2 ho2 hoc hb6 hb7 hoa hob hoa5 hob5 hwa hwb
  have HR1 := hid hr1
  have HR2 := hid hr2
  clear hr1 hr2
  go_wp2_with (first | (at_builtin; refine wpAppR (by first | rfl | (simp [Region.wanted, yielded]; done)) _ _ rfl rfl _ _ _ rfl rfl HR1.out ?_) | (at_builtin; refine wpAppR (by first | rfl | (simp [Region.wanted, yielded]; done)) _ _ rfl rfl _ _ _ rfl rfl HR2.out ?_) | (go_at_call 21; fail))
  go_at_call 21
  obtain ⟨al1, cc1, rfl, ht1⟩ := HOC.out.at
  obtain ⟨al2, cc2, rfl, ht2⟩ := HO2.out.at
  rw [List.nil_append] at ht2 ⊢
  refine (same_signs _ al1 al2 cc1 cc2 _ (by rw [List.length_append]; omega) ht1 ht2).mono ?_
  rintro e w8 ⟨rfl, hb8⟩
  go_wp2_with fail
  go_ret
  exact ⟨rfl, chn' hB5 (chn' HB7.out hb8)⟩
end Go.Proofs.YtggojafapieliabDoor
