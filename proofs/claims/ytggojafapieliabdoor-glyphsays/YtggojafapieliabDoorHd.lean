/-
  The law on names of signs and signs of strings, walked.
-/
import Derived.Test.YtggojafapieliabDoorHc
import Derived.Test.YtggojafapieliabDoorGi
namespace Go.Proofs.YtggojafapieliabDoor
open Go.RowKit Go.Maps
set_option maxRecDepth 100000
attribute [local go_sem ↓] Go.wp_at_zero Go.wp_at_succ

set_option maxHeartbeats 1000000 in
theorem rSigns_odd (F : Ft) (mw mn : Value) (al : Option Addr) (cap : Nat) (s : ByteArray) (w : World) (hw : F.wide = true) (hs : s.size ≤ 1000) (hev : ∃ m, s.size = 2 * m + 1) :
    Calls Tryd.prog 20 #[ftV F mw mn al cap, .string s] w fun e w' => e = .returned (.tuple #[.slice none 0 0, .int .i64 4]) ∧ Below w.heap.size w w' := by
  obtain ⟨m, hm⟩ := hev
  have hmod : ((s.size : Int) % 2) = 1 := by omega
  unfold ftV
  rw [hw]
  clear hw hm
  go_enter Tryd.func20, Tryd.ntmps20
  go_wp2_with fail
  go_ret2
  exact ⟨rfl, by go_grown⟩
theorem glA : glP [117, 110, 105, 48, 48, 52, 49] = some [65] := by decide
theorem glyphs_any (w : World) : Calls Tryd.prog 15 #[] w fun e w' => e = .returned (.bool true) ∧ Below w.heap.size w w' := by
  have h := glyph_says ⟨#[117, 110, 105, 48, 48, 52, 49]⟩ w (by unfold maxLen; decide)
  have e : (⟨#[117, 110, 105, 48, 48, 52, 49]⟩ : ByteArray).data.toList = [117, 110, 105, 48, 48, 52, 49] := rfl
  rw [e, glA] at h
  unfold ansG at h
  simp only [Option.getD_some, Option.isSome_some] at h
  go_enter Tryd.func15, Tryd.ntmps15
  go_wp2_with (go_at_call 17; go_must (refine h.mono ?_); rintro e w1 ⟨rfl, hb1⟩)
  go_ret
  exact ⟨by first | rfl | (simp; done), hb1⟩
set_option maxHeartbeats 1000000 in
theorem glyphSays_any (name : ByteArray) (F : Ft) (mw mn : Value) (al : Option Addr) (cap : Nat) (s : ByteArray) (w : World) (hn : name.size ≤ maxLen) (hF : FtIn w F mw mn al) (hT : Tb w) :
    Calls Tryd.prog 5 #[.string name, ftV F mw mn al cap, .string s] w fun e w' => e = .returned (.bool true) ∧ Below w.heap.size w w' := by
  have HG1 := hid (fun W => glyph_says name W hn)
  have HG2 := hid (fun W => rGlyph_says name W hn)
  have HS1 := hid (fun W (hB : Below w.heap.size w W) (hs : s.size ≤ 1000) (hf : spFault F.l F.wide = 0) => signs_ft F mw mn al cap s W hs (hF.at_.later hB) (hT.below hB) hf)
  have HSN := hid (fun W (hB : Below w.heap.size w W) (hw : F.wide = false) (hs : s.size ≤ 1000) (hf : spFault F.l F.wide = 0) => rSigns_narrow F mw mn al cap s W hw hs (hF.at_.later hB) hf)
  have HSW := hid (fun W (hB : Below w.heap.size w W) (hw : F.wide = true) (hs : s.size ≤ 1000) (hev : ∃ m, s.size = 2 * m) (hf : spFault F.l F.wide = 0) => rSigns_wide F mw mn al cap s W hw hs hev (hF.at_.later hB) hf)
  have HSO := hid (fun W (hw : F.wide = true) (hs : s.size ≤ 1000) (hev : ∃ m, s.size = 2 * m + 1) => rSigns_odd F mw mn al cap s W hw hs hev)
  have HLF := hid (fun W (hB : Below w.heap.size w W) => lightFont F mw mn al cap W ⟨hF.at_.later hB, by obtain ⟨k, hk⟩ := hF.wl; exact ⟨k, fun W' ty hW => hk W' ty (chn' hB hW)⟩, by obtain ⟨k, hk⟩ := hF.nl; exact ⟨k, fun W' ty hW => hk W' ty (chn' hB hW)⟩, by
    rcases hF.nr with h | ⟨H, b, n, D, h, ho⟩
    · exact .inl h
    · exact .inr ⟨H, b, n, D, h, kept_below ho hB⟩⟩)
  have hsl : s.data.toList.length = s.size := by simp
  have HSL := hid (And.intro hsl (sgL_len' F s.data.toList))
  generalize glP name.data.toList = G at *
  clear hF hT hn hsl
  go_enter Tryd.func5, Tryd.ntmps5
  go_wp2_with (go_at_call 15; fail)
  go_at_call 15
  refine (glyphs_any _).mono ?_
  rintro e w1 ⟨rfl, hb1⟩
  have A1 := At.later (At.new w #[.bool F.wide, mw, .int .i64 F.miss, mn, .slice al F.l.length cap] 44 rfl) hb1
  have hB1 : Below w.heap.size w w1 := chn' (by go_grown) hb1
  clear hb1
  obtain ⟨k0, k1, k2, k3, k4⟩ := ftC A1
  have z1 := A1.lt
  by_cases h1 : (100 : Int) < name.size
  · go_wp2_with fail
    go_ret
    exact ⟨rfl, hB1⟩
  go_wp2_with (go_at_call 16; fail)
  go_at_call 16
  refine (HLF.out _ hB1).mono ?_
  rintro e w2 ⟨he, hb2⟩
  have hB2 := chn' hB1 hb2
  have A2 := A1.later hb2
  clear hb2 hB1 HLF A1 k0 k1 k2 k3 k4 z1
  obtain ⟨k0, k1, k2, k3, k4⟩ := ftC A2
  have z1 := A2.lt
  rcases he with rfl | ⟨rfl, hf⟩
  · go_wp2_with fail
    go_ret
    exact ⟨rfl, hB2⟩
  by_cases h3 : (300 : Int) < s.size
  · go_wp2_with fail
    go_ret
    exact ⟨rfl, hB2⟩
  have HF := hid hf
  have hs1 : s.size ≤ 1000 := by omega
  clear hf
  go_wp2_with (go_at_call 17; fail)
  go_at_call 17
  refine (HG1.out _).mono ?_
  rintro e w3 ⟨rfl, hb3⟩
  have hB3 := chn' hB2 hb3
  have A3 := A2.later hb3
  clear hb3 hB2 HG1 A2 k0 k1 k2 k3 k4 z1
  obtain ⟨k0, k1, k2, k3, k4⟩ := ftC A3
  have z1 := A3.lt
  unfold ansG at *
  go_wp2_with (go_at_call 18; fail)
  go_at_call 18
  refine (HG2.out _).mono ?_
  rintro e w4 ⟨rfl, hb4⟩
  have hB4 := chn' hB3 hb4
  have A4 := A3.later hb4
  clear hb4 hB3 HG2 A3 k0 k1 k2 k3 k4 z1
  obtain ⟨k0, k1, k2, k3, k4⟩ := ftC A4
  have z1 := A4.lt
  go_wp2_with (go_at_call 19; fail)
  go_at_call 19
  refine (HS1.out _ hB4 hs1 HF.out).mono ?_
  rintro e w5 ⟨va, er, rfl, hS, hb5⟩
  have hB5 := chn' hB4 hb5
  have A5 := A4.later hb5
  clear hb5 hB4 HS1 A4 k0 k1 k2 k3 k4 z1
  obtain ⟨k0, k1, k2, k3, k4⟩ := ftC A5
  have z1 := A5.lt
  rcases hS with ⟨hw, hodd, rfl, rfl⟩ | ⟨hev, rfl, ho⟩
  · have hodd' : ∃ m, s.size = 2 * m + 1 := by obtain ⟨m, hm⟩ := hodd; exact ⟨m, by rw [← HSL.out.1]; exact hm⟩
    have HW := hid hw
    have HOD := hid hodd'
    clear hw hodd hodd'
    go_wp2_with (go_at_call 20; fail)
    go_at_call 20
    refine (HSO.out _ HW.out hs1 HOD.out).mono ?_
    rintro e w6 ⟨rfl, hb6⟩
    have hB6 := chn' hB5 hb6
    have HSM := hid (fun W => same_signs [] none none 0 0 W (by simp) (fun i x hx => by simp at hx) (fun i x hx => by simp at hx))
    clear hb6 hB5
    go_wp2_with (first | (go_at_call 10; refine (same_err 4 4 _).mono ?_; rintro e ww ⟨rfl, rfl⟩) | (go_at_call 21; fail))
    go_at_call 21
    refine (HSM.out _).mono ?_
    rintro e w7 ⟨rfl, hb7⟩
    go_wp2_with fail
    go_ret
    exact ⟨by first | rfl | (simp; done), chn' hB6 hb7⟩
  · have hR : Calls Tryd.prog 20 #[ftV F mw mn al cap, .string s] w5 fun e w' => ∃ v, e = .returned (.tuple #[v, .int .i64 0]) ∧ OwnG w' w5.heap.size v (sgL F s.data.toList) ∧ Below w5.heap.size w5 w' := by
      cases hw : F.wide with
      | false => exact HSN.out _ hB5 hw hs1 HF.out
      | true =>
        rcases hev with h | ⟨m, hm⟩
        · rw [hw] at h; cases h
        · exact HSW.out _ hB5 hw hs1 ⟨m, by rw [← HSL.out.1]; exact hm⟩ HF.out
    have HO := hid ho
    clear ho HSN HSW HSO
    go_wp2_with (go_at_call 20; fail)
    go_at_call 20
    refine hR.mono ?_
    rintro e w6 ⟨vb, rfl, ho2, hb6⟩
    have hB6 := chn' hB5 hb6
    obtain ⟨al1, cc1, rfl, ht1⟩ := (HO.out.later hb6).at
    obtain ⟨al2, cc2, rfl, ht2⟩ := ho2.at
    have HSM := hid (same_signs _ al1 al2 cc1 cc2 w6 (by have := HSL.out; omega) ht1 ht2)
    clear hb6 hB5 hR ht1 ht2 ho2 HO
    go_wp2_with (first | (go_at_call 10; refine (same_nil 0 _).mono ?_; rintro e ww ⟨rfl, rfl⟩) | (go_at_call 21; fail))
    go_at_call 21
    refine HSM.out.mono ?_
    rintro e w7 ⟨rfl, hb7⟩
    go_wp2_with fail
    go_ret
    exact ⟨by first | rfl | (simp; done), chn' hB6 hb7⟩
end Go.Proofs.YtggojafapieliabDoor
