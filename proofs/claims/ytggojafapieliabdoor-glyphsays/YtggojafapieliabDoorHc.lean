/-
  The signs of a string in a font, codes of two bytes: the document's answer.
-/
import Derived.Test.YtggojafapieliabDoorHb
namespace Go.Proofs.YtggojafapieliabDoor
open Go.RowKit
set_option maxRecDepth 100000
attribute [local go_sem ↓] Go.wp_at_zero Go.wp_at_succ

set_option maxHeartbeats 1000000 in
theorem rSigns_wide (F : Ft) (mw mn : Value) (al : Option Addr) (cap : Nat) (s : ByteArray) (w : World) (hw : F.wide = true) (hs : s.size ≤ 1000) (hev : ∃ m, s.size = 2 * m) (hF : FtAt w F mw mn al) (hf : spFault F.l F.wide = 0) :
    Calls Tryd.prog 20 #[ftV F mw mn al cap, .string s] w fun e w' => ∃ v, e = .returned (.tuple #[v, .int .i64 0]) ∧ OwnG w' w.heap.size v (sgL F s.data.toList) ∧ Below w.heap.size w w' := by
  have HWD' := hid (fun W (hB : Below w.heap.size w W) c (h0 : 0 ≤ c) (h1 : c ≤ 65535) => hF.wd W hB c h0 h1)
  have HNM' := hid (fun W (hB : Below w.heap.size w W) c (h0 : 0 ≤ c) (h1 : c ≤ 65535) => hF.nm W hB c h0 h1)
  have HNS := hid hF.ns
  have HCT' := hid (fun W (hB : Below w.heap.size w W) c => codeText_sp F.l F.wide c al cap W (spFault_ok hf).1 (hF.sp.later hB) hf)
  have HD := hid (show ∀ dn (a b : UInt8) (n : Nat), dn.length = 2 * n → sgL F (dn ++ [a, b]) = sgL F dn ++ [sgP F ((a.toNat : Int) * 256 + b.toNat)] from fun dn a b n h => by unfold sgL; rw [hw, cdL_two n dn [a, b] h]; simp [cdL])
  have H0 := hid (show sgL F [] = [] by unfold sgL; rw [hw]; rfl)
  have HLN := hid (fun dn => sgL_len' F dn)
  have HTX := hid (show ∀ c, txP F c = match codeT F.l c with | some t => t | none => [] from fun c => by unfold txP; rw [hw]; rfl)
  obtain ⟨m, hm2⟩ := hev
  obtain ⟨L, hL⟩ : ∃ L, L = s.data.toList := ⟨_, rfl⟩
  rw [← hL]
  have HL := hid (show L = s.data.toList ∧ L.length = s.size from ⟨hL, by rw [hL]; simp⟩)
  clear hF hf hL
  generalize sgL F = SG at *
  unfold ftV at *
  rw [hw] at *
  have hm : ((s.size : Int) % 2) = 0 := by omega
  clear hw
  go_enter Tryd.func20, Tryd.ntmps20
  go_wp2_with fail
  have hA0 : At (w.alloc (.cells #[.bool true, mw, .int .i64 F.miss, mn, .slice al F.l.length cap] 44)) w.heap.size 44 #[.bool true, mw, .int .i64 F.miss, mn, .slice al F.l.length cap] := At.new _ _ _ rfl
  have hB0 : Below w.heap.size w (w.alloc (.cells #[.bool true, mw, .int .i64 F.miss, mn, .slice al F.l.length cap] 44)) := by go_grown
  generalize w.alloc (.cells #[.bool true, mw, .int .i64 F.miss, mn, .slice al F.l.length cap] 44) = w0 at hA0 hB0 ⊢
  have hz0 := hA0.lt
  have HA0 := hid hA0
  have HB0 := hid hB0
  clear hA0 hB0
  go_loopw [6, 8] (fun v i wr => ∃ k : Nat, k ≤ m ∧ i = .int .i64 ((2 * k : Nat) : Int) ∧ OwnG wr w0.heap.size v (SG (L.take (2 * k))) ∧ Below w0.heap.size w0 wr) (fun _ i _ => s.size - (intOf i).toNat)
  case atStart => exact ⟨0, Nat.zero_le _, rfl, by show OwnG w0 _ _ (SG []); rw [H0.out]; exact World.ownsRow_nil _ _ _ _, Below.refl _ _⟩
  case round =>
    obtain ⟨k, hk, rfl, hO, hB⟩ := hrel
    have hBs := hB.size
    by_cases hkm : k < m
    · obtain ⟨j, hj⟩ : ∃ j, j = 2 * k := ⟨_, rfl⟩
      rw [← hj] at hO ⊢
      have hjs : j < s.size := by omega
      have hjs1 : j + 1 < s.size := by omega
      have hjs' : (j : Int) < s.size := by omega
      have hjs1' : (j : Int) + 1 < s.size := by omega
      obtain ⟨a, ha⟩ : ∃ a, a = s[j] := ⟨_, rfl⟩
      obtain ⟨b, hb⟩ : ∃ b, b = s[j + 1] := ⟨_, rfl⟩
      have hjl : j < L.length := by rw [HL.out.2]; exact hjs
      have hjl1 : j + 1 < L.length := by rw [HL.out.2]; exact hjs1
      have HTK := hid (take2 HL.out.1 hjs1 ha hb)
      have hab : s[j] = a := ha.symm
      have hbb : s[j + 1] = b := hb.symm
      have hwr := u8_wrap a
      have hwr1 := u8_wrap b
      have hwm := u16_m a
      have hwm2 := u16_s a b
      have HJ := hid hj
      clear ha hb hj hjl hjl1
      have C0 := u16_nn a b
      have C1 := u16_le a b
      have HWD := hid (fun W (hW : Below w.heap.size w W) => HWD'.out W hW ((a.toNat : Int) * 256 + b.toNat) C0 C1)
      have HCT := hid (fun W (hW : Below w.heap.size w W) => HCT'.out W hW ((a.toNat : Int) * 256 + b.toNat))
      have HTXc := hid (HTX.out ((a.toNat : Int) * 256 + b.toNat))
      have HDc := hid (HD.out (L.take j) a b k (by rw [List.length_take, HL.out.2, HJ.out]; omega))
      clear C0 C1
      have A00 := HA0.out.later hB
      obtain ⟨k0, k1, k2, k3, k4⟩ := ftC A00
      have z0 := A00.lt
      have HO0 := hid hO
      have HB00 := hid hB
      clear hO hB A00
      go_wp2_with fail
      go_region
      clear k0 k1 k2 k3 k4 z0
      have hO : OwnG wr.drew w0.heap.size u6 (SG (L.take j)) := HO0.out
      have hB := HB00.out.drew
      have hBs2 : w0.heap.size ≤ wr.drew.heap.size := hBs
      clear HO0 HB00
      generalize wr.drew = wr2 at *
      have HNL := hid (show (SG (L.take j)).length ≤ 1000000 from Nat.le_trans (HLN.out (L.take j)) (by rw [List.length_take]; have := HL.out.2; omega))
      have HBW := hid (HB0.out.trans (hB.mono (Nat.le_of_lt hz0)))
      have A0 := HA0.out.later hB
      have HA1 := hid A0
      have HBk := hid hB
      obtain ⟨k0, k1, k2, k3, k4⟩ := ftC A0
      have z0 := A0.lt
      clear A0 hB
      have e1 := HWD.out wr2 HBW.out
      generalize hdn : (L.take j) = dn at *
      have HWP := hid (show sgP F ((a.toNat : Int) * 256 + b.toNat) = ⟨((a.toNat : Int) * 256 + b.toNat), wdP F ((a.toNat : Int) * 256 + b.toNat), ⟨(txP F ((a.toNat : Int) * 256 + b.toNat)).toArray⟩⟩ from rfl)
      rw [HTXc.out] at HWP
      unfold wdP at HWP
      have HDN := hid hdn
      clear hdn
      cases hwf : F.wf ((a.toNat : Int) * 256 + b.toNat) with
      | some v0 =>
        rw [hwf] at e1 HWP
        simp only [Option.getD_some, Option.isSome_some] at e1 HWP
        clear hwf
        cases hct : codeT F.l ((a.toNat : Int) * 256 + b.toNat) with
        | some t0 =>
          rw [hct] at HCT HWP
          simp only [Option.getD_some, Option.isSome_some] at HCT HWP
          clear hct
          go_wp2_with (go_at_call 42; fail)
          go_at_call 42
          refine (HCT.out _ HBW.out).mono ?_
          rintro e w1 ⟨rfl, hb1⟩
          have A1 := HA1.out.later hb1
          have HB1 := hid hb1
          clear hb1 k0 k1 k2 k3 k4 z0
          obtain ⟨k0, k1, k2, k3, k4⟩ := ftC A1
          have z0 := A1.lt
          go_wp2_with (at_builtin; refine wpAppL rfl _ _ rfl w0.heap.size _ (SG dn) rfl ((hO.later HB1.out).later (by go_grown)) _ ⟨((a.toNat : Int) * 256 + b.toNat), v0, ⟨(t0).toArray⟩⟩ 1 rfl (At.new _ _ _ (by first | rfl | (simp; done))) HNL.out (by have q1 := HBk.out.size; have q2 := HB1.out.size; first | exact Nat.le_trans q1 q2 | exact Nat.le_trans (Nat.le_trans q1 q2) (by simp)) ?_; intro v3 w3 ho3 hg3)
          have HB3 := hid (bwG hg3 ((hO.later HB1.out).later (by go_grown)) ((HBk.out.trans (HB1.out.mono HBk.out.size)).alloc (Nat.le_trans HBk.out.size HB1.out.size) _))
          clear hg3
          go_wp2_with fail
          go_roundw
          case rel => exact ⟨k + 1, by omega, by have := HJ.out; subst this; first | go_num | (congr 1; push_cast; omega), by rw [show 2 * (k + 1) = j + 2 by have := HJ.out; omega, HTK.out, HDc.out, HWP.out]; exact ho3, HB3.out⟩
          case measure => have := HJ.out; subst this; simp [intOf]; omega
        | none =>
          rw [hct] at HCT HWP
          simp only [Option.getD_none, Option.isSome_none] at HCT HWP
          clear hct
          go_wp2_with (go_at_call 42; fail)
          go_at_call 42
          refine (HCT.out _ HBW.out).mono ?_
          rintro e w1 ⟨rfl, hb1⟩
          have A1 := HA1.out.later hb1
          have HB1 := hid hb1
          clear hb1 k0 k1 k2 k3 k4 z0
          obtain ⟨k0, k1, k2, k3, k4⟩ := ftC A1
          have z0 := A1.lt
          go_wp2_with (at_builtin; refine wpAppL rfl _ _ rfl w0.heap.size _ (SG dn) rfl ((hO.later HB1.out).later (by go_grown)) _ ⟨((a.toNat : Int) * 256 + b.toNat), v0, ⟨([]).toArray⟩⟩ 1 rfl (At.new _ _ _ (by first | rfl | (simp; done))) HNL.out (by have q1 := HBk.out.size; have q2 := HB1.out.size; first | exact Nat.le_trans q1 q2 | exact Nat.le_trans (Nat.le_trans q1 q2) (by simp)) ?_; intro v3 w3 ho3 hg3)
          have HB3 := hid (bwG hg3 ((hO.later HB1.out).later (by go_grown)) ((HBk.out.trans (HB1.out.mono HBk.out.size)).alloc (Nat.le_trans HBk.out.size HB1.out.size) _))
          clear hg3
          go_wp2_with fail
          go_roundw
          case rel => exact ⟨k + 1, by omega, by have := HJ.out; subst this; first | go_num | (congr 1; push_cast; omega), by rw [show 2 * (k + 1) = j + 2 by have := HJ.out; omega, HTK.out, HDc.out, HWP.out]; exact ho3, HB3.out⟩
          case measure => have := HJ.out; subst this; simp [intOf]; omega
      | none =>
        rw [hwf] at e1 HWP
        simp only [Option.getD_none, Option.isSome_none] at e1 HWP
        clear hwf
        cases hct : codeT F.l ((a.toNat : Int) * 256 + b.toNat) with
        | some t0 =>
          rw [hct] at HCT HWP
          simp only [Option.getD_some, Option.isSome_some] at HCT HWP
          clear hct
          go_wp2_with (go_at_call 42; fail)
          go_at_call 42
          refine (HCT.out _ HBW.out).mono ?_
          rintro e w1 ⟨rfl, hb1⟩
          have A1 := HA1.out.later hb1
          have HB1 := hid hb1
          clear hb1 k0 k1 k2 k3 k4 z0
          obtain ⟨k0, k1, k2, k3, k4⟩ := ftC A1
          have z0 := A1.lt
          go_wp2_with (at_builtin; refine wpAppL rfl _ _ rfl w0.heap.size _ (SG dn) rfl ((hO.later HB1.out).later (by go_grown)) _ ⟨((a.toNat : Int) * 256 + b.toNat), F.miss, ⟨(t0).toArray⟩⟩ 1 rfl (At.new _ _ _ (by first | rfl | (simp; done))) HNL.out (by have q1 := HBk.out.size; have q2 := HB1.out.size; first | exact Nat.le_trans q1 q2 | exact Nat.le_trans (Nat.le_trans q1 q2) (by simp)) ?_; intro v3 w3 ho3 hg3)
          have HB3 := hid (bwG hg3 ((hO.later HB1.out).later (by go_grown)) ((HBk.out.trans (HB1.out.mono HBk.out.size)).alloc (Nat.le_trans HBk.out.size HB1.out.size) _))
          clear hg3
          go_wp2_with fail
          go_roundw
          case rel => exact ⟨k + 1, by omega, by have := HJ.out; subst this; first | go_num | (congr 1; push_cast; omega), by rw [show 2 * (k + 1) = j + 2 by have := HJ.out; omega, HTK.out, HDc.out, HWP.out]; exact ho3, HB3.out⟩
          case measure => have := HJ.out; subst this; simp [intOf]; omega
        | none =>
          rw [hct] at HCT HWP
          simp only [Option.getD_none, Option.isSome_none] at HCT HWP
          clear hct
          go_wp2_with (go_at_call 42; fail)
          go_at_call 42
          refine (HCT.out _ HBW.out).mono ?_
          rintro e w1 ⟨rfl, hb1⟩
          have A1 := HA1.out.later hb1
          have HB1 := hid hb1
          clear hb1 k0 k1 k2 k3 k4 z0
          obtain ⟨k0, k1, k2, k3, k4⟩ := ftC A1
          have z0 := A1.lt
          go_wp2_with (at_builtin; refine wpAppL rfl _ _ rfl w0.heap.size _ (SG dn) rfl ((hO.later HB1.out).later (by go_grown)) _ ⟨((a.toNat : Int) * 256 + b.toNat), F.miss, ⟨([]).toArray⟩⟩ 1 rfl (At.new _ _ _ (by first | rfl | (simp; done))) HNL.out (by have q1 := HBk.out.size; have q2 := HB1.out.size; first | exact Nat.le_trans q1 q2 | exact Nat.le_trans (Nat.le_trans q1 q2) (by simp)) ?_; intro v3 w3 ho3 hg3)
          have HB3 := hid (bwG hg3 ((hO.later HB1.out).later (by go_grown)) ((HBk.out.trans (HB1.out.mono HBk.out.size)).alloc (Nat.le_trans HBk.out.size HB1.out.size) _))
          clear hg3
          go_wp2_with fail
          go_roundw
          case rel => exact ⟨k + 1, by omega, by have := HJ.out; subst this; first | go_num | (congr 1; push_cast; omega), by rw [show 2 * (k + 1) = j + 2 by have := HJ.out; omega, HTK.out, HDc.out, HWP.out]; exact ho3, HB3.out⟩
          case measure => have := HJ.out; subst this; simp [intOf]; omega
    · have hjs' : ¬ ((2 * k : Nat) : Int) < s.size := by omega
      have e : L.take (2 * k) = L := List.take_of_length_le (by rw [HL.out.2]; omega)
      rw [e] at hO
      go_wp2_with fail
      go_ret2
      exact ⟨_, rfl, hO.base (Nat.le_of_lt hz0), HB0.out.trans (hB.mono (Nat.le_of_lt hz0))⟩
end Go.Proofs.YtggojafapieliabDoor
