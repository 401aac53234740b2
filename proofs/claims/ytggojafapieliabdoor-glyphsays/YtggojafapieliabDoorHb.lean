/-
  The signs of a string in a font: the document's answer.
-/
import Derived.Test.YtggojafapieliabDoorHa
import Derived.Test.YtggojafapieliabDoorGj
import Derived.Test.YtggojafapieliabDoorCl
namespace Go.Proofs.YtggojafapieliabDoor
open Go.RowKit
set_option maxRecDepth 100000
attribute [local go_sem ↓] Go.wp_at_zero Go.wp_at_succ

theorem convB (W : World) (c : UInt8) (g k : Nat) (h : W.cell? ⟨g, 0, none⟩ = some (.int .u8 (c.toNat : Int))) : (convert 73 9 (.slice (some ⟨g, 0, none⟩) 1 k)).run Tryd.prog W = .ok (.string ⟨#[c]⟩) W :=
  conv_row (d := [c]) rfl (fun j hj => by
    have : j = 0 := by simp at hj; exact hj
    subst this
    rw [Lib.add_plain, Nat.zero_add]; exact h)
theorem wpAppL {ops : Array Oper} {rest : List Oper} {o : Oper} {a : Act} {W : World} {Q : Exit → Act → World → Prop} (hgd : o.guard = none) (s x : Operand) (ho : o.op = .call { callee := .builtin .append, args := #[s, x], argTypes := #[47, 47] })
    (B : Nat) (v : Value) (l : List Sp) (hs : a.eval s = v) (hown : OwnG W B v l) (g : Nat) (y : Sp) (c : Nat) (hx : a.eval x = .slice (some ⟨g, 0, none⟩) 1 c) (hg : At W g 55 #[.int .i64 y.f, .int .i64 y.t, .string y.s]) (hlim : l.length ≤ 1000000) (hB : B ≤ W.heap.size)
    (h : ∀ v' w', OwnG w' B v' (l ++ [y]) → W.grownBy w' v.ownBlock → wpList Tryd.prog ops Q rest (a.put o.dst v') w') : wpList Tryd.prog ops Q (o :: rest) a W := by
  refine wpList_plain hgd fun K hK => ?_
  obtain ⟨iF, hiF, hf0, hf1, hf2⟩ := info_parts infoSg
  obtain ⟨v', w', hr, h2, h3, _, _⟩ := run_append_own_at (P := Tryd.prog) W B 47 o.type 55 iF _ 3 32 Tryd.underlying47 hiF hf0 hf1 hf2 rfl (by decide) v l.length (clG l) hown ⟨g, 0, none⟩ 1 c [.int .i64 y.f, .int .i64 y.t, .string y.s] rfl (World.news_of_block hg) (by simp [Value.oneCell']) (by unfold maxLen; omega) (by omega) hB
  unfold Oper.wp execOp
  simp only [ho, resolve, invoke, builtin, Sem.run_bind, Sem.run_pure, Result.andThen_ok, List.map_toArray, List.map_cons, List.map_nil, hs, hx, hr]
  refine hK _ _ (h v' w' ?_ h3)
  unfold OwnG
  rw [show clG (l ++ [y]) = clG l ++ [.int .i64 y.f, .int .i64 y.t, .string y.s] by unfold clG; rw [List.flatMap_append]; rfl, List.length_append]
  exact h2
theorem sz1 {L : List UInt8} {k : Nat} (h : k < L.length) : L = L.take k ++ L.drop k ∧ L.take (k + 1) = L.take k ++ [L[k]] := ⟨(List.take_append_drop k L).symm, List.take_succ_eq_append_getElem h⟩
theorem sgL_len' (F : Ft) (x : List UInt8) : (sgL F x).length ≤ x.length := by
  unfold sgL
  rw [List.length_map]
  cases F.wide with
  | false => simp [cdL]
  | true => exact cdL_len x.length x (Nat.le_refl _)
theorem take1 {s : ByteArray} {L : List UInt8} {k : Nat} {c : UInt8} (hL : L = s.data.toList) (hk : k < s.size) (hc : c = s[k]) : L.take (k + 1) = L.take k ++ [c] := by
  subst hL hc
  exact take_snoc s k hk
theorem take2 {s : ByteArray} {L : List UInt8} {j : Nat} {a b : UInt8} (hL : L = s.data.toList) (hj : j + 1 < s.size) (ha : a = s[j]) (hb : b = s[j + 1]) : L.take (j + 2) = L.take j ++ [a, b] := by
  rw [take1 hL hj hb, take1 hL (by omega) ha, List.append_assoc]; rfl
theorem u16_m (a : UInt8) : wrap64 (256 * (a.toNat : Int)) = (a.toNat : Int) * 256 := by have := a.toNat_lt; unfold wrap64; omega
theorem u16_s (a b : UInt8) : wrap64 ((a.toNat : Int) * 256 + (b.toNat : Int)) = (a.toNat : Int) * 256 + (b.toNat : Int) := by have := a.toNat_lt; have := b.toNat_lt; unfold wrap64; omega
set_option maxHeartbeats 1000000 in
theorem rSigns_narrow (F : Ft) (mw mn : Value) (al : Option Addr) (cap : Nat) (s : ByteArray) (w : World) (hw : F.wide = false) (hs : s.size ≤ 1000) (hF : FtAt w F mw mn al) (hf : spFault F.l F.wide = 0) :
    Calls Tryd.prog 20 #[ftV F mw mn al cap, .string s] w fun e w' => ∃ v, e = .returned (.tuple #[v, .int .i64 0]) ∧ OwnG w' w.heap.size v (sgL F s.data.toList) ∧ Below w.heap.size w w' := by
  have HWD' := hid (fun W (hB : Below w.heap.size w W) c (h0 : 0 ≤ c) (h1 : c ≤ 65535) => hF.wd W hB c h0 h1)
  have HNM' := hid (fun W (hB : Below w.heap.size w W) c (h0 : 0 ≤ c) (h1 : c ≤ 65535) => hF.nm W hB c h0 h1)
  have HNS := hid hF.ns
  have HCT' := hid (fun W (hB : Below w.heap.size w W) c => codeText_sp F.l F.wide c al cap W (spFault_ok hf).1 (hF.sp.later hB) hf)
  have HD := hid (show ∀ dn (c : UInt8), sgL F (dn ++ [c]) = sgL F dn ++ [sgP F (c.toNat : Int)] from fun dn c => by unfold sgL; rw [hw]; simp [cdL])
  have H0 := hid (show sgL F [] = [] by unfold sgL; rw [hw]; rfl)
  have HLN := hid (fun dn => sgL_len' F dn)
  have HTX := hid (show ∀ c, txP F c = match codeT F.l c with | some t => t | none => (match F.nf c with | some n => (glP n.data.toList).getD [] | none => if 32 ≤ c ∧ c ≤ 126 then [UInt8.ofNat c.toNat] else []) from fun c => by unfold txP; rw [hw]; rfl)
  obtain ⟨L, hL⟩ : ∃ L, L = s.data.toList := ⟨_, rfl⟩
  rw [← hL]
  have HL := hid (show L = s.data.toList ∧ L.length = s.size from ⟨hL, by rw [hL]; simp⟩)
  clear hF hf hL
  generalize sgL F = SG at *
  unfold ftV at *
  rw [hw] at *
  have hm : ((s.size : Int) % 1) = 0 := by omega
  clear hw
  go_enter Tryd.func20, Tryd.ntmps20
  go_wp2_with fail
  have hA0 : At (w.alloc (.cells #[.bool false, mw, .int .i64 F.miss, mn, .slice al F.l.length cap] 44)) w.heap.size 44 #[.bool false, mw, .int .i64 F.miss, mn, .slice al F.l.length cap] := At.new _ _ _ rfl
  have hB0 : Below w.heap.size w (w.alloc (.cells #[.bool false, mw, .int .i64 F.miss, mn, .slice al F.l.length cap] 44)) := by go_grown
  generalize w.alloc (.cells #[.bool false, mw, .int .i64 F.miss, mn, .slice al F.l.length cap] 44) = w0 at hA0 hB0 ⊢
  have hz0 := hA0.lt
  have HA0 := hid hA0
  have HB0 := hid hB0
  clear hA0 hB0
  go_loopw [6, 8] (fun v i wr => ∃ k : Nat, k ≤ s.size ∧ i = .int .i64 (k : Int) ∧ OwnG wr w0.heap.size v (SG (L.take k)) ∧ Below w0.heap.size w0 wr) (fun _ i _ => s.size - (intOf i).toNat)
  case atStart => exact ⟨0, Nat.zero_le _, rfl, by show OwnG w0 _ _ (SG []); rw [H0.out]; exact World.ownsRow_nil _ _ _ _, Below.refl _ _⟩
  case round =>
    obtain ⟨k, hk, rfl, hO, hB⟩ := hrel
    have hBs := hB.size
    by_cases hkm : k < s.size
    · have hjs' : (k : Int) < s.size := by omega
      obtain ⟨c, hc⟩ : ∃ c, c = s[k] := ⟨_, rfl⟩
      have HTK := hid (take1 HL.out.1 hkm hc)
      have hab : s[k] = c := hc.symm
      have hwr := u8_wrap c
      clear hc
      have C0 := u8_nn c
      have C1 := u8_le c
      have HWD := hid (fun W (hW : Below w.heap.size w W) => HWD'.out W hW (c.toNat : Int) C0 C1)
      have HNM := hid (fun W (hW : Below w.heap.size w W) => HNM'.out W hW (c.toNat : Int) C0 C1)
      have HCT := hid (fun W (hW : Below w.heap.size w W) => HCT'.out W hW (c.toNat : Int))
      have HTXc := hid (HTX.out (c.toNat : Int))
      have HDc := hid (HD.out (L.take k) c)
      have HNSc := hid (HNS.out (c.toNat : Int))
      clear C0 C1
      have HNL := hid (show (SG (L.take k)).length ≤ 1000000 from Nat.le_trans (HLN.out (L.take k)) (by rw [List.length_take]; have := HL.out.2; omega))
      have HBW := hid (HB0.out.trans (hB.mono (Nat.le_of_lt hz0)))
      have A0 := HA0.out.later hB
      have HA1 := hid A0
      have HBk := hid hB
      obtain ⟨k0, k1, k2, k3, k4⟩ := ftC A0
      have z0 := A0.lt
      clear A0 hB
      have e1 := HWD.out wr HBW.out
      generalize hdn : (L.take k) = dn at *
      have HWP := hid (show sgP F (c.toNat : Int) = ⟨(c.toNat : Int), wdP F (c.toNat : Int), ⟨(txP F (c.toNat : Int)).toArray⟩⟩ from rfl)
      rw [HTXc.out] at HWP
      unfold wdP at HWP
      have HDN := hid hdn
      clear hdn
      cases hwf : F.wf (c.toNat : Int) with
      | some v0 =>
        rw [hwf] at e1 HWP
        simp only [Option.getD_some, Option.isSome_some] at e1 HWP
        clear hwf
        cases hct : codeT F.l (c.toNat : Int) with
        | some t0 =>
          rw [hct] at HCT HWP
          simp only [Option.getD_some, Option.isSome_some] at HCT HWP
          clear hct
          go_wp2_with (go_at_call 42; fail)
          go_at_call 42
          refine (HCT.out _ HBW.out).mono ?_
          rintro e w1 ⟨rfl, hb1⟩
          have A1 := HA1.out.later hb1
          have HB1 := hid hb1
          clear hb1 k0 k1 k2 k3 k4 z0
          obtain ⟨k0, k1, k2, k3, k4⟩ := ftC A1
          have z0 := A1.lt
          go_wp2_with (at_builtin; refine wpAppL rfl _ _ rfl w0.heap.size _ (SG dn) rfl ((hO.later HB1.out).later (by go_grown)) _ ⟨(c.toNat : Int), v0, ⟨(t0).toArray⟩⟩ 1 rfl (At.new _ _ _ (by first | rfl | (simp; done))) HNL.out (by have q1 := HBk.out.size; have q2 := HB1.out.size; first | exact Nat.le_trans q1 q2 | exact Nat.le_trans (Nat.le_trans q1 q2) (by simp)) ?_; intro v3 w3 ho3 hg3)
          have HB3 := hid (bwG hg3 ((hO.later HB1.out).later (by go_grown)) ((HBk.out.trans (HB1.out.mono HBk.out.size)).alloc (Nat.le_trans HBk.out.size HB1.out.size) _))
          clear hg3
          go_wp2_with fail
          go_roundw
          case rel => exact ⟨k + 1, by omega, by go_num, by rw [HTK.out, HDc.out, HWP.out]; exact ho3, HB3.out⟩
          case measure => simp [intOf]; omega
        | none =>
          rw [hct] at HCT HWP
          simp only [Option.getD_none, Option.isSome_none] at HCT HWP
          clear hct
          cases hnf : F.nf (c.toNat : Int) with
          | some n0 =>
            have HGL := hid (fun W => rGlyph_says n0 W (HNSc.out n0 hnf))
            rw [hnf] at HNM HWP
            simp only [Option.getD_some, Option.isSome_some] at HNM HWP
            clear hnf HNSc
            go_wp2_with (go_at_call 42; fail)
            go_at_call 42
            refine (HCT.out _ HBW.out).mono ?_
            rintro e w1 ⟨rfl, hb1⟩
            have A1 := HA1.out.later hb1
            have HB1 := hid hb1
            clear hb1 k0 k1 k2 k3 k4 z0
            obtain ⟨k0, k1, k2, k3, k4⟩ := ftC A1
            have z0 := A1.lt
            have e2 := HNM.out w1 (chn' HBW.out HB1.out)
            go_wp2_with (go_at_call 18; fail)
            go_at_call 18
            refine (HGL.out _).mono ?_
            rintro e w2 ⟨rfl, hb2⟩
            unfold ansG
            have A2 := A1.later hb2
            have HB2 := hid (chn' HB1.out hb2)
            clear hb2 k0 k1 k2 k3 k4 z0 e2 A1
            obtain ⟨k0, k1, k2, k3, k4⟩ := ftC A2
            have z0 := A2.lt
            go_wp2_with (at_builtin; refine wpAppL rfl _ _ rfl w0.heap.size _ (SG dn) rfl ((hO.later HB2.out).later (by go_grown)) _ ⟨(c.toNat : Int), v0, ⟨((glP n0.data.toList).getD []).toArray⟩⟩ 1 rfl (At.new _ _ _ (by first | rfl | (simp; done))) HNL.out (by have q1 := HBk.out.size; have q2 := HB2.out.size; first | exact Nat.le_trans q1 q2 | exact Nat.le_trans (Nat.le_trans q1 q2) (by simp)) ?_; intro v3 w3 ho3 hg3)
            have HB3 := hid (bwG hg3 ((hO.later HB2.out).later (by go_grown)) ((HBk.out.trans (HB2.out.mono HBk.out.size)).alloc (Nat.le_trans HBk.out.size HB2.out.size) _))
            clear hg3
            go_wp2_with fail
            go_roundw
            case rel => exact ⟨k + 1, by omega, by go_num, by rw [HTK.out, HDc.out, HWP.out]; exact ho3, HB3.out⟩
            case measure => simp [intOf]; omega
          | none =>
            rw [hnf] at HNM HWP
            simp only [Option.getD_none, Option.isSome_none] at HNM HWP
            clear hnf HNSc
            by_cases r1 : (32 : Int) ≤ (c.toNat : Int)
            · by_cases r2 : (c.toNat : Int) ≤ 126
              · have r3 : (c.toNat : Int) < 127 := by omega
                rw [if_pos ⟨r1, r2⟩] at HWP
                rw [show UInt8.ofNat ((c.toNat : Int)).toNat = c by simp] at HWP
                go_wp2_with (go_at_call 42; fail)
                go_at_call 42
                refine (HCT.out _ HBW.out).mono ?_
                rintro e w1 ⟨rfl, hb1⟩
                have A1 := HA1.out.later hb1
                have HB1 := hid hb1
                clear hb1 k0 k1 k2 k3 k4 z0
                obtain ⟨k0, k1, k2, k3, k4⟩ := ftC A1
                have z0 := A1.lt
                have e2 := HNM.out w1 (chn' HBW.out HB1.out)
                have ecv := convB (w1.alloc (.cells #[.int .u8 (c.toNat : Int)] 5)) c w1.heap.size 1 (by first | exact World.cell?_alloc_new .. | simp)
                have HBa := hid (chn' HB1.out (show Below w1.heap.size w1 (w1.alloc (.cells #[.int .u8 (c.toNat : Int)] 5)) by go_grown))
                go_wp2_with (at_builtin; refine wpAppL rfl _ _ rfl w0.heap.size _ (SG dn) rfl ((hO.later HBa.out).later (by go_grown)) _ ⟨(c.toNat : Int), v0, ⟨([c]).toArray⟩⟩ 1 rfl (At.new _ _ _ (by first | rfl | (simp; done))) HNL.out (by have q1 := HBk.out.size; have q2 := HBa.out.size; first | exact Nat.le_trans q1 q2 | exact Nat.le_trans (Nat.le_trans q1 q2) (by simp)) ?_; intro v3 w3 ho3 hg3)
                have HB3 := hid (bwG hg3 ((hO.later HBa.out).later (by go_grown)) ((HBk.out.trans (HBa.out.mono HBk.out.size)).alloc (Nat.le_trans HBk.out.size HBa.out.size) _))
                clear hg3
                go_wp2_with fail
                go_roundw
                case rel => exact ⟨k + 1, by omega, by go_num, by rw [HTK.out, HDc.out, HWP.out]; exact ho3, HB3.out⟩
                case measure => simp [intOf]; omega
              · have r3 : ¬ (c.toNat : Int) < 127 := by omega
                rw [if_neg (fun q => r2 q.2)] at HWP
                go_wp2_with (go_at_call 42; fail)
                go_at_call 42
                refine (HCT.out _ HBW.out).mono ?_
                rintro e w1 ⟨rfl, hb1⟩
                have A1 := HA1.out.later hb1
                have HB1 := hid hb1
                clear hb1 k0 k1 k2 k3 k4 z0
                obtain ⟨k0, k1, k2, k3, k4⟩ := ftC A1
                have z0 := A1.lt
                have e2 := HNM.out w1 (chn' HBW.out HB1.out)
                go_wp2_with (at_builtin; refine wpAppL rfl _ _ rfl w0.heap.size _ (SG dn) rfl ((hO.later HB1.out).later (by go_grown)) _ ⟨(c.toNat : Int), v0, ⟨([]).toArray⟩⟩ 1 rfl (At.new _ _ _ (by first | rfl | (simp; done))) HNL.out (by have q1 := HBk.out.size; have q2 := HB1.out.size; first | exact Nat.le_trans q1 q2 | exact Nat.le_trans (Nat.le_trans q1 q2) (by simp)) ?_; intro v3 w3 ho3 hg3)
                have HB3 := hid (bwG hg3 ((hO.later HB1.out).later (by go_grown)) ((HBk.out.trans (HB1.out.mono HBk.out.size)).alloc (Nat.le_trans HBk.out.size HB1.out.size) _))
                clear hg3
                go_wp2_with fail
                go_roundw
                case rel => exact ⟨k + 1, by omega, by go_num, by rw [HTK.out, HDc.out, HWP.out]; exact ho3, HB3.out⟩
                case measure => simp [intOf]; omega
            · rw [if_neg (fun q => r1 q.1)] at HWP
              go_wp2_with (go_at_call 42; fail)
              go_at_call 42
              refine (HCT.out _ HBW.out).mono ?_
              rintro e w1 ⟨rfl, hb1⟩
              have A1 := HA1.out.later hb1
              have HB1 := hid hb1
              clear hb1 k0 k1 k2 k3 k4 z0
              obtain ⟨k0, k1, k2, k3, k4⟩ := ftC A1
              have z0 := A1.lt
              have e2 := HNM.out w1 (chn' HBW.out HB1.out)
              go_wp2_with (at_builtin; refine wpAppL rfl _ _ rfl w0.heap.size _ (SG dn) rfl ((hO.later HB1.out).later (by go_grown)) _ ⟨(c.toNat : Int), v0, ⟨([]).toArray⟩⟩ 1 rfl (At.new _ _ _ (by first | rfl | (simp; done))) HNL.out (by have q1 := HBk.out.size; have q2 := HB1.out.size; first | exact Nat.le_trans q1 q2 | exact Nat.le_trans (Nat.le_trans q1 q2) (by simp)) ?_; intro v3 w3 ho3 hg3)
              have HB3 := hid (bwG hg3 ((hO.later HB1.out).later (by go_grown)) ((HBk.out.trans (HB1.out.mono HBk.out.size)).alloc (Nat.le_trans HBk.out.size HB1.out.size) _))
              clear hg3
              go_wp2_with fail
              go_roundw
              case rel => exact ⟨k + 1, by omega, by go_num, by rw [HTK.out, HDc.out, HWP.out]; exact ho3, HB3.out⟩
              case measure => simp [intOf]; omega
      | none =>
        rw [hwf] at e1 HWP
        simp only [Option.getD_none, Option.isSome_none] at e1 HWP
        clear hwf
        cases hct : codeT F.l (c.toNat : Int) with
        | some t0 =>
          rw [hct] at HCT HWP
          simp only [Option.getD_some, Option.isSome_some] at HCT HWP
          clear hct
          go_wp2_with (go_at_call 42; fail)
          go_at_call 42
          refine (HCT.out _ HBW.out).mono ?_
          rintro e w1 ⟨rfl, hb1⟩
          have A1 := HA1.out.later hb1
          have HB1 := hid hb1
          clear hb1 k0 k1 k2 k3 k4 z0
          obtain ⟨k0, k1, k2, k3, k4⟩ := ftC A1
          have z0 := A1.lt
          go_wp2_with (at_builtin; refine wpAppL rfl _ _ rfl w0.heap.size _ (SG dn) rfl ((hO.later HB1.out).later (by go_grown)) _ ⟨(c.toNat : Int), F.miss, ⟨(t0).toArray⟩⟩ 1 rfl (At.new _ _ _ (by first | rfl | (simp; done))) HNL.out (by have q1 := HBk.out.size; have q2 := HB1.out.size; first | exact Nat.le_trans q1 q2 | exact Nat.le_trans (Nat.le_trans q1 q2) (by simp)) ?_; intro v3 w3 ho3 hg3)
          have HB3 := hid (bwG hg3 ((hO.later HB1.out).later (by go_grown)) ((HBk.out.trans (HB1.out.mono HBk.out.size)).alloc (Nat.le_trans HBk.out.size HB1.out.size) _))
          clear hg3
          go_wp2_with fail
          go_roundw
          case rel => exact ⟨k + 1, by omega, by go_num, by rw [HTK.out, HDc.out, HWP.out]; exact ho3, HB3.out⟩
          case measure => simp [intOf]; omega
        | none =>
          rw [hct] at HCT HWP
          simp only [Option.getD_none, Option.isSome_none] at HCT HWP
          clear hct
          cases hnf : F.nf (c.toNat : Int) with
          | some n0 =>
            have HGL := hid (fun W => rGlyph_says n0 W (HNSc.out n0 hnf))
            rw [hnf] at HNM HWP
            simp only [Option.getD_some, Option.isSome_some] at HNM HWP
            clear hnf HNSc
            go_wp2_with (go_at_call 42; fail)
            go_at_call 42
            refine (HCT.out _ HBW.out).mono ?_
            rintro e w1 ⟨rfl, hb1⟩
            have A1 := HA1.out.later hb1
            have HB1 := hid hb1
            clear hb1 k0 k1 k2 k3 k4 z0
            obtain ⟨k0, k1, k2, k3, k4⟩ := ftC A1
            have z0 := A1.lt
            have e2 := HNM.out w1 (chn' HBW.out HB1.out)
            go_wp2_with (go_at_call 18; fail)
            go_at_call 18
            refine (HGL.out _).mono ?_
            rintro e w2 ⟨rfl, hb2⟩
            unfold ansG
            have A2 := A1.later hb2
            have HB2 := hid (chn' HB1.out hb2)
            clear hb2 k0 k1 k2 k3 k4 z0 e2 A1
            obtain ⟨k0, k1, k2, k3, k4⟩ := ftC A2
            have z0 := A2.lt
            go_wp2_with (at_builtin; refine wpAppL rfl _ _ rfl w0.heap.size _ (SG dn) rfl ((hO.later HB2.out).later (by go_grown)) _ ⟨(c.toNat : Int), F.miss, ⟨((glP n0.data.toList).getD []).toArray⟩⟩ 1 rfl (At.new _ _ _ (by first | rfl | (simp; done))) HNL.out (by have q1 := HBk.out.size; have q2 := HB2.out.size; first | exact Nat.le_trans q1 q2 | exact Nat.le_trans (Nat.le_trans q1 q2) (by simp)) ?_; intro v3 w3 ho3 hg3)
            have HB3 := hid (bwG hg3 ((hO.later HB2.out).later (by go_grown)) ((HBk.out.trans (HB2.out.mono HBk.out.size)).alloc (Nat.le_trans HBk.out.size HB2.out.size) _))
            clear hg3
            go_wp2_with fail
            go_roundw
            case rel => exact ⟨k + 1, by omega, by go_num, by rw [HTK.out, HDc.out, HWP.out]; exact ho3, HB3.out⟩
            case measure => simp [intOf]; omega
          | none =>
            rw [hnf] at HNM HWP
            simp only [Option.getD_none, Option.isSome_none] at HNM HWP
            clear hnf HNSc
            by_cases r1 : (32 : Int) ≤ (c.toNat : Int)
            · by_cases r2 : (c.toNat : Int) ≤ 126
              · have r3 : (c.toNat : Int) < 127 := by omega
                rw [if_pos ⟨r1, r2⟩] at HWP
                rw [show UInt8.ofNat ((c.toNat : Int)).toNat = c by simp] at HWP
                go_wp2_with (go_at_call 42; fail)
                go_at_call 42
                refine (HCT.out _ HBW.out).mono ?_
                rintro e w1 ⟨rfl, hb1⟩
                have A1 := HA1.out.later hb1
                have HB1 := hid hb1
                clear hb1 k0 k1 k2 k3 k4 z0
                obtain ⟨k0, k1, k2, k3, k4⟩ := ftC A1
                have z0 := A1.lt
                have e2 := HNM.out w1 (chn' HBW.out HB1.out)
                have ecv := convB (w1.alloc (.cells #[.int .u8 (c.toNat : Int)] 5)) c w1.heap.size 1 (by first | exact World.cell?_alloc_new .. | simp)
                have HBa := hid (chn' HB1.out (show Below w1.heap.size w1 (w1.alloc (.cells #[.int .u8 (c.toNat : Int)] 5)) by go_grown))
                go_wp2_with (at_builtin; refine wpAppL rfl _ _ rfl w0.heap.size _ (SG dn) rfl ((hO.later HBa.out).later (by go_grown)) _ ⟨(c.toNat : Int), F.miss, ⟨([c]).toArray⟩⟩ 1 rfl (At.new _ _ _ (by first | rfl | (simp; done))) HNL.out (by have q1 := HBk.out.size; have q2 := HBa.out.size; first | exact Nat.le_trans q1 q2 | exact Nat.le_trans (Nat.le_trans q1 q2) (by simp)) ?_; intro v3 w3 ho3 hg3)
                have HB3 := hid (bwG hg3 ((hO.later HBa.out).later (by go_grown)) ((HBk.out.trans (HBa.out.mono HBk.out.size)).alloc (Nat.le_trans HBk.out.size HBa.out.size) _))
                clear hg3
                go_wp2_with fail
                go_roundw
                case rel => exact ⟨k + 1, by omega, by go_num, by rw [HTK.out, HDc.out, HWP.out]; exact ho3, HB3.out⟩
                case measure => simp [intOf]; omega
              · have r3 : ¬ (c.toNat : Int) < 127 := by omega
                rw [if_neg (fun q => r2 q.2)] at HWP
                go_wp2_with (go_at_call 42; fail)
                go_at_call 42
                refine (HCT.out _ HBW.out).mono ?_
                rintro e w1 ⟨rfl, hb1⟩
                have A1 := HA1.out.later hb1
                have HB1 := hid hb1
                clear hb1 k0 k1 k2 k3 k4 z0
                obtain ⟨k0, k1, k2, k3, k4⟩ := ftC A1
                have z0 := A1.lt
                have e2 := HNM.out w1 (chn' HBW.out HB1.out)
                go_wp2_with (at_builtin; refine wpAppL rfl _ _ rfl w0.heap.size _ (SG dn) rfl ((hO.later HB1.out).later (by go_grown)) _ ⟨(c.toNat : Int), F.miss, ⟨([]).toArray⟩⟩ 1 rfl (At.new _ _ _ (by first | rfl | (simp; done))) HNL.out (by have q1 := HBk.out.size; have q2 := HB1.out.size; first | exact Nat.le_trans q1 q2 | exact Nat.le_trans (Nat.le_trans q1 q2) (by simp)) ?_; intro v3 w3 ho3 hg3)
                have HB3 := hid (bwG hg3 ((hO.later HB1.out).later (by go_grown)) ((HBk.out.trans (HB1.out.mono HBk.out.size)).alloc (Nat.le_trans HBk.out.size HB1.out.size) _))
                clear hg3
                go_wp2_with fail
                go_roundw
                case rel => exact ⟨k + 1, by omega, by go_num, by rw [HTK.out, HDc.out, HWP.out]; exact ho3, HB3.out⟩
                case measure => simp [intOf]; omega
            · rw [if_neg (fun q => r1 q.1)] at HWP
              go_wp2_with (go_at_call 42; fail)
              go_at_call 42
              refine (HCT.out _ HBW.out).mono ?_
              rintro e w1 ⟨rfl, hb1⟩
              have A1 := HA1.out.later hb1
              have HB1 := hid hb1
              clear hb1 k0 k1 k2 k3 k4 z0
              obtain ⟨k0, k1, k2, k3, k4⟩ := ftC A1
              have z0 := A1.lt
              have e2 := HNM.out w1 (chn' HBW.out HB1.out)
              go_wp2_with (at_builtin; refine wpAppL rfl _ _ rfl w0.heap.size _ (SG dn) rfl ((hO.later HB1.out).later (by go_grown)) _ ⟨(c.toNat : Int), F.miss, ⟨([]).toArray⟩⟩ 1 rfl (At.new _ _ _ (by first | rfl | (simp; done))) HNL.out (by have q1 := HBk.out.size; have q2 := HB1.out.size; first | exact Nat.le_trans q1 q2 | exact Nat.le_trans (Nat.le_trans q1 q2) (by simp)) ?_; intro v3 w3 ho3 hg3)
              have HB3 := hid (bwG hg3 ((hO.later HB1.out).later (by go_grown)) ((HBk.out.trans (HB1.out.mono HBk.out.size)).alloc (Nat.le_trans HBk.out.size HB1.out.size) _))
              clear hg3
              go_wp2_with fail
              go_roundw
              case rel => exact ⟨k + 1, by omega, by go_num, by rw [HTK.out, HDc.out, HWP.out]; exact ho3, HB3.out⟩
              case measure => simp [intOf]; omega
    · have hjs' : ¬ (k : Int) < s.size := by omega
      have e : L.take (k) = L := List.take_of_length_le (by rw [HL.out.2]; omega)
      rw [e] at hO
      go_wp2_with fail
      go_ret2
      exact ⟨_, rfl, hO.base (Nat.le_of_lt hz0), HB0.out.trans (hB.mono (Nat.le_of_lt hz0))⟩
end Go.Proofs.YtggojafapieliabDoor
