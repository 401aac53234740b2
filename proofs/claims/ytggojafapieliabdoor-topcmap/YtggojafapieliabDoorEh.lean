/-
  The law on codes that are written and read, walked.
-/
import Derived.Test.YtggojafapieliabDoorEg
import Derived.Test.YtggojafapieliabDoorCq
import Derived.Test.YtggojafapieliabDoorCe
namespace Go.Proofs.YtggojafapieliabDoor
open Go.RowKit
set_option maxRecDepth 100000
attribute [local go_sem ↓] Go.wp_at_zero Go.wp_at_succ

set_option maxHeartbeats 1000000 in
theorem parse_says (s : ByteArray) (wide : Bool) (l : List Sp) (w : World) (hs : s.size ≤ 20000) (he : s.data.toList = spsT wide l) (hf : spFault l wide = 0) (hT : Tb w) :
    Calls Tryd.prog 8 #[.string s] w fun e w' => (∃ al c, e = .returned (.tuple #[.slice al l.length c, .bool wide, .nilIface]) ∧ SpAt w' al l) ∧ Below w.heap.size w w' := by
  have HT := hid hT
  have HF := hid hf
  have hsz : ¬ (20000 : Int) < s.size := by omega
  have HP := hid (fun W P (hW : RdC W P s 0 1 (.slice none 0 0)) => program_says P s wide l W hs he hf hW)
  have HCK := hid (fun W al c (hW : SpAt W al l) (hT : Tb W) => by
    have q := check_sp l wide al c W (by have := (spFault_ok hf).1; unfold maxLen; omega) hW hT
    rw [hf, errN_0] at q
    exact q)
  have HOK := hid (spOk_of hf)
  clear hT hf he hs
  go_enter Tryd.func8, Tryd.ntmps8
  go_wp2_with (go_at_call 22; fail)
  go_at_call 22
  refine (HP.out _ w.heap.size (At.new w _ _ rfl)).mono ?_
  rintro e w1 ⟨rfl, ⟨v, A1, O1⟩, B1⟩
  have hB1 : Below w.heap.size w w1 := ((Below.refl _ w).alloc (Nat.le_refl _) _).trans B1
  obtain ⟨al, c, rfl, hsp⟩ := O1.at HOK.out
  have hck := HCK.out w1 al c hsp (HT.out.below hB1)
  have HSP := hid hsp
  have r2 := A1.cell 2
  have r3 := A1.cell 3
  have z1 := A1.lt
  simp at r2 r3
  clear hsp B1 O1 HP HCK HOK HF
  cases wide
  · have e1 : nb false = 1 := rfl
    rw [e1] at r2
    go_wp2_with (go_at_call 23; go_must (refine hck.mono ?_); rintro e w2 ⟨rfl, hb2⟩; have y3 := hb2.cell (p := ⟨w.heap.size, 3, none⟩) z1)
    go_ret3
    exact ⟨⟨al, c, rfl, HSP.out.later hb2⟩, chn' hB1 hb2⟩
  · have e1 : nb true = 2 := rfl
    rw [e1] at r2
    go_wp2_with (go_at_call 23; go_must (refine hck.mono ?_); rintro e w2 ⟨rfl, hb2⟩; have y3 := hb2.cell (p := ⟨w.heap.size, 3, none⟩) z1)
    go_ret3
    exact ⟨⟨al, c, rfl, HSP.out.later hb2⟩, chn' hB1 hb2⟩
set_option maxHeartbeats 1000000 in
theorem same_spans (l : List Sp) (a1 a2 : Option Addr) (c1 c2 : Nat) (w : World) (hl : l.length ≤ 1000) (h1 : SpAt w a1 l) (h2 : SpAt w a2 l) :
    Calls Tryd.prog 11 #[.slice a1 l.length c1, .slice a2 l.length c2] w fun e w' => e = .returned (.bool true) ∧ Below w.heap.size w w' := by
  have H1 := hid h1
  have H2 := hid h2
  clear h1 h2
  go_enter Tryd.func11, Tryd.ntmps11
  go_wp2_with fail
  go_loopw [5] (fun i wr => ∃ p : Nat, i = .int .i64 p ∧ p ≤ l.length ∧ Below w.heap.size w wr) (fun i _ => l.length - (intOf i).toNat)
  case atStart => exact ⟨0, rfl, Nat.zero_le _, Below.refl _ _⟩
  case round =>
    obtain ⟨p, rfl, hp, hB⟩ := hrel
    by_cases hpl : p < l.length
    · have hpl' : (p : Int) < l.length := by omega
      obtain ⟨b, off, rfl, hbl, g0, g1, g2, _, _, _⟩ := (H1.out.later hB) p l[p] (List.getElem?_eq_getElem hpl)
      obtain ⟨b', off', rfl, hbl', k0, k1, k2, _, _, _⟩ := (H2.out.later hB) p l[p] (List.getElem?_eq_getElem hpl)
      generalize l[p] = x at *
      go_wp2_with fail
      go_region
      all_goals
        go_wp2_with fail
        go_roundw
        case rel => exact ⟨p + 1, by go_num, by omega, by first | exact hB | exact hB.drew⟩
        case measure => simp [intOf]; omega
    · have hpl' : ¬ (p : Int) < l.length := by omega
      go_wp2_with fail
      go_ret
      exact ⟨rfl, hB⟩
theorem spAt_one (w : World) (x : Sp) (hx : SpOk x) : SpAt (w.alloc (.cells #[.int .i64 x.f, .int .i64 x.t, .string x.s] 36)) (some ⟨w.heap.size, 0, none⟩) [x] := fun i y hy => by
  match i, hy with
  | 0, hy =>
    simp at hy
    subst hy
    exact ⟨w.heap.size, 0, rfl, by simp, World.cell?_alloc_new .., World.cell?_alloc_new .., World.cell?_alloc_new .., hx.1, hx.2.1, hx.2.2⟩
  | i + 1, hy => simp at hy
theorem spOf_no : ∀ {l : List Sp} {c : Int}, spOf l c = none → ∀ x ∈ l, ¬ (x.f ≤ c ∧ c ≤ x.t)
  | [], c, _, x, hx => by simp at hx
  | y :: l, c, h, x, hx => by
    unfold spOf at h
    by_cases q : y.f ≤ c ∧ c ≤ y.t
    · rw [if_pos q] at h; cases h
    · rw [if_neg q] at h
      rcases List.mem_cons.1 hx with rfl | hx
      · exact q
      · exact spOf_no h x hx
theorem codeT_found {l : List Sp} {wide : Bool} {c : Int} {x : Sp} (hf : spFault l wide = 0) (h : spOf l c = some x) : ∃ T, codeT l c = some T ∧ T.isEmpty = false ∧ (c = x.f → T = x.s.data.toList) := by
  obtain ⟨hm, hc1, hc2⟩ := spOf_mem h
  obtain ⟨e1, e2, e3, e4⟩ := (spFault_ok hf).2 x hm
  obtain ⟨a, r, q1, q2, q3, q4, q5, q6, q7, q8⟩ := mayT_open e4
  obtain ⟨k, hk⟩ : ∃ k : Nat, c = x.f + k := ⟨(c - x.f).toNat, by omega⟩
  obtain ⟨q9, q10⟩ := mayT_less (j := k) q1 q6 q7 (by omega)
  refine ⟨txtR a ++ encR (r + k), ?_, ?_, fun q => ?_⟩
  · unfold codeT; rw [h]; simp only; rw [show (c - x.f).toNat = k by omega, q10]
  · have := (encR_len (r + k)).1
    cases hh : txtR a ++ encR (r + k) with
    | nil => have := congrArg List.length hh; rw [List.length_append] at this; simp only [List.length_nil] at this; omega
    | cons _ _ => rfl
  · obtain rfl : k = 0 := by omega
    rw [Nat.add_zero]; exact q4.symm
set_option maxHeartbeats 2000000 in
theorem topCmap_any (l : List Sp) (wide : Bool) (code : Int) (al : Option Addr) (cap : Nat) (w : World) (hl : l.length ≤ maxLen) (hA : SpAt w al l) (hT : Tb w) :
    Calls Tryd.prog 4 #[.slice al l.length cap, .bool wide, .int .i64 code] w fun e w' => e = .returned (.bool true) ∧ Below w.heap.size w w' := by
  have HA := hid hA
  have HT := hid hT
  have HL := hid hl
  have HW0 := hid (fun W a c (hW : SpAt W a [⟨1, 1, ⟨#[120]⟩⟩]) (hT : Tb W) => write_ok [⟨1, 1, ⟨#[120]⟩⟩] false a c W (by unfold maxLen; simp) hW hT (by decide))
  have hS0 : (⟨(spsT false [⟨1, 1, ⟨#[120]⟩⟩]).toArray⟩ : ByteArray).toList.isEmpty = false := by rw [baL]; unfold spsT headT; simp
  generalize (⟨(spsT false [⟨1, 1, ⟨#[120]⟩⟩]).toArray⟩ : ByteArray) = S0 at *
  clear hA hT hl
  go_enter Tryd.func4, Tryd.ntmps4
  go_wp2_with (go_at_call 12; fail)
  go_at_call 12
  refine (HW0.out _ _ _ (spAt_one w ⟨1, 1, ⟨#[120]⟩⟩ ⟨⟨by decide, by decide⟩, ⟨by decide, by decide⟩, by unfold maxLen; decide⟩) (HT.out.below (by go_grown))).mono ?_
  rintro e w1 ⟨rfl, hb1⟩
  have hB1 : Below w.heap.size w w1 := chn' (by go_grown) hb1
  clear hb1 HW0
  go_wp2_with (go_at_call 13; fail)
  go_at_call 13
  refine (light_sp l al cap _ HL.out (HA.out.later hB1)).mono ?_
  rintro e w2 ⟨he, hb2⟩
  have hB2 := chn' hB1 hb2
  clear hb2 hB1
  rcases he with rfl | ⟨rfl, h60⟩
  · go_wp2_with fail
    go_ret
    exact ⟨rfl, hB2⟩
  clear h60
  by_cases hf : spFault l wide = 0
  · have hw := fun W (hB : Below w.heap.size w W) => write_ok l wide al cap W HL.out (HA.out.later hB) (HT.out.below hB) hf
    have htx := fun W (hB : Below w.heap.size w W) => text_sp l wide code al cap W HL.out (HA.out.later hB) (HT.out.below hB) hf
    obtain ⟨S, hS⟩ : ∃ S : ByteArray, S = ⟨(spsT wide l).toArray⟩ := ⟨_, rfl⟩
    rw [← hS] at hw
    have HP := hid (fun W (h2 : S.size ≤ 20000) (hT : Tb W) => parse_says S wide l W h2 (by rw [hS]) hf hT)
    have hlen : l.length ≤ 300 := (spFault_ok hf).1
    have HSM := hid (fun W a2 c2 (hB : Below w.heap.size w W) (h2 : SpAt W a2 l) => same_spans l a2 al c2 cap W (by omega) h2 (HA.out.later hB))
    have HW := hid hw
    have HTX := hid htx
    have HF := hid hf
    have HS := hid hS
    clear hw htx hf hS
    go_wp2_with (go_at_call 12; fail)
    go_at_call 12
    refine (HW.out _ hB2).mono ?_
    rintro e w3 ⟨rfl, hb3⟩
    have hB3 := chn' hB2 hb3
    clear hb3 hB2 HW
    by_cases hz : S.size ≤ 20000
    · have hz' : ¬ (20000 : Int) < S.size := by omega
      go_wp2_with (go_at_call 8; fail)
      go_at_call 8
      refine (HP.out _ hz (HT.out.below hB3)).mono ?_
      rintro e w4 ⟨⟨a2, c2, rfl, hsp⟩, hb4⟩
      have hB4 := chn' hB3 hb4
      have HSP := hid hsp
      clear hb4 hB3 hsp
      go_wp2_with (go_at_call 11; fail)
      go_at_call 11
      refine (HSM.out _ a2 c2 hB4 HSP.out).mono ?_
      rintro e w5 ⟨rfl, hb5⟩
      have hB5 := chn' hB4 hb5
      clear hb5 hB4
      have HSL := hid (HA.out.later hB5)
      cases hso : spOf l code with
      | none =>
        have hC : codeT l code = none := by unfold codeT; rw [hso]
        have htx := fun W hB => HTX.out W hB
        rw [hC] at htx
        have HTX2 := hid htx
        have HNO := hid (spOf_no hso)
        clear htx HTX hC hso
        go_wp2_with (go_at_call 14; fail)
        go_at_call 14
        refine (HTX2.out _ hB5).mono ?_
        rintro e w6 ⟨rfl, hb6⟩
        have hB6 := chn' hB5 hb6
        clear hb6 hB5 HTX2
        go_wp2_with fail
        go_loopw [13] (fun i wr => ∃ p : Nat, i = .int .i64 p ∧ p ≤ l.length ∧ Below w.heap.size w wr) (fun i _ => l.length - (intOf i).toNat)
        case atStart => exact ⟨0, rfl, Nat.zero_le _, hB6⟩
        case round =>
          obtain ⟨p, rfl, hp, hB⟩ := hrel
          by_cases hpl : p < l.length
          · have hpl' : (p : Int) < l.length := by omega
            obtain ⟨b, off, rfl, hbl, g0, g1, g2, _, _, _⟩ := (HA.out.later hB) p l[p] (List.getElem?_eq_getElem hpl)
            have hn := HNO.out l[p] (List.getElem_mem hpl)
            generalize l[p] = x at *
            by_cases c1 : x.f ≤ code
            · have c2 : ¬ code ≤ x.t := fun q => hn ⟨c1, q⟩
              clear hn
              go_wp2_with fail
              go_roundw
              case rel => exact ⟨p + 1, by go_num, by omega, hB⟩
              case measure => simp [intOf]; omega
            · clear hn
              go_wp2_with fail
              go_roundw
              case rel => exact ⟨p + 1, by go_num, by omega, hB⟩
              case measure => simp [intOf]; omega
          · have hpl' : ¬ (p : Int) < l.length := by omega
            go_wp2_with fail
            go_ret
            exact ⟨by first | rfl | (simp; done), hB⟩
      | some x0 =>
        obtain ⟨T, hC, hT1, hT2⟩ := codeT_found HF.out hso
        have htx := fun W hB => HTX.out W hB
        rw [hC] at htx
        simp only [Option.getD_some, Option.isSome_some] at htx
        obtain ⟨TB, hTB⟩ : ∃ TB : ByteArray, TB = ⟨T.toArray⟩ := ⟨_, rfl⟩
        rw [← hTB] at htx
        have hne : TB.toList.isEmpty = false := by rw [hTB, baL]; exact hT1
        have HEQ := hid (show code = x0.f → TB = x0.s from fun q => by rw [hTB]; apply Go.WideShapes.bytes_inj; simpa using hT2 q)
        have HTX2 := hid htx
        have HSO := hid hso
        clear htx HTX hC hso hT1 hT2 hTB
        go_wp2_with (go_at_call 14; fail)
        go_at_call 14
        refine (HTX2.out _ hB5).mono ?_
        rintro e w6 ⟨rfl, hb6⟩
        have hB6 := chn' hB5 hb6
        clear hb6 hB5 HTX2
        go_wp2_with fail
        go_loopw [13] (fun i wr => ∃ p : Nat, i = .int .i64 p ∧ p ≤ l.length ∧ Hid (spOf (l.drop p) code = some x0) ∧ Below w.heap.size w wr) (fun i _ => l.length - (intOf i).toNat)
        case atStart => exact ⟨0, rfl, Nat.zero_le _, by rw [List.drop_zero]; exact HSO, hB6⟩
        case round =>
          obtain ⟨p, rfl, hp, HD, hB⟩ := hrel
          by_cases hpl : p < l.length
          · have hpl' : (p : Int) < l.length := by omega
            obtain ⟨b, off, rfl, hbl, g0, g1, g2, _, _, _⟩ := (HA.out.later hB) p l[p] (List.getElem?_eq_getElem hpl)
            have hd := HD.out
            rw [show l.drop p = l[p] :: l.drop (p + 1) from List.drop_eq_getElem_cons hpl, spOf] at hd
            clear HD
            generalize l[p] = x at *
            by_cases c1 : x.f ≤ code
            · by_cases c2 : code ≤ x.t
              · rw [if_pos ⟨c1, c2⟩] at hd
                injection hd with hd
                subst hd
                by_cases c3 : code = x.f
                · have hT := HEQ.out c3
                  subst c3
                  subst hT
                  go_wp2_with fail
                  go_ret
                  exact ⟨by first | rfl | (simp; done), hB⟩
                · have c4 : x.f < code := by omega
                  clear c3
                  go_wp2_with fail
                  go_ret
                  exact ⟨by first | rfl | (simp; done), hB⟩
              · rw [if_neg (fun q => c2 q.2)] at hd
                have HD := hid hd
                clear hd
                go_wp2_with fail
                go_roundw
                case rel => exact ⟨p + 1, by go_num, by omega, HD, hB⟩
                case measure => simp [intOf]; omega
            · rw [if_neg (fun q => c1 q.1)] at hd
              have HD := hid hd
              clear hd
              go_wp2_with fail
              go_roundw
              case rel => exact ⟨p + 1, by go_num, by omega, HD, hB⟩
              case measure => simp [intOf]; omega
          · exfalso
            have hd := HD.out
            rw [List.drop_eq_nil_of_le (by omega)] at hd
            cases hd
    · have hz' : (20000 : Int) < S.size := by omega
      go_wp2_with fail
      go_ret
      exact ⟨rfl, hB3⟩
  · have hw := fun W (hB : Below w.heap.size w W) => write_bad l wide al cap W HL.out (HA.out.later hB) (HT.out.below hB) hf
    obtain ⟨f, hfe, hf0⟩ : ∃ f, spFault l wide = f ∧ 0 < f := ⟨_, rfl, by have := spFault_cases l wide; omega⟩
    rw [hfe, errN_pos (by omega)] at hw
    unfold errV at hw
    have HW := hid hw
    clear hw hf hfe
    go_wp2_with (go_at_call 12; fail)
    go_at_call 12
    refine (HW.out _ hB2).mono ?_
    rintro e w3 ⟨rfl, hb3⟩
    have hB3 := chn' hB2 hb3
    clear hb3 hB2
    go_wp2_with fail
    go_ret
    exact ⟨rfl, hB3⟩
end Go.Proofs.YtggojafapieliabDoor
