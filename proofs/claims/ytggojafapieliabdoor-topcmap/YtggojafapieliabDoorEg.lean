/-
  Reading a program that was written: all of it.
-/
import Derived.Test.YtggojafapieliabDoorEf
import Derived.Test.YtggojafapieliabDoorCd
namespace Go.Proofs.YtggojafapieliabDoor
open Go.RowKit
set_option maxRecDepth 100000
attribute [local go_sem ↓] Go.wp_at_zero Go.wp_at_succ

/-- How many bytes a code has. -/
def nb (wide : Bool) : Int := if wide then 2 else 1
theorem sFault_rise (most : Int) : ∀ (l : List Sp) (a : Int), sFault most a l = 0 → l.Pairwise fun p q => p.f < q.f
  | [], _, _ => List.Pairwise.nil
  | y :: l, a, h => by
    have hy := sFault_ok most (y :: l) a h y (by simp)
    unfold sFault at h
    by_cases h1 : y.f < 0 ∨ most < y.t
    · rw [if_pos h1] at h; exact absurd h (by decide)
    rw [if_neg h1] at h
    by_cases h2 : y.t < y.f ∨ y.f ≤ a ∨ ¬ mayT y.s.data.toList (y.t - y.f).toNat
    · rw [if_pos h2] at h; exact absurd h (by decide)
    rw [if_neg h2] at h
    refine List.Pairwise.cons (fun q hq => ?_) (sFault_rise most l y.t h)
    have := sFault_ok most l y.t h q hq
    omega
theorem spFault_rise {l : List Sp} {wide : Bool} (h : spFault l wide = 0) : l.Pairwise fun p q => p.f < q.f := by
  unfold spFault at h
  by_cases h1 : 300 < l.length
  · rw [if_pos h1] at h; exact absurd h (by decide)
  rw [if_neg h1] at h
  exact sFault_rise _ l _ h
theorem mostOf_le (wide : Bool) : mostOf wide ≤ 65535 := by cases wide <;> decide
theorem spOk_of {l : List Sp} {wide : Bool} (h : spFault l wide = 0) : ∀ x ∈ l, SpOk x := fun x hx => by
  obtain ⟨h1, h2, h3, h4⟩ := (spFault_ok h).2 x hx
  have := mostOf_le wide
  have h5 := h4.1
  have h6 : x.s.data.toList.length = x.s.size := by simp
  exact ⟨⟨by omega, by omega⟩, ⟨by omega, by omega⟩, by unfold maxLen; omega⟩
theorem baL (L : List UInt8) : (⟨L.toArray⟩ : ByteArray).toList = L := by rw [ByteArray.toList_eq]
theorem str_ne (bs : List UInt8) : (⟨(strH bs).toArray⟩ : ByteArray).toList.isEmpty = false := by rw [baL]; rfl
theorem str_91 (bs : List UInt8) : ((⟨(strH bs).toArray⟩ : ByteArray).toList == [91]) = false := by rw [baL]; unfold strH; simp
theorem str_ER (bs : List UInt8) : ((⟨(strH bs).toArray⟩ : ByteArray).toList == (⟨wER.toArray⟩ : ByteArray).toList) = false := by rw [baL, baL]; unfold strH wER; simp
theorem str_ES (bs : List UInt8) : ((⟨(strH bs).toArray⟩ : ByteArray).toList == (⟨wES.toArray⟩ : ByteArray).toList) = false := by rw [baL, baL]; unfold strH wES; simp
theorem codeIs (P : Nat) (s : ByteArray) (wide : Bool) (c : Int) (h0 : 0 ≤ c) (h1 : c ≤ mostOf wide) : CodeIs P s ⟨(strH (cdB c.toNat wide)).toArray⟩ (nb wide) c := by
  intro W a sp hA
  cases wide
  · have hm : c ≤ 255 := h1
    have q := code1 P s ⟨(strH (cdB c.toNat false)).toArray⟩ (UInt8.ofNat c.toNat) a sp W rfl hA
    rw [ofNat_toNat (by omega), show ((c.toNat : Nat) : Int) = c by omega] at q
    exact q
  · have hm : c ≤ 65535 := h1
    have q := code2 P s ⟨(strH (cdB c.toNat true)).toArray⟩ (UInt8.ofNat (c.toNat / 256)) (UInt8.ofNat (c.toNat % 256)) a sp W rfl hA
    rw [ofNat_toNat (by omega), ofNat_toNat (by omega), show ((c.toNat / 256 : Nat) : Int) * 256 + ((c.toNat % 256 : Nat) : Int) = c by omega] at q
    exact q
theorem textIs (x : Sp) (k : Nat) (h : mayT x.s.data.toList k) : TextIs ⟨(strH (uX x)).toArray⟩ x.s := by
  intro W
  obtain ⟨a, r, q1, q2, q3, q4, _, _, _, q8⟩ := mayT_open h
  have hr : runesOf x.s.data.toList = a ++ [r] := by unfold runesOf; rw [q1]; rfl
  have hlen := runesOf_len x.s.data.toList
  rw [hr] at hlen
  have q := text_any ⟨(strH (uX x)).toArray⟩ (a ++ [r]) W (by simp) (fun y hy => by
    rcases List.mem_append.1 hy with hy | hy
    · exact q3 y hy
    · simp at hy; subst hy; exact q2) (by omega) (by unfold uX; rw [hr])
  rw [txtR_snoc, ← q4] at q
  exact q
/-- Where a reader is behind some spans. -/
def pos (wide : Bool) (dn : List Sp) : Nat := (hdC wide ++ dn.flatMap (spQ wide)).length
theorem pos_snoc (wide : Bool) (dn : List Sp) (x : Sp) : pos wide (dn ++ [x]) = pos wide dn + (spQ wide x).length := by
  unfold pos
  rw [List.flatMap_append]
  simp only [List.length_append, List.flatMap_cons, List.flatMap_nil, List.length_nil]; omega
theorem pos_nil (wide : Bool) : pos wide [] = (hdC wide).length := by unfold pos; simp
theorem pos_lt (wide : Bool) (dn rest : List Sp) (s : ByteArray) (he : s.data.toList = spsT wide (dn ++ rest)) : pos wide dn < s.size := by
  rw [szL, he, spsT_eq, List.flatMap_append]
  unfold pos
  simp only [List.length_append, List.length_cons, List.length_nil]; omega
set_option maxHeartbeats 1000000 in
theorem program_says (P : Nat) (s : ByteArray) (wide : Bool) (l : List Sp) (w : World) (hs : s.size ≤ 20000) (he : s.data.toList = spsT wide l) (hf : spFault l wide = 0) (hA : RdC w P s 0 1 (.slice none 0 0)) :
    Calls Tryd.prog 22 #[.pointer (some ⟨P, 0, none⟩)] w fun e w' => e = .returned .nilIface ∧ RdS w' P s s.size (nb wide) l ∧ Below P w w' := by
  have HE := hid he
  have HF := hid hf
  have HA := hid hA
  have hPl := hA.lt
  have HH := hid (headToks P s wide (l.flatMap (spQ wide) ++ [10]) (by omega) (by rw [he, spsT_eq]) (tail10 wide l))
  have HSP := hid (fun (dn : List Sp) (x : Sp) (rest : List Sp) (h : l = dn ++ x :: rest) => spanToks P s wide x (hdC wide ++ dn.flatMap (spQ wide)) (rest.flatMap (spQ wide) ++ [10]) (pos wide dn) rfl (by omega) (by
    rw [he, spsT_eq, h, List.flatMap_append, List.flatMap_cons]; simp only [List.append_assoc]) (tail10 wide rest))
  have HZ := hid (show Tok P s (pos wide l) ⟨#[]⟩ s.size from tokEnd P s (hdC wide ++ l.flatMap (spQ wide)) [10] (by omega) (by rw [he, spsT_eq, List.append_assoc]) bl10)
  have HIT := hid (show ∀ W, RdC W P s (22 + lw wide) 1 (.slice none 0 0) → Calls Tryd.prog 45 #[.pointer (some ⟨P, 0, none⟩), .string ⟨(strH (spA wide)).toArray⟩] W fun e w' => e = .returned .nilIface ∧ (RdC w' P s (23 + 2 * lw wide) (nb wide) (.slice none 0 0)) ∧ KeepBut P W w' by
    intro W hW
    cases wide
    · exact space1 P s _ _ 0 255 _ _ 1 _ W rfl rfl HH.out.t3 hW
    · exact space2 P s _ _ 0 0 255 255 _ _ 1 _ W rfl rfl HH.out.t3 hW)
  clear he hf hA
  go_enter Tryd.func22, Tryd.ntmps22
  go_wp2_with fail
  go_loopw [3] (fun _ wr => (RdC wr P s 0 1 (.slice none 0 0) ∨ RdC wr P s 1 1 (.slice none 0 0) ∨ (∃ dn rest, Hid (l = dn ++ rest) ∧ RdS wr P s (pos wide dn) (nb wide) dn) ∨ (∃ dn x rest, Hid (l = dn ++ x :: rest) ∧ RdS wr P s (pos wide dn + 2) (nb wide) dn)) ∧ Below P w wr) (fun _ wr => far P wr)
  case atStart => exact ⟨.inl HA.out, Below.refl _ _⟩
  case round =>
    obtain ⟨A0 | A0 | ⟨dn, rest, HD, S0⟩ | ⟨dn, x, rest, HD, S0⟩, B0⟩ := hrel
    · have hBs := B0.size
      go_wp2_with (go_at_call 43; fail)
      go_at_call 43
      refine (HH.out.t0 _ _ _ A0).mono ?_
      rintro e w1 ⟨rfl, A1, K1⟩
      go_wp2_with fail
      go_roundw
      case rel => exact ⟨.inr (.inl A1), B0.trans (keepBelow K1 (by omega))⟩
      case measure =>
        have q1 := far_eq A0
        have q2 := far_eq A1
        simp only [q1, q2]; omega
    · have hBs := B0.size
      have T1 := HH.out.t1
      unfold wBS at T1
      have HT1 := hid T1
      clear T1
      go_wp2_with (go_at_call 43; fail)
      go_at_call 43
      refine (HT1.out _ _ _ A0).mono ?_
      rintro e w1 ⟨rfl, A1, K1⟩
      have B1 := B0.trans (keepBelow K1 (by omega))
      have hK1 := K1.size
      have hlw : lw wide ≤ 6 := by unfold lw; split <;> omega
      have hlw4 : 4 ≤ lw wide := by unfold lw; split <;> omega
      go_wp2_with (go_at_call 44; fail)
      go_at_call 44
      refine (upSpaceN P s ⟨wES.toArray⟩ ⟨(strH (spA wide)).toArray⟩ (nb wide) 21 (22 + lw wide) (23 + 2 * lw wide) (hdC wide).length _ (by omega) (by omega) (str_ne _) (str_ES _) (by rw [baL]; rfl) HH.out.t2 HH.out.t4 HIT.out A1).mono ?_
      rintro e w2 ⟨rfl, A2, K2⟩
      go_wp2_with fail
      go_roundw
      case rel => exact ⟨.inr (.inr (.inl ⟨[], l, hid rfl, _, by rw [pos_nil]; exact A2, World.ownsRow_nil _ _ _ _⟩)), B1.trans (keepBelow K2 (by omega))⟩
      case measure =>
        have q1 := far_eq A0
        have q2 := far_eq A2
        have q3 := hdC_len wide
        simp only [q1, q2]; omega
    · have hBs := B0.size
      have F0 := hid S0.far
      have hp : pos wide dn < s.size := pos_lt wide dn rest s (by rw [HE.out, HD.out])
      obtain ⟨v, A0, O0⟩ := S0
      cases rest with
      | nil =>
        obtain rfl : dn = l := by rw [HD.out, List.append_nil]
        go_wp2_with (go_at_call 43; fail)
        go_at_call 43
        refine (HZ.out _ _ _ A0).mono ?_
        rintro e w1 ⟨rfl, A1, K1⟩
        go_wp2_with fail
        go_ret
        exact ⟨rfl, RdS.keep O0 A1 K1, B0.trans (keepBelow K1 (by omega))⟩
      | cons x rest =>
        have HX := hid (HSP.out dn x rest HD.out)
        go_wp2_with (go_at_call 43; fail)
        go_at_call 43
        refine (HX.out.t0 _ _ _ A0).mono ?_
        rintro e w1 ⟨rfl, A1, K1⟩
        go_wp2_with fail
        go_roundw
        case rel => exact ⟨.inr (.inr (.inr ⟨dn, x, rest, HD, RdS.keep O0 A1 K1⟩)), B0.trans (keepBelow K1 (by omega))⟩
        case measure =>
          have q1 := F0.out
          have q2 := far_eq A1
          simp only [q1, q2]; omega
    · have hBs := B0.size
      have F0 := hid S0.far
      have hp : pos wide dn < s.size := pos_lt wide dn (x :: rest) s (by rw [HE.out, HD.out])
      have hp2 : pos wide dn + (spQ wide x).length < s.size := by
        have := pos_lt wide (dn ++ [x]) rest s (by rw [HE.out, HD.out]; simp)
        rwa [pos_snoc] at this
      have hql := spQ_len wide x
      have HX := hid (HSP.out dn x rest HD.out)
      have T1 := HX.out.t1
      unfold wBR at T1
      have HT1 := hid T1
      clear T1
      have hxl : x ∈ l := by rw [HD.out]; simp
      obtain ⟨x1, x2, x3, x4⟩ := (spFault_ok HF.out).2 x hxl
      have hrise := spFault_rise HF.out
      rw [HD.out] at hrise
      have hlt : ∀ z ∈ dn, z.f < x.f := fun z hz => (List.pairwise_append.1 hrise).2.2 z hz x (by simp)
      have hdl : dn.length < 300 := by
        have q := (spFault_ok HF.out).1
        rw [HD.out, List.length_append, List.length_cons] at q; omega
      have hok : ∀ z ∈ dn, SpOk z := fun z hz => spOk_of HF.out z (by rw [HD.out]; simp [hz])
      have HCD := hid (fun W (hW : RdS W P s (pos wide dn + 16 + lw wide) (nb wide) dn) => codes_says P s _ _ _ x.s x.f x.t _ _ _ (nb wide) dn W (codeIs P s wide x.f x1 (by omega)) HX.out.t3 (codeIs P s wide x.t (by omega) x3) HX.out.t4 (textIs x _ x4) (str_91 _) hdl hok hlt hW)
      have HQ := hid (pos_snoc wide dn x)
      obtain ⟨v, A0, O0⟩ := S0
      clear hxl x1 x2 x3 x4 hrise hlt hdl hok
      go_wp2_with (go_at_call 43; fail)
      go_at_call 43
      refine (HT1.out _ _ _ A0).mono ?_
      rintro e w1 ⟨rfl, A1, K1⟩
      have B1 := B0.trans (keepBelow K1 (by omega))
      have S1 := RdS.keep O0 A1 K1
      clear A0 O0 A1 K1 B0
      go_wp2_with (go_at_call 44; fail)
      go_at_call 44
      refine (upCodes P s ⟨wER.toArray⟩ ⟨(strH (cdB x.f.toNat wide)).toArray⟩ (nb wide) dn (dn ++ [⟨x.f, x.t, x.s⟩]) (pos wide dn + 15) (pos wide dn + 16 + lw wide) (pos wide dn + 18 + 2 * lw wide + (strH (uX x)).length) (pos wide dn + (spQ wide x).length) _ (by omega) (by omega) (str_ne _) (str_ER _) (by rw [baL]; rfl) HX.out.t2 HX.out.t5 HCD.out S1).mono ?_
      rintro e w2 ⟨rfl, S2, B2⟩
      go_wp2_with fail
      go_roundw
      case rel => exact ⟨.inr (.inr (.inl ⟨dn ++ [x], rest, hid (by rw [HD.out]; simp), by rw [HQ.out]; exact S2⟩)), B1.trans B2⟩
      case measure =>
        have q1 := F0.out
        have q2 := S2.far
        simp only [q1, q2]; omega
end Go.Proofs.YtggojafapieliabDoor
