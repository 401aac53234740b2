/-
  Joined: Lzh, Lzi, Lzg.
-/
import Derived.Test.YtflcibmjblioaaaGreatDoorLzc
import Derived.BigQuiet
import Derived.Test.YtflcibmjblioaaaGreatDoorLze

/-
  The law TopUpdate.
-/
namespace Go.Proofs.YtflcibmjblioaaaGreatDoor
open Go.RowKit
set_option maxRecDepth 100000

theorem ObsN.mono {d d' : Nat} {w : World} {t : Value} {L : List Ob} (h : ObsN d w t L) (hd : d ≤ d') : ObsN d' w t L := by
  obtain ⟨a, c, h1, h2, h3⟩ := h
  refine ⟨a, c, h1, h2, fun i o ho => ?_⟩
  obtain ⟨b, off, cs, q1, q2, q3, q4, q5⟩ := h3 i o ho
  exact ⟨b, off, cs, q1, q2, q3, q4, q5.mono hd⟩
/-- What Read makes of a file that was laid behind another one. -/
structure BehindF (L Q : List Ob) (r : Int) (T U : ByteArray) (B E F : Nat) (tb : Int) (v : V) (m : Int → Option Int) (w : World) : Prop where
  file : FileR B E F U tb v m w
  root : getF rootN v.f = some (V0 7 r eB)
  cnt : v.cnt ≤ 1048576
  new : ∀ o ∈ Q, ∃ p : Nat, m o.n = some (p : Int) ∧ RdOb U p o
  old : ∀ o ∈ L, anew Q o.n = false → ∃ p : Nat, m o.n = some (p : Int) ∧ RdOb U p o
  only : ∀ x c, m x = some c → (∃ o ∈ Q, o.n = x) ∨ ∃ o ∈ L, o.n = x
  size : U.size ≤ 60000
theorem BehindF.later {L Q : List Ob} {r : Int} {T U : ByteArray} {B E F : Nat} {tb : Int} {v : V} {m : Int → Option Int} {w w' : World} (h : BehindF L Q r T U B E F tb v m w) (hb : Below w.heap.size w w') : BehindF L Q r T U B E F tb v m w' := by
  have hE : E ≤ w.heap.size := by obtain ⟨_, _, _, _, _, _, _, _, _, _, _, _, _, _, _, _, h⟩ := h.file; exact h
  exact ⟨h.file.later (hb.mono hE), h.root, h.cnt, h.new, h.old, h.only, h.size⟩
theorem ext_pre {T U : ByteArray} {suf : List UInt8} (h : U.data.toList = T.data.toList ++ suf) : U.extract 0 T.size = T ∧ T.size ≤ U.size := by
  have h1 := szL T
  have h2 := szL U
  constructor
  · apply ByteArray.ext
    apply Array.toList_inj.1
    rw [ByteArray.data_extract, Array.toList_extract, List.extract_eq_take_drop, h, h1]
    simp
  · rw [h1, h2, h]; simp
theorem Laid.pre {base : List UInt8} {L : List Ob} {v : V} {T : ByteArray} (h : Laid base L v T) : T.data.toList = base ++ T.data.toList.drop base.length := by
  obtain ⟨_, _, _, ht⟩ := h.text
  rw [ht]
  simp
theorem readBehind_says (M : Int) (L Q : List Ob) (r : Int) (T U : ByteArray) (a : Nat) (sp : List (Nat × List Nat)) (w : World) (hT : Laid headL L (rootV r) T) (ha : a < T.size) (hsp : sp.length ≤ 60) (hU : Laid T.data.toList Q (prevV r a) U)
    (h1 : ∀ (s : ByteArray) (suf : List UInt8), s.data.toList = T.data.toList ++ suf → s.size ≤ 60000 → RdTab s ⟨a, sp, rootV r⟩ ∧ ∀ o ∈ L, ∃ p : Nat, (∀ m : Int → Option Int, m o.n = none → tellS m sp o.n = some (p : Int)) ∧ RdOb s p o)
    (h2 : ∀ m : Int → Option Int, (∀ x c, m x = some c → tellS m sp x = some c) ∧ (∀ x, m x = none → (∀ o ∈ L, o.n ≠ x) → tellS m sp x = none)) (hG : Gr M w) :
    Calls Tryz.prog 8 #[.string U] w fun e w' => (∃ B E F tb v m, e = .returned (.tuple #[.pointer (some ⟨F, 0, none⟩), .nilIface]) ∧ Hid (BehindF L Q r T U B E F tb v m w')) ∧ Below w.heap.size w w' := by
  obtain ⟨sq, b, hr, _, q1, q2, q3⟩ := behind_read hT ha hsp hU h1 h2
  obtain ⟨X, s1, s2, s3⟩ := hr.start
  refine (read_says M U _ _ X w hr.size hr.pdf s1 s3 s2 hr.links hr.nodup hr.few hr.tot hG).mono ?_
  rintro e w' ⟨F, rfl, hF, hb⟩
  refine ⟨⟨_, _, F, _, _, _, rfl, hid ⟨hF, prev_get r a, by show (prevV r a).cnt ≤ _; rw [prev_cnt]; decide, q1, fun o ho hno => q2 o ho fun q hq e => ?_, q3, hr.size⟩⟩, hb⟩
  have := anew_iff.2 ⟨q, hq, e⟩
  rw [hno] at this
  cases this
theorem numbersU_says (L Q : List Ob) (r : Int) (T U : ByteArray) (B E F : Nat) (tb : Int) (v : V) (m : Int → Option Int) (w : World) (h : BehindF L Q r T U B E F tb v m w) (hn : (L.map (·.n)).Nodup) (hq : (Q.map (·.n)).Nodup) :
    Calls Tryz.prog 9 #[.pointer (some ⟨F, 0, none⟩)] w fun e w' => (∃ a c, e = .returned (.slice a (Q.length + (L.filter fun o => !anew Q o.n).length) c)) ∧ Below w.heap.size w w' := by
  refine (numbersF_says B E F U tb _ m w h.file).mono ?_
  rintro e w' ⟨⟨a, c, zs, rfl, hz, hm⟩, hb⟩
  have := count_two (L := L) (Q := Q) hz (fun x => by
    rw [hm x]
    constructor
    · rintro ⟨c, hc, _⟩
      exact h.only x c hc
    · intro ho
      by_cases hx : ∃ o ∈ Q, o.n = x
      · obtain ⟨o, ho, e⟩ := hx
        obtain ⟨p, p1, _⟩ := h.new o ho
        rw [e] at p1
        exact ⟨p, p1, by omega⟩
      · obtain ⟨o, ho, e⟩ := ho.resolve_left hx
        have hno : anew Q o.n = false := by
          cases ha : anew Q o.n with
          | false => rfl
          | true => obtain ⟨q, hq, e'⟩ := anew_iff.1 ha; exact absurd ⟨q, hq, e'.trans e⟩ hx
        obtain ⟨p, p1, _⟩ := h.old o ho hno
        rw [e] at p1
        exact ⟨p, p1, by omega⟩) hn hq
  exact ⟨⟨a, c, by rw [this]⟩, hb⟩
end Go.Proofs.YtflcibmjblioaaaGreatDoor

/-
  The law TopUpdate: the walk.
-/
namespace Go.Proofs.YtflcibmjblioaaaGreatDoor
open Go.RowKit
set_option maxRecDepth 100000

theorem below_dn' (w : World) (n : Nat) {B : Nat} {a : World} (_h : Below B a w) : Below B w (w.drewN n) := ⟨rfl, rfl, rfl, Nat.le_refl _, fun _ _ => rfl⟩
theorem many_less {L Q : List Ob} {j many : Nat} (h : j ≤ L.length ∧ many = Q.length + ((L.take j).filter fun o => !anew Q o.n).length) (hj : j < L.length) (h1 : L.length ≤ 70) (h2 : Q.length ≤ 70) : j + 1 ≤ L.length ∧ j ≤ 1000000 ∧ many ≤ 1000000 := by
  have := List.length_filter_le (fun o : Ob => !anew Q o.n) (L.take j)
  rw [List.length_take] at this
  omega
theorem many_same {L Q : List Ob} {j many : Nat} {o : Ob} (h : j ≤ L.length ∧ many = Q.length + ((L.take j).filter fun o => !anew Q o.n).length) (ho : L[j]? = some o) (ha : anew Q o.n = true) : many = Q.length + ((L.take (j + 1)).filter fun o => !anew Q o.n).length := by
  rw [filter_snoc ho, ha, h.2]
  simp
theorem many_more {L Q : List Ob} {j many : Nat} {o : Ob} (h : j ≤ L.length ∧ many = Q.length + ((L.take j).filter fun o => !anew Q o.n).length) (ho : L[j]? = some o) (ha : anew Q o.n = false) : many + 1 = Q.length + ((L.take (j + 1)).filter fun o => !anew Q o.n).length := by
  rw [filter_snoc ho, ha, h.2]
  simp
  omega
theorem many_says {F n many : Nat} {w : World} (h : Calls Tryz.prog 9 #[.pointer (some ⟨F, 0, none⟩)] w fun e w' => (∃ a c, e = .returned (.slice a n c)) ∧ Below w.heap.size w w') (hn : n = many) : Calls Tryz.prog 9 #[.pointer (some ⟨F, 0, none⟩)] w fun e w' => (∃ a c, e = .returned (.slice a many c)) ∧ Below w.heap.size w w' := by
  subst hn
  exact h
set_option maxHeartbeats 4000000 in
theorem topUpdate_any (M : Int) (d : Nat) (t1 t2 : Value) (L Q : List Ob) (r : Int) (w : World) (hG : Gr M w) (hL : ObsN d w t1 L) (hQ : ObsN d w t2 Q) (hbk : obsBulk L ≤ 1048576) (hbq : obsBulk Q ≤ 1048576) :
    Calls Tryz.prog 4 #[t1, t2, .int .i64 r] w fun e w' => e = .returned (.bool true) ∧ Below w.heap.size w w' := by
  have HG := hid hG
  have HL := hid hL
  have HQ := hid hQ
  have HBk := hid (And.intro hbk hbq)
  obtain ⟨al, cl, rfl, hl9, hL⟩ := hL
  obtain ⟨aq, cq, rfl, hq9, hQ⟩ := hQ
  have HE := hid hL
  have HEq := hid hQ
  have HSt := hid (stands_says M w hG)
  clear hG hL hQ hbk hbq
  go_enter Tryz.func4, Tryz.ntmps4
  go_wp2_with (go_at_call 5; fail)
  go_at_call 5
  refine HSt.out.mono ?_
  rintro e w1 ⟨rfl, hB1⟩
  go_wp2_with (go_at_call 6; fail)
  go_at_call 6
  refine (lightObs_any d L _ w1 (HL.out.later hB1) HBk.out.1).mono ?_
  rintro e w2 ⟨(rfl | ⟨rfl, hLi⟩), hb2⟩
  · have hB2 := hB1.trans (hb2.mono hB1.size)
    go_wp2_with fail
    go_ret
    exact ⟨rfl, hB2⟩
  · have hB2 := hB1.trans (hb2.mono hB1.size)
    have HLi := hid hLi
    clear hLi hb2 hB1 HSt
    go_wp2_with (go_at_call 6; fail)
    go_at_call 6
    refine (lightObs_any d Q _ w2 (HQ.out.later hB2) HBk.out.2).mono ?_
    rintro e w3 ⟨(rfl | ⟨rfl, hLi⟩), hb3⟩
    · have hB3 := hB2.trans (hb3.mono hB2.size)
      go_wp2_with fail
      go_ret
      exact ⟨rfl, hB3⟩
    · have hB3 := hB2.trans (hb3.mono hB2.size)
      have HQi := hid hLi
      clear hLi hb3 hB2
      go_wp2_with (go_at_call 7; fail)
      go_at_call 7
      refine (build_says M d _ L r w3 (HL.out.later hB3) (light_short_obs HLi.out) (light_cnt HLi.out) ((HG.out.below hB3).rdy)).mono ?_
      rintro e w4 ⟨hE, hb4⟩
      have hB4 := hB3.trans (hb4.mono hB3.size)
      have hE2 : (∃ T, Hid (Laid headL L (rootV r) T) ∧ e = .returned (.tuple #[.string T, .nilIface])) ∨ ∃ k, Hid (k ≠ 0) ∧ e = .returned (.tuple #[.string ⟨#[]⟩, errN k]) := by
        rcases hE with ⟨_, ⟨T, hT, rfl⟩ | ⟨k, hk, _, rfl⟩⟩ | ⟨_, rfl⟩
        · exact .inl ⟨T, hid hT, rfl⟩
        · exact .inr ⟨k, hid hk, rfl⟩
        · exact .inr ⟨1, hid (by decide), rfl⟩
      clear hE hb4 hB3
      rcases hE2 with ⟨T, HT, rfl⟩ | ⟨k, hk, rfl⟩
      · obtain ⟨sp, a, hr0, ha, hsp, h1, h2⟩ := built_read HT.out
        have HR0 := hid (And.intro hr0 (And.intro ha hsp))
        have H12 := hid (And.intro h1 h2)
        clear hr0 ha hsp h1 h2
        go_wp2_with (go_at_call 12; fail)
        go_at_call 12
        refine (update_says M d _ Q r T a sp w4 HR0.out.1 HR0.out.2.1 (HQ.out.later hB4) (light_short_obs HQi.out) (light_cnt HQi.out) (HG.out.below hB4)).mono ?_
        rintro e w5 ⟨hE, hb5⟩
        have hB5 := hB4.trans (hb5.mono hB4.size)
        rcases hE with ⟨U, hU, rfl⟩ | ⟨k, hk, _, rfl⟩
        · have HU := hid hU
          clear hU hb5 hB4
          go_wp2_with (go_at_call 8; fail)
          go_at_call 8
          refine (readBehind_says M L Q r T U a sp w5 HT.out HR0.out.2.1 HR0.out.2.2 HU.out H12.out.1 H12.out.2 (HG.out.below hB5)).mono ?_
          rintro e w6 ⟨⟨B, E, F, tb, v, m, rfl, HF⟩, hb6⟩
          have hB6 := hB5.trans (hb6.mono hB5.size)
          obtain ⟨hext, hle⟩ := ext_pre HU.out.pre
          have hle' : ¬ ((U.size : Int) < (T.size : Int)) := by omega
          have hle2 : T.size ≤ U.size := hle
          have hle3 : decide (U.size < T.size) = false := decide_eq_false (by omega)
          clear hb6 hB5
          go_wp2_with fail
          clear hext hle hle' hle2 hle3
          go_loopw [13] (fun t13 wr => ∃ i : Nat, t13 = .int .i64 (i : Int) ∧ Hid (i ≤ Q.length) ∧ Below w6.heap.size w6 wr) (fun t _ => Q.length - (intOf t).toNat)
          case atStart => exact ⟨0, rfl, hid (Nat.zero_le _), Below.refl _ _⟩
          case round =>
            obtain ⟨i, rfl, HI, hbr⟩ := hrel
            have hBr := hB6.trans (hbr.mono hB6.size)
            by_cases hil : i < Q.length
            · have hil' : (i : Int) < (Q.length : Int) := by omega
              obtain ⟨o, ho⟩ : ∃ o, Q[i]? = some o := ⟨_, List.getElem?_eq_getElem hil⟩
              have hmem := List.mem_of_getElem? ho
              obtain ⟨b, off, cs, rfl, hA⟩ := HEq.out i o ho
              have hOb := hA.later hBr
              have zb := hOb.1
              obtain ⟨p, p1, p2⟩ := HF.out.new o hmem
              have hheld := held_says M d B E F U tb v m o p cs wr HF.out.size (HF.out.later hbr).file p1 p2 (HU.out.ok o hmem) hOb.2.2.2 (light_cnt HQi.out o hmem) (HG.out.below hBr)
              obtain ⟨k1, n1, s1, a3, l1, c1, a4, l2, c2, rfl, g0, g1, g2, g3, g4, g5, g6, g7⟩ := ob_cells hOb
              unfold obC at hheld
              simp only [List.cons_append, List.nil_append] at hheld
              have HHe := hid hheld
              have Hi1 := hid (show i + 1 ≤ Q.length ∧ i ≤ 1000000 by have := HQi.out.1; omega)
              have hwi := wrapS Hi1.out.2
              clear hA hOb ho hmem p1 p2 hheld
              go_wp2_with (go_at_call 11; refine HHe.out.mono ?_; rintro e w7 ⟨rfl, hb7⟩)
              clear hwi
              go_roundw
              case rel => exact ⟨i + 1, by first | exact k_int i | (rw [wrapS Hi1.out.2]; exact k_int i), hid Hi1.out.1, hbr.trans (hb7.mono hbr.size)⟩
              case measure => first | exact i_less hil | (rw [wrapS Hi1.out.2]; exact i_less hil)
            · have hil' : ¬ (i : Int) < (Q.length : Int) := by omega
              go_wp2_with fail
              go_loopw [12, 15] (fun t12 t15 wx => ∃ i many : Nat, t15 = .int .i64 (i : Int) ∧ t12 = .int .i64 (many : Int) ∧ Hid (i ≤ L.length ∧ many = Q.length + ((L.take i).filter fun o => !anew Q o.n).length) ∧ Below w6.heap.size w6 wx) (fun _ t _ => L.length - (intOf t).toNat)
              case atStart => exact ⟨0, Q.length, rfl, rfl, hid ⟨Nat.zero_le _, by simp⟩, hbr⟩
              case round =>
                clear hbr hBr
                obtain ⟨j, many, rfl, rfl, HJ, hbr⟩ := hrel
                have hBr := hB6.trans (hbr.mono hB6.size)
                by_cases hjl : j < L.length
                · have hjl' : (j : Int) < (L.length : Int) := by omega
                  obtain ⟨o, ho⟩ : ∃ o, L[j]? = some o := ⟨_, List.getElem?_eq_getElem hjl⟩
                  have Ho := hid ho
                  obtain ⟨b, off, cs, rfl, hA⟩ := HE.out j o ho
                  have HA0 := hid hA
                  have Hj1 := hid (many_less HJ.out hjl HLi.out.1 HQi.out.1)
                  clear hA ho
                  go_wp2_with fail
                  go_loopw [16, 17] (fun t16 t17 wy => ∃ k : Nat, t17 = .int .i64 (k : Int) ∧ t16 = .bool (anew (Q.take k) o.n) ∧ Hid (k ≤ Q.length) ∧ Below w6.heap.size w6 wy) (fun _ t _ => Q.length - (intOf t).toNat)
                  case atStart => exact ⟨0, rfl, by simp [anew], hid (Nat.zero_le _), hbr⟩
                  case round =>
                    clear hbr hBr
                    obtain ⟨k, rfl, rfl, HK, hbr⟩ := hrel
                    have hBr := hB6.trans (hbr.mono hB6.size)
                    have hOb := hid (HA0.out.later hBr)
                    obtain ⟨nb, hnb⟩ : ∃ nb, anew (Q.take k) o.n = nb := ⟨_, rfl⟩
                    rw [hnb]
                    have Hnb := hid hnb
                    clear hnb
                    by_cases hkl : k < Q.length
                    · have hkl' : (k : Int) < (Q.length : Int) := by omega
                      obtain ⟨q, hq⟩ : ∃ q, Q[k]? = some q := ⟨_, List.getElem?_eq_getElem hkl⟩
                      have Hq := hid hq
                      obtain ⟨b2, off2, cs2, rfl, hA2⟩ := HEq.out k q hq
                      have hOq := hA2.later hBr
                      obtain ⟨_, _, _, _, _, _, _, _, _, _, g0, _, _, _, _, _, _, _⟩ := ob_cells hOb.out
                      obtain ⟨_, _, _, _, _, _, _, _, _, _, q0, _, _, _, _, _, _, _⟩ := ob_cells hOq
                      have zb := hOb.out.1
                      have zq := hOq.1
                      have Hk1 := hid (show k + 1 ≤ Q.length ∧ k ≤ 1000000 by have := HQi.out.1; omega)
                      have hwk := wrapS Hk1.out.2
                      clear hA2 hq hOq
                      cases nb with
                      | true =>
                        go_upto_region 29 with fail
                        go_quiet (fail)
                        go_wp2_with fail
                        clear hwk
                        go_roundw
                        case rel => exact ⟨k + 1, by first | exact k_int k | (rw [wrapS Hk1.out.2]; exact k_int k), by rw [anew_snoc Hq.out, Hnb.out]; rfl, hid Hk1.out.1, hbr.trans (below_dn' _ _ hbr)⟩
                        case measure => first | exact i_less hkl | (rw [wrapS Hk1.out.2]; exact i_less hkl)
                      | false =>
                        go_upto_region 29 with fail
                        go_quiet (fail)
                        go_wp2_with fail
                        clear hwk
                        go_roundw
                        case rel => exact ⟨k + 1, by first | exact k_int k | (rw [wrapS Hk1.out.2]; exact k_int k), by rw [anew_snoc Hq.out, Hnb.out]; first | rfl | simp, hid Hk1.out.1, hbr.trans (below_dn' _ _ hbr)⟩
                        case measure => first | exact i_less hkl | (rw [wrapS Hk1.out.2]; exact i_less hkl)
                    · have hkl' : ¬ (k : Int) < (Q.length : Int) := by omega
                      have Hnb2 := hid (show anew Q o.n = nb by
                        have := Hnb.out
                        rw [List.take_of_length_le (by omega)] at this
                        exact this)
                      have hwj := wrapS Hj1.out.2.1
                      cases nb with
                      | true =>
                        go_wp2_with fail
                        clear hwj
                        go_roundw
                        case rel => exact ⟨j + 1, many, by first | exact k_int j | (rw [wrapS Hj1.out.2.1]; exact k_int j), rfl, hid ⟨Hj1.out.1, many_same HJ.out Ho.out Hnb2.out⟩, hbr⟩
                        case measure => first | exact i_less hjl | (rw [wrapS Hj1.out.2.1]; exact i_less hjl)
                      | false =>
                        have hmem := List.mem_of_getElem? Ho.out
                        have hOb2 := hOb.out
                        have zb := hOb2.1
                        obtain ⟨p, p1, p2⟩ := HF.out.old o hmem Hnb2.out
                        have hheld := held_says M d B E F U tb v m o p cs wr HF.out.size (HF.out.later hbr).file p1 p2 (HT.out.ok o hmem) hOb2.2.2.2 (light_cnt HLi.out o hmem) (HG.out.below hBr)
                        obtain ⟨k1, n1, s1, a3, l1, c1, a4, l2, c2, rfl, g0, g1, g2, g3, g4, g5, g6, g7⟩ := ob_cells hOb2
                        unfold obC at hheld
                        simp only [List.cons_append, List.nil_append] at hheld
                        have HHe := hid hheld
                        have hwm := wrapS Hj1.out.2.2
                        clear hOb2 hmem p1 p2 hheld
                        go_wp2_with (go_at_call 11; refine HHe.out.mono ?_; rintro e w7 ⟨rfl, hb7⟩)
                        clear hwj hwm
                        go_roundw
                        case rel => exact ⟨j + 1, many + 1, by first | exact k_int j | (rw [wrapS Hj1.out.2.1]; exact k_int j), by first | exact k_int many | (rw [wrapS Hj1.out.2.2]; exact k_int many), hid ⟨Hj1.out.1, many_more HJ.out Ho.out Hnb2.out⟩, hbr.trans (hb7.mono hbr.size)⟩
                        case measure => first | exact i_less hjl | (rw [wrapS Hj1.out.2.1]; exact i_less hjl)
                · have hjl' : ¬ (j : Int) < (L.length : Int) := by omega
                  have HF7 := hid (HF.out.later hbr)
                  have hroot : Calls Tryz.prog 10 #[.pointer (some ⟨F, 0, none⟩)] wr fun e w' => e = .returned (.tuple #[.int .i64 r, .nilIface]) ∧ Below wr.heap.size wr w' := rootF_says B E F U tb v m wr (V0 7 r eB) HF7.out.file HF7.out.cnt HF7.out.root rfl
                  have HRt := hid hroot
                  have hmany : Q.length + (L.filter fun o => !anew Q o.n).length = many := by
                    have := HJ.out.2
                    rw [List.take_of_length_le (by omega)] at this
                    exact this.symm
                  have HN := hid (fun (w8 : World) (h : Below wr.heap.size wr w8) => many_says (numbersU_says L Q r T U B E F tb v m w8 (HF7.out.later h) HT.out.nodup HU.out.nodup) hmany)
                  clear hroot hmany
                  go_wp2_with (go_at_call 10; fail)
                  go_at_call 10
                  refine HRt.out.mono ?_
                  rintro e w8 ⟨rfl, hb8⟩
                  go_wp2_with (go_at_call 9; refine (HN.out _ hb8).mono ?_; rintro e w9 ⟨⟨z1, z2, rfl⟩, hb9⟩)
                  go_ret
                  exact ⟨rfl, hBr.trans ((hb8.trans (hb9.mono hb8.size)).mono hBr.size)⟩
        · have Hk := hid hk
          clear hk hb5 hB4
          obtain ⟨_, he⟩ := (errN_cs k).resolve_left (fun h => Hk.out h.1)
          rw [he]
          go_wp2_with fail
          go_ret
          exact ⟨rfl, hB5⟩
      · obtain ⟨_, he⟩ := (errN_cs k).resolve_left (fun h => hk.out h.1)
        rw [he]
        go_wp2_with fail
        go_ret
        exact ⟨rfl, hB4⟩
end Go.Proofs.YtflcibmjblioaaaGreatDoor

/-
  The row's closed facts, each by itself.
-/
namespace Go.Proofs.YtflcibmjblioaaaGreatDoor.TopUpdate
open Go.ChangeShapes Go.WideShapes Go.ChangeAt Go.RowKit
set_option maxRecDepth 100000

set_option maxHeartbeats 40000000 in
theorem closed : joinedFacts Tryz.pinned.checked.prog 4 Tryz.f4 (Rows.OpenSpec.upto Rows.topUpdateSpec).bare Rows.topUpdateUptoRow = true := by
  unfold joinedFacts
  repeat' (with_reducible refine Bool.and_eq_true_iff.2 ⟨?_, ?_⟩)
  all_goals (as_aux_lemma => kernel_rfl)
end Go.Proofs.YtflcibmjblioaaaGreatDoor.TopUpdate
