/-
  Joined: Ls, Lx, Ly.
-/
import Derived.Test.YtflcibmjblioaaaGreatDoorLu
import Derived.Test.YtflcibmjblioaaaGreatDoorLo
import Derived.Test.YtflcibmjblioaaaGreatDoorLy0

/-
  Spans of a table (file.spans).
-/
namespace Go.Proofs.YtflcibmjblioaaaGreatDoor
open Go.RowKit Go.Lib Go.Maps
set_option maxRecDepth 1000000

set_option maxHeartbeats 1000000 in
theorem spans_says (M : Int) (mb n : Nat) (m : Int → Option Int) (w : World) (hM : MapZ w mb n m) (hn : n ≤ 100000) (hm : ∀ x c, m x = some c → 1 ≤ x ∧ x ≤ 60 ∧ 0 ≤ c ∧ c < 10000000) (hlen : ∀ ns : List Nat, ns.Nodup → (∀ k : Nat, k ∈ ns ↔ ∃ c, m (k : Int) = some c) → ns.length ≤ 60) (hG : Rdy M w) :
    Calls Tryz.prog 40 #[.map (some mb)] w fun e w' => ∃ ns : List Nat, e = .returned (.string ⟨(spsT (grpF (gM m) ns.length ns)).toArray⟩) ∧ ns.Nodup ∧ (∀ k : Nat, k ∈ ns ↔ ∃ c, m (k : Int) = some c) ∧ Below w.heap.size w w' := by
  have HM := hid hM
  have HG := hid hG
  have Hm := hid hm
  have hml := hM.lt
  clear hM hG hm
  go_enter Tryz.func40, Tryz.ntmps40
  go_wp2_with (go_at_call 23; fail)
  have hb0 := below_box w (.cells #[.pointer none, .slice none 0 0] 83)
  have hBd := Bd.new w
  go_at_call 23
  refine (numbersZ mb n m _ (HM.out.later hb0) hn).mono ?_
  rintro e w2 ⟨t, zs, rfl, ho, hnd, hmem, hb2⟩
  have HBd := hid (hBd.later hb2)
  have hB2 : Below w.heap.size w w2 := hb0.trans (hb2.mono (by simp))
  have hz2 : w.heap.size + 1 ≤ w2.heap.size := by have := hb2.size; simp at this; omega
  obtain ⟨ns, hns⟩ : ∃ ns : List Nat, zs = ns.map fun k : Nat => (k : Int) := by
    refine ⟨zs.map Int.toNat, ?_⟩
    rw [List.map_map]
    conv => lhs; rw [← List.map_id zs]
    refine List.map_congr_left fun x hx => ?_
    obtain ⟨c, hc, _⟩ := (hmem x).1 hx
    have := (Hm.out x c hc).1
    simp
    omega
  have hnd2 : ns.Nodup := by
    subst hns
    exact List.Pairwise.of_map _ (fun a b h e => h (by rw [e])) hnd
  have hk : ∀ k : Nat, k ∈ ns ↔ ∃ c, m (k : Int) = some c := fun k => by
    have q := hmem (k : Int)
    rw [hns, List.mem_map] at q
    constructor
    · intro h
      obtain ⟨c, hc, _⟩ := q.1 ⟨k, h, rfl⟩
      exact ⟨c, hc⟩
    · rintro ⟨c, hc⟩
      obtain ⟨k', h1, h2⟩ := q.2 ⟨c, hc, (Hm.out _ c hc).2.2.1⟩
      have : k' = k := by omega
      exact this ▸ h1
  have HEnd := hid (And.intro hnd2 hk)
  have hsm : ∀ k ∈ ns, k < 100 ∧ gM m k < 10000000 := fun k h => by
    obtain ⟨c, hc⟩ := (hk k).1 h
    have := Hm.out _ c hc
    refine ⟨by omega, ?_⟩
    unfold gM
    rw [hc]
    simp
    omega
  have hl99 : ns.length ≤ 60 := hlen ns hnd2 hk
  have Hsm := hid hsm
  clear hnd hmem hnd2 hk hsm hBd
  obtain ⟨TOT, hTOT⟩ : ∃ TOT, spsT (grpF (gM m) ns.length ns) = TOT := ⟨_, rfl⟩
  have HT := hid hTOT
  by_cases hne : ns = []
  · subst hne
    obtain ⟨a0, c0, rfl⟩ := ownZ_form ho
    subst hns
    simp only [List.map_nil, List.length_nil] at *
    clear ho hlen
    have hs := hid (string_bd HBd.out)
    go_wp2_with fail
    go_loopw [4] (fun t4 wr => t4 = .slice a0 0 c0 ∧ wr = w2) (fun _ _ => 0)
    case atStart => exact ⟨rfl, rfl⟩
    case round =>
      obtain ⟨rfl, rfl⟩ := hrel
      go_wp2_with (go_at_call 41; go_must (refine hs.out.mono ?_); rintro e w9 ⟨rfl, hb9⟩)
      go_ret
      exact ⟨[], rfl, HEnd.out.1, HEnd.out.2, hB2.trans (hb9.mono (by omega))⟩
  · obtain ⟨g, cap, rfl, hcap, hcap2, hg, hrow⟩ := rowN_of ho hns hne
    clear ho hns hlen
    have HRow := hid hrow
    have HA := hid (show g ≠ w.heap.size ∧ ns.length ≤ 60 ∧ mb < w.heap.size ∧ w.heap.size + 1 ≤ w2.heap.size by
      have := hrow.lt
      simp at hg
      omega)
    have HO := hid (show ∃ f xs, (ns.drop 0).length ≤ f ∧ Wrt w.heap.size (w.heap.size + 1) w2 w2 xs (spsT (grpF (gM m) f (ns.drop 0))) TOT from ⟨ns.length, [], by simp, HBd.out, by simpa using hTOT, .refl _ _⟩)
    have HTl := hid (show TOT.length ≤ 2000 by
      have := grp_long (gM m) ns.length ns Hsm.out (by omega)
      rw [hTOT] at this
      omega)
    have HB2 := hid hB2
    have hi0 := hid (show 0 + ns.length = ns.length ∧ ns.length ≤ cap ∧ cap ≤ maxLen ∧ (0 < ns.length → 0 = 0) from ⟨by omega, hcap, hcap2, fun _ => rfl⟩)
    clear HBd hrow hTOT hcap hcap2 hg hz2 hl99 hn hml hb0 hb2 hB2 hne
    go_wp2_with fail
    go_loopw [4] (fun t4 wr => ∃ i io L C : Nat, t4 = .slice (some ⟨g, io, none⟩) L C ∧ Hid (i + L = ns.length ∧ L ≤ C ∧ C ≤ maxLen ∧ (0 < L → io = i)) ∧ Hid (∃ f xs, (ns.drop i).length ≤ f ∧ Wrt w.heap.size (w.heap.size + 1) w2 wr xs (spsT (grpF (gM m) f (ns.drop i))) TOT)) (fun t4 _ => match t4 with | .slice _ l _ => l | _ => 0)
    case atStart => exact ⟨0, 0, ns.length, cap, rfl, hid ⟨hi0.out.1, hi0.out.2.1, hi0.out.2.2.1, fun _ => rfl⟩, HO⟩
    case round =>
      obtain ⟨i, io, L, C, rfl, HI, HW⟩ := hrel
      clear HO hi0
      by_cases hL : 0 < L
      · obtain rfl : i = io := (HI.out.2.2.2 hL).symm
        have hL3 : decide (0 < L) = true := decide_eq_true hL
        have hL4 : (0 : Int) < (L : Int) := by omega
        obtain ⟨a, r, har⟩ : ∃ a r, ns.drop i = a :: r := by
          have hI := HI.out
          cases h : ns.drop i with
          | nil => have := congrArg List.length h; simp at this; omega
          | cons a r => exact ⟨a, r, rfl⟩
        have HR := hid (show a < 100 ∧ r.length + 1 = L ∧ runL a r ≤ r.length ∧ L ≤ 60 by
          have h1 := HI.out
          have h2 := HA.out
          have h3 : a ∈ ns.drop i := by rw [har]; simp
          have h4 := (Hsm.out a (List.mem_of_mem_drop h3)).1
          have h5 := congrArg List.length har
          have h6 := runL_le a r
          simp at h5
          omega)
        have Hcl := hid (show ∀ j k : Nat, (a :: r)[j]? = some k → ns[i + j]? = some k from fun j k h => by rw [← har, List.getElem?_drop] at h; exact h)
        have HW0 := hid (show ∃ f xs, (a :: r).length ≤ f ∧ Wrt w.heap.size (w.heap.size + 1) w2 wr xs (spsT (grpF (gM m) f (a :: r))) TOT by have := HW.out; rw [har] at this; exact this)
        have Har := hid har
        clear HW har
        go_wp2_with fail
        go_loopw [5] (fun t5 wx => ∃ k : Nat, t5 = .int .i64 (k : Int) ∧ Hid (1 ≤ k ∧ k ≤ runL a r + 1) ∧ Hid (∃ f xs, (a :: r).length ≤ f ∧ Wrt w.heap.size (w.heap.size + 1) w2 wx xs (spsT (grpF (gM m) f (a :: r))) TOT)) (fun t5 _ => L + 1 - (intOf t5).toNat)
        case atStart => exact ⟨1, rfl, hid ⟨Nat.le_refl _, by omega⟩, HW0⟩
        case round =>
          clear HW0
          obtain ⟨k, rfl, HK, HW⟩ := hrel
          go_upto_region 5 with fail
          go_cut [28] from 13 to 28 (fun t wx => t = .bool (decide (k ≤ runL a r)) ∧ Hid (∃ f xs, (a :: r).length ≤ f ∧ Wrt w.heap.size (w.heap.size + 1) w2 wx xs (spsT (grpF (gM m) f (a :: r))) TOT))
          case first =>
            have hw := hid (show wrap64 ((a : Int) + (k : Int)) = (a : Int) + k ∧ (k ≤ runL a r → (k : Int) < (L : Int)) by
              have h1 := HR.out
              have h2 := HK.out
              refine ⟨?_, fun h => by omega⟩
              unfold wrap64
              omega)
            have HWq := fun nq => hid (show ∃ f xs, (a :: r).length ≤ f ∧ Wrt w.heap.size (w.heap.size + 1) w2 (wr.drewN nq) xs (spsT (grpF (gM m) f (a :: r))) TOT by obtain ⟨f, xs, hf, hW⟩ := HW.out; exact ⟨f, xs, hf, hW.later (below_dn _ _)⟩)
            have HRr := hid (show RowN wr g ns by obtain ⟨f, xs, hf, hW⟩ := HW.out; exact HRow.out.others hW.keep HA.out.1)
            have c0 := HRr.out.cell (Hcl.out 0 a rfl)
            rw [Nat.add_zero] at c0
            have hgl2 := HRr.out.lt
            have hwa := hw.out.1
            by_cases hkr : k ≤ runL a r
            · have hlt := hw.out.2 hkr
              have ck := HRr.out.cell (Hcl.out k _ (run_yes HK.out.1 hkr))
              have HKr := hid hkr
              clear hkr
              go_quiet (fail)
              go_wp2_with fail
              go_meet
              exact ⟨by rw [decide_eq_true HKr.out], HWq _⟩
            · have HKr := hid hkr
              have ek := hid (show k = runL a r + 1 by have := HK.out; omega)
              clear hkr
              by_cases hlt : (k : Int) < (L : Int)
              · obtain ⟨b, hb⟩ : ∃ b, (a :: r)[k]? = some b := by
                  have h1 := HR.out
                  exact ⟨_, List.getElem?_eq_getElem (show k < (a :: r).length by simp; omega)⟩
                have hbe := run_not ek.out hb
                have ck := HRr.out.cell (Hcl.out k _ hb)
                clear hb
                go_quiet (fail)
                go_wp2_with fail
                go_meet
                exact ⟨by rw [decide_eq_false HKr.out], HWq _⟩
              · have hlt3 : decide ((k : Int) < (L : Int)) = false := decide_eq_false hlt
                go_quiet (fail)
                go_wp2_with fail
                go_meet
                exact ⟨by rw [decide_eq_false HKr.out], HWq _⟩
          case rest =>
            obtain ⟨rfl, HWc⟩ := hcut
            clear HW
            by_cases hkr : k ≤ runL a r
            · rw [decide_eq_true hkr]
              have H3 := hid (k_more HR.out hkr)
              have hw1 := H3.out.1
              clear hkr
              go_wp2_with fail
              clear hw1
              go_roundw
              case rel => exact ⟨k + 1, by first | exact k_int k | (rw [H3.out.1]; exact k_int k), hid H3.out.2.1, HWc⟩
              case measure => first | exact k_less H3.out.2.2 | (rw [H3.out.1]; exact k_less H3.out.2.2)
            · have ek := hid (k_end HK.out hkr)
              rw [decide_eq_false hkr]
              clear hkr
              have HS := hid (k_sm HR.out ek.out)
              have HBc := hid (below_of HWc.out HB2.out)
              have HRr := hid (row_of HWc.out HRow.out HA.out.1)
              have c0 := HRr.out.cell (Hcl.out 0 a rfl)
              rw [Nat.add_zero] at c0
              have hgl2 := HRr.out.lt
              go_wp2_with (go_at_call 27; fail)
              go_at_call 27
              refine (itoaN a HS.out.1.1 (HG.out.below HBc.out)).mono ?_
              rintro e w3 ⟨rfl, hb3⟩
              have HW3 := hid (wrt_later HWc.out hb3)
              have HB3 := hid (below_of HW3.out HB2.out)
              clear HWc hb3 HBc HRr c0 hgl2
              have hadd1 := fun (w : World) => add_cat (a := decB a) (b := ⟨#[32]⟩) HS.out.2.1.2.2.1 (by decide) w
              have hadd2 := fun (w : World) => add_cat (a := catB (decB a) ⟨#[32]⟩) (b := decB k) HS.out.2.1.1 HS.out.2.1.2.2.2 w
              rw [show (⟨(Lib.decDigits a).toArray⟩ : ByteArray) = decB a from rfl]
              go_wp2_with (go_at_call 27; fail)
              go_at_call 27
              refine (itoaN k HS.out.1.2 (HG.out.below HB3.out)).mono ?_
              rintro e w4 ⟨rfl, hb4⟩
              have HW4 := hid (wrt_later HW3.out hb4)
              clear HW3 HB3 hb4
              rw [show (⟨(Lib.decDigits k).toArray⟩ : ByteArray) = decB k from rfl]
              go_wp2_with (go_at_call 39; fail)
              go_at_call 39
              refine (line_one _ _ HS.out.2.1.2.1).mono ?_
              rintro e w5 ⟨rfl, hb5⟩
              have HW5 := hid (wrt_later HW4.out hb5)
              clear HW4 hb5 hadd1 hadd2
              go_wp2_with (go_at_call 35; fail)
              go_at_call 35
              refine (write_head HTl.out HS.out.2.2 ek.out HW5.out).mono ?_
              rintro e w6 ⟨rfl, hS6, _⟩
              have HS6 := hid hS6
              clear hS6 HW5
              have HKc := hid (show (k : Int) ≤ 1000 ∧ k ≤ L ∧ 1 ≤ k by
                have h1 := HR.out
                have h2 := ek.out
                omega)
              go_wp2_with fail
              go_loopw [43] (fun t43 wx => ∃ j : Nat, t43 = .int .i64 (j : Int) ∧ Hid (j ≤ k) ∧ Hid (SpW w.heap.size (w.heap.size + 1) w2 wx (gM m) a r TOT j)) (fun t _ => k - (intOf t).toNat)
              case atStart => exact ⟨0, rfl, hid (Nat.zero_le _), HS6⟩
              case round =>
                clear HS6
                obtain ⟨j, rfl, HJ, HSj⟩ := hrel
                by_cases hjk : j < k
                · have hjk' : (j : Int) < (k : Int) := by omega
                  obtain ⟨b, cb, gl, hjL, hp, hp9, hlk⟩ := at_j HSj.out hjk ek.out HM.out HB2.out HRow.out HA.out.1 rfl Hcl.out Hm.out HEnd.out.2 HR.out.2.1
                  obtain ⟨p, hpe⟩ : ∃ p, gM m b = p := ⟨_, rfl⟩
                  rw [hpe] at hp hp9 hlk
                  obtain ⟨q, hq1, hq2, hq3, hq4, hq5⟩ := en_facts hp9
                  have hjL' : (j : Int) < (L : Int) := by omega
                  have Hp := hid hp
                  have HBj := hid (HB2.out.trans (HSj.out.keep.below))
                  have hp9' : p ≤ 1000000000 := by omega
                  have Hq := hid (And.intro hq3 (And.intro hq4 hq5))
                  clear hp hp9 hpe hq3 hq4 hq5
                  go_wp2_with (go_at_call 27; fail)
                  go_at_call 27
                  refine (itoaN p hp9' (HG.out.below HBj.out)).mono ?_
                  rintro e w7 ⟨rfl, hb7⟩
                  have HS7 := hid (HSj.out.later hb7)
                  clear HSj HBj hb7 cb gl hlk hp9'
                  rw [show (⟨(Lib.decDigits p).toArray⟩ : ByteArray) = decB p from rfl]
                  go_wp2_with (go_at_call 66; fail)
                  go_at_call 66
                  refine (zero_rep q w7 Hq.out.1).mono ?_
                  rintro e w8 ⟨rfl, hb8⟩
                  have HS8 := hid (HS7.out.later hb8)
                  clear HS7 hb8 hq1 hq2
                  have hadd1 := fun (w : World) => add_cat (a := zrB q) (b := decB p) (by rw [zrB_size]; have := Hq.out.1; omega) (by have := Hq.out.2.2; omega) w
                  have hadd2 := fun (w : World) => add_cat (a := catB (zrB q) (decB p)) (b := ⟨#[32, 48, 48, 48, 48, 48, 32, 110, 32]⟩) (by rw [catB_size, zrB_size]; have := Hq.out; omega) (by decide) w
                  go_wp2_with (go_at_call 39; fail)
                  go_at_call 39
                  refine (line_one _ _ (en_size Hq.out)).mono ?_
                  rintro e w9 ⟨rfl, hb9⟩
                  have HS9 := hid (HS8.out.later hb9)
                  clear HS8 hb9 hadd1 hadd2
                  rw [← enB_eq Hq.out.2.1]
                  have hwj := wrapS (k := j) (by have := HKc.out; omega)
                  go_wp2_with (go_at_call 35; fail)
                  go_at_call 35
                  refine (write_ent HTl.out Hp.out HS9.out).mono ?_
                  rintro e w10 ⟨rfl, hS10⟩
                  have HS10 := hid hS10
                  clear hS10 HS9
                  go_wp2_with fail
                  clear hwj
                  go_roundw
                  case rel => exact ⟨j + 1, by first | exact k_int j | (rw [wrapS (k := j) (by have := HKc.out; omega)]; exact k_int j), hid hjk, HS10⟩
                  case measure => first | exact j_less hjk | (rw [wrapS (k := j) (by have := HKc.out; omega)]; exact j_less hjk)
                · have ej : j = k := by have := HJ.out; omega
                  subst ej
                  have hEnd := hid (sp_end HSj.out ek.out Har.out)
                  have hjL : j ≤ L := HKc.out.2.1
                  have hLC : L ≤ C := HI.out.2.1
                  have HC := hid HI.out.2.2.1
                  by_cases hCj : C = j
                  · go_wp2_with fail
                    have h1 := HI.out.1
                    have h2 := HKc.out
                    exact ⟨⟨i + j, i, L - j, 0, rfl, hid ⟨by omega, by omega, Nat.zero_le _, fun h => by omega⟩, hEnd⟩, show L - j < L by omega⟩
                  · go_wp2_with fail
                    have h1 := HI.out.1
                    have h2 := HKc.out
                    exact ⟨⟨i + j, i + j, L - j, C - j, rfl, hid ⟨by omega, by omega, by have := HC.out; omega, fun _ => rfl⟩, hEnd⟩, show L - j < L by omega⟩
      · have hL0 : L = 0 := by omega
        subst hL0
        clear hL
        obtain ⟨f, xs, hf, hW⟩ := HW.out
        rw [List.drop_eq_nil_of_le (by have := HI.out; omega)] at hW
        have e0 : grpF (gM m) f [] = [] := by cases f <;> rfl
        rw [e0] at hW
        have e1 : xs = TOT := by have := hW.eq; simpa [spsT] using this
        subst e1
        have hs := hid (string_bd hW.bd)
        have hkb := hW.keep.below
        clear HW hW hf
        go_wp2_with (go_at_call 41; go_must (refine hs.out.mono ?_); rintro e w9 ⟨rfl, hb9⟩)
        go_ret
        exact ⟨ns, by rw [HT.out]; rfl, HEnd.out.1, HEnd.out.2, (HB2.out.trans hkb).trans (hb9.mono (by omega))⟩
end Go.Proofs.YtflcibmjblioaaaGreatDoor

/-
  Objects are laid behind a text (file.lay): the walk.
-/
namespace Go.Proofs.YtflcibmjblioaaaGreatDoor
open Go.RowKit Go.Lib Go.Maps
set_option maxRecDepth 1000000

set_option maxHeartbeats 1000000 in
theorem lay_says (M : Int) (d d2 : Nat) (s : ByteArray) (t : Value) (L : List Ob) (v : V) (cs : List Value) (w : World) (hs : s.size ≤ 60000) (hs0 : s.size ≠ 0) (hL : ObsN d w t L) (hS : Short L) (hcn : ∀ o ∈ L, o.v.cnt ≤ 1000000) (hv : RepN d2 w v cs) (hvc : v.cnt ≤ 1048576) (hvt : faultV v = 0 → v.txt.length ≤ 100000) (hG : Rdy M w) :
    Calls Tryz.prog 17 #[.string s, t, .agg cs.toArray] w fun e w' => LayE s.data.toList L v e ∧ Below w.heap.size w w' := by
  obtain ⟨al, cl, rfl, hlL, hL⟩ := hL
  obtain ⟨d2', rfl⟩ := hv.inv
  have HV := hid hv
  obtain ⟨a1, a2, q1, q2, rfl, _⟩ := hv
  have HL := hid hL
  have HG := hid hG
  have HS := hid hS
  have HC := hid hcn
  have HVT := hid (And.intro hvc hvt)
  have hz : s.data.toList.length ≤ 60000 := by have := szL s; omega
  unfold maxLen at hlL
  clear hL hG hS hcn hvc hvt
  by_cases h60 : (60 : Int) < L.length
  · go_enter Tryz.func17, Tryz.ntmps17
    go_wp2
    go_ret2
    exact ⟨.inr ⟨2, by decide, fun h => by have := h.2.2.1; omega, rfl⟩, by go_grown⟩
  · have hf : L.length ≤ 60 := by omega
    go_enter Tryz.func17, Tryz.ntmps17
    go_upto_region 3 with fail
    have A1 := At.new w #[.int .i64 v.k, .int .i64 v.n, .string v.s, .slice a1 v.l.length q1, .slice a2 v.f.length q2] 40 rfl
    have hB1 := below_box w (.cells #[.int .i64 v.k, .int .i64 v.n, .string v.s, .slice a1 v.l.length q1, .slice a2 v.f.length q2] 40)
    generalize w.alloc (.cells #[.int .i64 v.k, .int .i64 v.n, .string v.s, .slice a1 v.l.length q1, .slice a2 v.f.length q2] 40) = w1 at A1 hB1 ⊢
    have hPw := A1.lt
    have hBd := Bd.new w1
    have hb2 := below_box w1 (.cells #[.pointer none, .slice none 0 0] 83)
    go_wp2_with (go_at_call 35; fail)
    go_at_call 35
    refine (write_bd s hBd (by simp; omega) hs0).mono ?_
    rintro e w2 ⟨rfl, hBd2, hK2⟩
    have h12 : Below w1.heap.size w1 (w2.alloc (.map #[] 0)) := (hb2.trans hK2.below).trans ((below_box w2 _).mono (by have := hBd2.1; have := hBd2.2.1; omega))
    have HW0 := hid (show LayW w1.heap.size w2.heap.size w1 s.data.toList L 0 (w2.alloc (.map #[] 0)) from ⟨by simp, by simp, by simpa using hBd2.later (below_box w2 (.map #[] 0)), ⟨0, Nat.le_refl _, MapZ.new w2⟩, h12, by have := hBd2.1; have := hBd2.2.1; omega⟩)
    have hmm := run_makeMap (P := Tryz.prog) 59 w2
    clear hBd hb2 hBd2 hK2 h12
    generalize w2.heap.size = mb at HW0 hmm ⊢
    generalize w2.alloc (.map #[] 0) = w3 at HW0 hmm ⊢
    go_wp2_with fail
    clear hmm
    go_loopw [28] (fun t28 wr => ∃ i : Nat, t28 = .int .i64 (i : Int) ∧ Hid (i ≤ L.length) ∧ Hid (LayW w1.heap.size mb w1 s.data.toList L i wr)) (fun t _ => L.length - (intOf t).toNat)
    case atStart => exact ⟨0, rfl, hid (Nat.zero_le _), HW0⟩
    case round =>
      clear HW0
      obtain ⟨i, rfl, HI, HW⟩ := hrel
      have HBw := hid (hB1.trans (HW.out.below.mono hB1.size))
      by_cases hil : i < L.length
      · have hil' : (i : Int) < (L.length : Int) := by omega
        obtain ⟨o, ho⟩ : ∃ o, L[i]? = some o := ⟨_, List.getElem?_eq_getElem hil⟩
        have Ho := hid ho
        obtain ⟨b, off, cs, rfl, hA⟩ := HL.out i o ho
        have hOb := hA.later HBw.out
        obtain ⟨k1, n1, s1, a3, l1, c1, a4, l2, c2, rfl, g0, g1, g2, g3, g4, g5, g6, g7⟩ := ob_cells hOb
        have zb := hOb.1
        have A3 := At.new wr #[.int .i64 o.n, .int .i64 k1, .int .i64 n1, .string s1, .slice a3 l1 c1, .slice a4 l2 c2, .bool o.st, .string o.dt] 42 rfl
        have hb3 := below_box wr (.cells #[.int .i64 o.n, .int .i64 k1, .int .i64 n1, .string s1, .slice a3 l1 c1, .slice a4 l2 c2, .bool o.st, .string o.dt] 42)
        have hot := objectText_says o _ ((HG.out.below HBw.out).below hb3) (hOb.2.2.2.later hb3) hOb.2.2.1 (HC.out o (List.mem_of_getElem? ho))
        unfold obC at hot
        simp only [List.cons_append, List.nil_append] at hot
        clear hA hOb ho
        by_cases hf0 : obF o = 0
        · rw [if_pos hf0, hf0, errN_0] at hot
          obtain ⟨X, hX⟩ : ∃ X : ByteArray, (⟨(obT o).toArray⟩ : ByteArray) = X := ⟨_, rfl⟩
          rw [hX] at hot
          have HX := hid (show X.data.toList = obT o by rw [← hX])
          have HF0 := hid hf0
          clear hX hf0
          go_wp2_with (go_at_call 36; fail)
          go_at_call 36
          refine hot.mono ?_
          rintro e w4 ⟨rfl, hb4⟩
          have HW4 := hid ((HW.out.later hb3).later hb4)
          have hB4 := hid (HBw.out.trans (((hb3.trans (hb4.mono hb3.size))).mono HBw.out.size))
          have A4 := A3.later hb4
          have cO := A4.cell 0
          have zO := A4.lt
          simp at cO
          obtain ⟨nm, hnm, hM4⟩ := HW4.out.mp
          have HN1 := hid (obF_parts HF0.out).1
          have hlk := hM4.look (x := o.n) (by have := HN1.out; omega)
          have HM4 := hid hM4
          clear hot hb4 HW g0 g1 g2 g3 g4 g5 g6 g7 zb hb3 A3 hM4
          cases hwm : whM s.data.toList.length (L.take i) o.n with
          | some c =>
            rw [hwm] at hlk
            simp only [Option.getD_some, Option.isSome_some] at hlk
            go_wp2_with fail
            go_ret2
            exact ⟨.inr ⟨3, by decide, fun h => twice_not Ho.out hwm h.2.1, rfl⟩, hB4.out⟩
          | none =>
            rw [hwm] at hlk
            simp only [Option.getD_none, Option.isSome_none] at hlk
            go_upto_region 15 with fail
            have hpl := hid (lay_short (by omega) HS.out HW4.out.ok)
            have HXl := hid (wr_len hpl.out HX.out (ob_len1 HS.out HW4.out.ok HF0.out Ho.out))
            have Hi1 := hid (show i + 1 ≤ L.length ∧ nm + 1 ≤ i + 1 ∧ i ≤ 1000000 by omega)
            have hwi := wrapS (k := i) Hi1.out.2.2
            go_cut [9] from 49 to 52 (fun t9 wx => t9 = .map (some mb) ∧ Hid (Bd w1.heap.size (w1.heap.size + 1) wx (s.data.toList ++ (L.take i).flatMap obT) ∧ MapZ wx mb (nm + 1) (whM s.data.toList.length (L.take (i + 1))) ∧ Below w1.heap.size w1 wx))
            case first =>
              have hdr : Below w4.heap.size w4 w4.drew := Below.drew (Below.refl _ _)
              have hln := len_bd (HW4.out.bd.later hdr)
              obtain ⟨cc, hcc⟩ : ∃ cc, (s.data.toList ++ (L.take i).flatMap obT).length = cc := ⟨_, rfl⟩
              rw [hcc] at hln
              obtain ⟨w5, hu, hM5, hg5⟩ := (HM4.out.later hdr).put (x := o.n) (c := ((cc : Nat) : Int)) (num_small HN1.out) (len_small (hcc ▸ hpl.out)) (num_few hnm hil hf)
              have HP := hid ((HW4.out.later hdr).put Ho.out (by rw [hcc]; exact hM5) hg5 (HM4.out.later hdr).kind)
              have HLn := hid hln
              clear hln hcc hM5 hg5 hlk hdr
              go_region_with (go_at_call 37; refine HLn.out.mono ?_; rintro e w6 ⟨rfl, rfl⟩)
              all_goals
                clear hu HLn cO zO
                go_wp2_with fail
                go_meet
                exact ⟨rfl, HP⟩
            case rest =>
              obtain ⟨rfl, HP⟩ := hcut
              obtain ⟨hBd5, hM5, hB5⟩ := HP.out
              clear hlk cO zO A4 HP
              go_wp2_with (go_at_call 35; fail)
              go_at_call 35
              refine (write_bd X hBd5 HXl.out.1 HXl.out.2).mono ?_
              rintro e w7 ⟨rfl, hBd7, hK7⟩
              have HW7 := hid (show LayW w1.heap.size mb w1 s.data.toList L (i + 1) w7 from HW4.out.next Ho.out HF0.out HX.out hwm hBd7 ⟨nm + 1, Hi1.out.2.1, hM5⟩ hB5 hK7)
              clear hBd5 hM5 hB5 hBd7 hK7 HW4 hB4 HM4 hwm
              go_wp2_with fail
              clear hwi
              go_roundw
              case rel => exact ⟨i + 1, by first | exact k_int i | (rw [wrapS Hi1.out.2.2]; exact k_int i), hid Hi1.out.1, HW7⟩
              case measure => first | exact i_less hil | (rw [wrapS Hi1.out.2.2]; exact i_less hil)
        · have hme := (errN_cs (obF o)).resolve_left (fun h => hf0 h.1)
          obtain ⟨_, he⟩ := hme
          rw [if_neg hf0, he] at hot
          go_wp2_with (go_at_call 36; fail)
          go_at_call 36
          refine hot.mono ?_
          rintro e w4 ⟨rfl, hb4⟩
          have hB4 := hid (HBw.out.trans (((hb3.trans (hb4.mono hb3.size))).mono HBw.out.size))
          clear hot
          go_wp2_with fail
          go_ret2
          exact ⟨.inr ⟨obF o, hf0, fun h => hf0 (h.1 o (List.mem_of_getElem? Ho.out)), by rw [he]; rfl⟩, hB4.out⟩
      · have hil' : ¬ (i : Int) < (L.length : Int) := by omega
        have hiL : i = L.length := by have := HI.out; omega
        have HW1 := hid (show LayW w1.heap.size mb w1 s.data.toList L L.length wr from hiL ▸ HW.out)
        have hAw := A1.later HW1.out.below
        obtain ⟨⟨v0, v1, v2, v3, v4⟩, _⟩ := five_cells hAw
        have zv := hAw.lt
        have htx := vText_says (HG.out.below HBw.out) (HV.out.later HBw.out) HVT.out.1
        clear HW hAw
        by_cases hfv : faultV v = 0
        · have ext : textOf v = ⟨v.txt.toArray⟩ := by unfold textOf; rw [if_pos hfv]
          rw [ext, hfv, errN_0] at htx
          obtain ⟨X, hX⟩ : ∃ X : ByteArray, (⟨v.txt.toArray⟩ : ByteArray) = X := ⟨_, rfl⟩
          rw [hX] at htx
          have HX := hid (show X.data.toList = v.txt ∧ X.size ≤ 100000 by
            have := HVT.out.2 hfv
            have e : X.data.toList = v.txt := by rw [← hX]
            exact ⟨e, by rw [szL, e]; exact this⟩)
          have HFV := hid hfv
          clear hX ext hfv
          go_wp2_with (go_at_call 38; fail)
          go_at_call 38
          refine htx.mono ?_
          rintro e w4 ⟨rfl, hb4⟩
          have HW4 := hid (HW1.out.later hb4)
          have HB4 := hid (HBw.out.trans (hb4.mono HBw.out.size))
          clear htx hb4 HW1 HBw v0 v1 v2 v3 v4 zv
          go_wp2_with (go_at_call 37; fail)
          go_at_call 37
          refine (len_bd HW4.out.bd).mono ?_
          rintro e w5 ⟨rfl, e5⟩
          rw [e5]
          clear e5 w5
          rw [List.take_length]
          obtain ⟨a, ha⟩ : ∃ a, (s.data.toList ++ L.flatMap obT).length = a := ⟨_, rfl⟩
          rw [ha]
          have HA := hid (show (s.data.toList ++ L.flatMap obT).length = a ∧ a < 1300000 by
            refine ⟨ha, ?_⟩
            have := short_take HS.out (i := L.length) HW4.out.ok
            rw [List.take_length] at this
            rw [List.length_append] at ha
            omega)
          clear ha
          have ha9 : a ≤ 1000000000 := by have := HA.out.2; omega
          go_wp2_with (go_at_call 27; fail)
          go_at_call 27
          refine (itoaN a ha9 (HG.out.below HB4.out)).mono ?_
          rintro e w5 ⟨rfl, hb5⟩
          have HW5 := hid (HW4.out.later hb5)
          have HB5 := hid (HB4.out.trans (hb5.mono HB4.out.size))
          clear hb5 HW4 HB4 ha9
          rw [show (⟨(Lib.decDigits a).toArray⟩ : ByteArray) = decB a from rfl]
          go_wp2_with (go_at_call 39; fail)
          go_at_call 39
          refine (line_one ⟨#[120, 114, 101, 102]⟩ _ (by decide)).mono ?_
          rintro e w6 ⟨rfl, hb6⟩
          have HW6 := hid (HW5.out.later hb6)
          have HB6 := hid (HB5.out.trans (hb6.mono HB5.out.size))
          clear hb6 HW5 HB5
          have HK := hid (show (∀ o ∈ L, obF o = 0) ∧ (L.map (·.n)).Nodup from by
            have h1 := HW6.out.ok
            have h2 := HW6.out.nd
            rw [List.take_length] at h1 h2
            exact ⟨h1, h2⟩)
          obtain ⟨nm, hnm, hM6⟩ := HW6.out.mp
          rw [List.take_length] at hM6
          have HM6 := hid hM6
          clear hM6
          go_wp2_with (go_at_call 40; fail)
          go_at_call 40
          refine (spans_says M mb nm _ _ HM6.out (by omega) (whM_bound (by omega) HS.out HK.out.1 HK.out.2) (whM_few HK.out.1 HK.out.2 hf) (HG.out.below HB6.out)).mono ?_
          rintro e w7 ⟨ns, rfl, hns1, hns2, hb7⟩
          have HW7 := hid (HW6.out.later hb7)
          have HB7 := hid (HB6.out.trans (hb7.mono HB6.out.size))
          have HNS := hid (And.intro hns1 hns2)
          have hsp := tab_short (by omega) HS.out HK.out.1 HK.out.2 hf hns1 hns2
          obtain ⟨SP, hSP⟩ : ∃ SP : ByteArray, (⟨(spsT (grpF (gM (whM s.data.toList.length L)) ns.length ns)).toArray⟩ : ByteArray) = SP := ⟨_, rfl⟩
          have HSP := hid (show SP.size ≤ 1920 by rw [← hSP, szL]; simpa using hsp)
          rw [hSP]
          have hadd1 := fun (w : World) => add_cat (a := lnB ⟨#[120, 114, 101, 102]⟩) (b := SP) (by decide) (by have := HSP.out; omega) w
          clear hb7 HW6 HB6 HM6 hns1 hns2 hsp
          go_wp2_with (go_at_call 39; fail)
          have HDz := hid (dec_len7 (n := a) (by have := HA.out.2; omega))
          have HDs := hid (show (decB a).size ≤ 7 by have := HDz.out; simpa [decB, ByteArray.size] using this)
          go_at_call 39
          refine (line_last X (decB a) _ (by have := HX.out.2; have := HDs.out; omega)).mono ?_
          rintro e w8 ⟨rfl, hb8⟩
          have HW8 := hid (HW7.out.later hb8)
          have HB8 := hid (HB7.out.trans (hb8.mono HB7.out.size))
          clear hb8 HW7 HB7 hadd1
          have HZ := hid (show (catB (lnB ⟨#[120, 114, 101, 102]⟩) SP).size ≤ 2000 by rw [catB_size]; have := HSP.out; have e : (lnB ⟨#[120, 114, 101, 102]⟩).size = 5 := rfl; omega)
          have hadd2 := fun (w : World) => add_cat (a := catB (lnB ⟨#[120, 114, 101, 102]⟩) SP) (b := lastB X (decB a)) (by have := HZ.out; omega) (by rw [lastB_size]; have := HX.out.2; have := HDs.out; omega) w
          have hcat := hid (tab_text (X := X) (sp := grpF (gM (whM s.data.toList.length L)) ns.length ns) (v := v) (a := a) HX.out.1)
          rw [hSP] at hcat
          obtain ⟨T9, hT9⟩ : ∃ T9, catB (catB (lnB ⟨#[120, 114, 101, 102]⟩) SP) (lastB X (decB a)) = T9 := ⟨_, rfl⟩
          rw [hT9] at hadd2 hcat
          have HT9 := hid (show T9.size ≤ 200000 ∧ T9.size ≠ 0 by
            rw [← hT9, catB_size, lastB_size]
            have h1 := HZ.out; have h2 := HX.out.2; have h3 := HDs.out
            omega)
          go_wp2_with (go_at_call 35; fail)
          clear hadd2
          have hbd8 := HW8.out.bd
          rw [List.take_length] at hbd8
          go_at_call 35
          refine (write_bd T9 hbd8 (by rw [HA.out.1]; have := HA.out.2; have := HT9.out.1; omega) HT9.out.2).mono ?_
          rintro e w9 ⟨rfl, hbd9, hK9⟩
          obtain ⟨XS, hXS⟩ : ∃ XS, s.data.toList ++ L.flatMap obT ++ T9.data.toList = XS := ⟨_, rfl⟩
          rw [hXS] at hbd9
          have HB9 := hid (HB8.out.trans ((hK9.below).mono (by omega)))
          have HBD := hid hbd9
          have HXS := hid hXS
          clear hbd8 hbd9 hK9 hXS HW8 HB8
          go_wp2_with (go_at_call 37; fail)
          go_at_call 37
          refine (len_bd HBD.out).mono ?_
          rintro e w10 ⟨rfl, e10⟩
          rw [e10]
          clear e10 w10
          by_cases hlen : (60000 : Int) < XS.length
          · go_wp2_with fail
            go_ret2
            refine ⟨.inr ⟨2, by decide, lay_long (T := ⟨XS.toArray⟩) (sp := grpF (gM (whM s.data.toList.length L)) ns.length ns) (a := a) ?_ (by have := HA.out.2; omega) ?_ ?_, rfl⟩, HB9.out⟩
            · have := HSP.out; rw [← hSP, szL] at this; simpa using this
            · rw [← HXS.out, hcat.out]
            · rw [szL]; simp; omega
          · go_wp2_with (go_at_call 41; fail)
            go_at_call 41
            refine (string_bd HBD.out).mono ?_
            rintro e w10 ⟨rfl, hb10⟩
            go_wp2_with fail
            go_ret2
            refine ⟨.inl ⟨⟨XS.toArray⟩, laid_of HK.out.1 HK.out.2 hf HFV.out ?_ HNS.out.1 HNS.out.2 ?_, rfl⟩, HB9.out.trans (hb10.mono (by omega))⟩
            · rw [szL]; simp; omega
            · rw [HA.out.1, ← hcat.out, HXS.out]
        · have hme := (errN_cs (faultV v)).resolve_left (fun h => hfv h.1)
          obtain ⟨_, he⟩ := hme
          have ext : textOf v = ⟨#[]⟩ := by unfold textOf; rw [if_neg hfv]
          rw [ext, he] at htx
          go_wp2_with (go_at_call 38; fail)
          go_at_call 38
          refine htx.mono ?_
          rintro e w4 ⟨rfl, hb4⟩
          have HB4 := hid (HBw.out.trans (hb4.mono HBw.out.size))
          clear htx
          go_wp2_with fail
          go_ret2
          exact ⟨.inr ⟨faultV v, hfv, fun h => hfv h.2.2.2.1, by rw [he]; rfl⟩, HB4.out⟩
end Go.Proofs.YtflcibmjblioaaaGreatDoor

/-
  Files are built (file.Build, file.Update).
-/
namespace Go.Proofs.YtflcibmjblioaaaGreatDoor
open Go.RowKit Go.Lib Go.Maps
set_option maxRecDepth 1000000

theorem LayE.form {base : List UInt8} {L : List Ob} {v : V} {e : Ending} (h : LayE base L v e) : ∃ S E, e = .returned (.tuple #[.string S, E]) := by
  rcases h with ⟨T, _, rfl⟩ | ⟨k, _, _, rfl⟩
  · exact ⟨_, _, rfl⟩
  · exact ⟨_, _, rfl⟩
def headB : ByteArray := ⟨#[37, 80, 68, 70, 45, 49, 46, 52, 10]⟩
set_option maxHeartbeats 2000000 in
theorem build_says (M : Int) (d : Nat) (t : Value) (L : List Ob) (r : Int) (w : World) (hL : ObsN d w t L) (hS : Short L) (hcn : ∀ o ∈ L, o.v.cnt ≤ 1000000) (hG : Rdy M w) :
    Calls Tryz.prog 7 #[t, .int .i64 r] w fun e w' => (((1 ≤ r ∧ r ≤ 60) ∧ LayE headL L (rootV r) e) ∨ (¬ (1 ≤ r ∧ r ≤ 60) ∧ e = .returned (.tuple #[.string ⟨#[]⟩, errN 1]))) ∧ Below w.heap.size w w' := by
  have HL := hid hL
  have HG := hid hG
  have HS := hid (And.intro hS hcn)
  have ht : ∃ a n c, t = .slice a n c := by obtain ⟨a, c, h, _⟩ := hL; exact ⟨_, _, _, h⟩
  obtain ⟨al, ln, cl, rfl⟩ := ht
  clear hL hG hS hcn
  by_cases hr : 1 ≤ r ∧ r ≤ 60
  · have hmb := mayBe_is r w (decide_eq_true hr)
    go_enter Tryz.func7, Tryz.ntmps7
    go_wp2_with (first | (go_at_call 15; refine hmb.mono ?_; rintro e w1 ⟨rfl, hw1⟩; rw [hw1]; clear hw1 w1) | (go_at_call 16; fail))
    go_at_call 16
    refine (vSetP (v := V0 6 0 eB) (x := V0 7 r eB) rootN (by decide) (rep_vc 0 w 6 0 eB (by decide)) (rep_vc 0 w 7 r eB (by decide)) (by rw [cnt_eq]; simp [V0, cntL, cntF]) (by rw [cnt_eq]; simp [V0, cntL, cntF])).mono ?_
    rintro e w1 ⟨⟨c, rfl, hr1⟩, hb1⟩
    have hr2 : RepN 2 w1 (rootV r) c := hr1.now
    have HR := hid hr2
    obtain ⟨al2, af2, cl2, cf2, rfl, _⟩ := hr2
    clear hr1
    go_wp2_with (go_at_call 17; fail)
    have hB2 : Below w.heap.size w (w1.alloc (.cells #[.int .i64 (rootV r).k, .int .i64 (rootV r).n, .string (rootV r).s, .slice al2 (rootV r).l.length cl2, .slice af2 (rootV r).f.length cf2] 40)) := hb1.alloc hb1.size _
    go_at_call 17
    refine (lay_says M d 2 headB _ L (rootV r) _ _ (by decide) (by decide) (HL.out.later hB2) HS.out.1 HS.out.2 (HR.out.later (below_box w1 _)) (by rw [root_cnt]; decide) (fun h => by
      have := txt_long (rootV r) (fault_parts h).1
      have e := root_cnt r
      have e2 := root_bulk r
      omega) (HG.out.below hB2)).mono ?_
    rintro e w3 ⟨hE, hb3⟩
    have hB3 := hB2.trans (hb3.mono hB2.size)
    have hE : LayE headL L (rootV r) e := hE
    rcases hE with ⟨T, hT, rfl⟩ | ⟨k, hk, hn, rfl⟩
    · have HE := hid hT
      clear hT
      go_wp2_with fail
      go_ret2
      exact ⟨.inl ⟨hr, .inl ⟨T, HE.out, rfl⟩⟩, hB3⟩
    · have HE := hid (And.intro hk hn)
      clear hk hn
      go_wp2_with fail
      go_ret2
      exact ⟨.inl ⟨hr, .inr ⟨k, HE.out.1, HE.out.2, rfl⟩⟩, hB3⟩
  · have hmb := mayBe_is r w (decide_eq_false hr)
    go_enter Tryz.func7, Tryz.ntmps7
    go_wp2_with (first | (go_at_call 15; refine hmb.mono ?_; rintro e w1 ⟨rfl, hw1⟩; rw [hw1]; clear hw1 w1) | (go_at_call 16; fail))
    go_ret2
    exact ⟨.inr ⟨hr, rfl⟩, Below.refl _ _⟩
set_option maxHeartbeats 2000000 in
theorem update_says (M : Int) (d : Nat) (t : Value) (Q : List Ob) (r : Int) (T : ByteArray) (a : Nat) (sp : List (Nat × List Nat)) (w : World) (hT : ReadOk T ⟨a, sp, rootV r⟩ []) (ha : a < T.size) (hQ : ObsN d w t Q) (hS : Short Q) (hcn : ∀ o ∈ Q, o.v.cnt ≤ 1000000) (hG : Gr M w) :
    Calls Tryz.prog 12 #[.string T, t] w fun e w' => LayE T.data.toList Q (prevV r a) e ∧ Below w.heap.size w w' := by
  have HQ := hid hQ
  have HG := hid hG
  have HS := hid (And.intro hS hcn)
  have hsz := hT.size
  have ht : ∃ a n c, t = .slice a n c := by obtain ⟨a, c, h, _⟩ := hQ; exact ⟨_, _, _, h⟩
  obtain ⟨al, ln, cl, rfl⟩ := ht
  obtain ⟨X, s1, s2, s3⟩ := hT.start
  have hrd := read_says M T _ _ X w hT.size hT.pdf s1 s3 s2 hT.links hT.nodup hT.few hT.tot hG
  have ha9 : (a : Int) ≤ 100000000 := by omega
  clear hQ hG hS hcn hT s1 s2 s3
  go_enter Tryz.func12, Tryz.ntmps12
  go_wp2_with (go_at_call 8; fail)
  go_at_call 8
  refine hrd.mono ?_
  rintro e w2 ⟨F, rfl, hF, hb2⟩
  obtain ⟨mb, n, c0, c1, c2, c3, c4, hF1, _, _, hR, _, _, _, _, _, _⟩ := hF
  have hr := hR.out.now
  have HR := hid hr
  obtain ⟨al2, af2, cl2, cf2, e, _⟩ := hr
  simp only [List.cons.injEq, and_true] at e
  obtain ⟨rfl, rfl, rfl, rfl, rfl⟩ := e
  obtain ⟨⟨f0, f1, f2, f3, f4, f5, f6, f7⟩, _⟩ := eight_cells hF1
  have fl := hF1.lt
  have hwh := fun (w : World) => whole_says (a : Int) w (by omega) ha9
  have hset := fun (w1 : World) (h : Below w2.heap.size w2 w1) => vSetP (v := rootV r) (x := V0 2 ((a : Int) * 1000) eB) prevN (by decide) (HR.out.later h) (rep_vc 8 w1 2 ((a : Int) * 1000) eB (by decide)) (by show (rootV r).cnt ≤ _; rw [root_cnt]; decide) (by rw [cnt_eq]; simp [V0, cntL, cntF])
  have e0 : (⟨(rootV r).k, (rootV r).n, (rootV r).s, (rootV r).l, psetF prevN (V0 2 ((a : Int) * 1000) eB) (rootV r).f⟩ : V) = prevV r a := by rw [prev_pset]; rfl
  simp only [e0] at hset
  unfold prevN vc at hset
  have HSet := hid hset
  clear e0
  have HLay := hid (fun (w1 : World) (h : Below w2.heap.size w2 w1) (c : List Value) (hc : RepN 10 w1 (prevV r a) c) => lay_says M d 10 T (.slice al ln cl) Q (prevV r a) c w1 hsz (by omega) (HQ.out.later (hb2.trans (h.mono hb2.size))) HS.out.1 HS.out.2 hc (by rw [prev_cnt]; decide) (fun h => by
      have := txt_long (prevV r a) (fault_parts h).1
      have e := prev_cnt r a
      have e2 := prev_bulk r a
      omega) (HG.out.below (hb2.trans (h.mono hb2.size))).rdy)
  clear hset hrd hR
  go_upto_region 4 with fail
  go_region_with (first | (go_at_call 26; refine (hwh _).mono ?_; rintro e w3 ⟨rfl, hb3⟩; (have HB3 := hid (show Below w2.heap.size w2 w3 from by first | exact hb3 | exact below_undrew hb3)); (have F3 := hF1.later HB3.out); (obtain ⟨⟨h0, h1, h2, h3, h4, h5, h6, h7⟩, _⟩ := eight_cells F3); (have hl3 := F3.lt)) | (go_at_call 16; refine (HSet.out _ HB3.out).mono ?_; rintro e w4 ⟨⟨c, rfl, hr4⟩, hb4⟩; (have HB4 := hid (HB3.out.trans (hb4.mono HB3.out.size))); (have HR4 := hid (show RepN 10 w4 (prevV r a) c from hr4.now)); obtain ⟨al4, af4, cl4, cf4, rfl, _⟩ := hr4.now) | (go_at_call 17; refine (HLay.out _ HB4.out _ HR4.out).mono ?_; rintro e w5 ⟨hE, hb5⟩; (have HB5 := hid (HB4.out.trans (hb5.mono HB4.out.size))); (obtain ⟨SS, EE, rfl⟩ := hE.form); (have HE := hid hE)))
  all_goals
    have hE := HE.out
    have hBB := hb2.trans (HB5.out.mono hb2.size)
    go_wp2_with fail
    go_ret2
    exact ⟨hE, hBB⟩
end Go.Proofs.YtflcibmjblioaaaGreatDoor
