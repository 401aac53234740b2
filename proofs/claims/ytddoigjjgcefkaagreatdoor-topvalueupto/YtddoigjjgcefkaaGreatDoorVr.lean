/-
  Joined: Zr, Vq, Vr.
-/
import Derived.Test.YtddoigjjgcefkaaGreatDoorYc
import Derived.Test.YtddoigjjgcefkaaGreatDoorZq
import Derived.Test.YtddoigjjgcefkaaGreatDoorAp
import Derived.Test.YtddoigjjgcefkaaGreatDoorPj
import Derived.Deep.RegionLaw
import Derived.Deep.DrawnRows

/-
  How heavy a value is: what LightValue says of one whose bulk is bounded.
-/
namespace Go.Proofs.YtddoigjjgcefkaaGreatDoor
open Go.RowKit
set_option maxRecDepth 100000

set_option maxHeartbeats 2000000 in
theorem heavy_step (d : Nat) (most : Int)
    (ih : ∀ (v : V) (cs : List Value) (w : World), RepN d w v cs → v.bulk ≤ 1048576 → Calls Tryz.prog 31 #[.agg cs.toArray, .int .i64 most] w fun e w' => (∃ z : Nat, e = .returned (.int .i64 (z : Int)) ∧ z ≤ v.bulk ∧ ((z : Int) ≤ most → v.bulk + 1 ≤ z + 2 * v.cnt)) ∧ Below w.heap.size w w')
    (v : V) (cs : List Value) (w : World) (hv : RepN (d + 1) w v cs) (hbk : v.bulk ≤ 1048576) :
    Calls Tryz.prog 31 #[.agg cs.toArray, .int .i64 most] w fun e w' => (∃ z : Nat, e = .returned (.int .i64 (z : Int)) ∧ z ≤ v.bulk ∧ ((z : Int) ≤ most → v.bulk + 1 ≤ z + 2 * v.cnt)) ∧ Below w.heap.size w w' := by
  obtain ⟨al, af, cl, cf, rfl, ⟨hs, hl, hf⟩, hL, hF⟩ := hv
  have hbe := bulk_eq' v
  have hce := cnt_eq v
  unfold maxLen at hs hl hf
  have HL := hid hL
  have HF := hid hF
  clear hL hF
  go_enter Tryz.func31, Tryz.ntmps31
  go_upto_block 0 with fail
  go_cut [5] from 12 to 32 (fun t wx => ∃ z : Nat, t = .int .i64 (z : Int) ∧ (z ≤ 1 + v.s.size + bulkL v.l ∧ ((z : Int) ≤ most → 1 + v.s.size + bulkL v.l ≤ z + 2 * cntL v.l)) ∧ BoxV wx w.heap.size v al af cl cf ∧ Below w.heap.size w wx)
  case first =>
    go_wp2_with fail
    go_loopw [5, 6] (fun t i wr => ∃ (j z : Nat), i = .int .i64 j ∧ t = .int .i64 (z : Int) ∧ j ≤ v.l.length ∧ (z ≤ 1 + v.s.size + bulkL (v.l.take j) ∧ ((z : Int) ≤ most → 1 + v.s.size + bulkL (v.l.take j) ≤ z + 2 * cntL (v.l.take j))) ∧ BoxV wr w.heap.size v al af cl cf ∧ Below w.heap.size w wr) (fun _ i _ => v.l.length - (intOf i).toNat)
    case atStart => exact ⟨0, 1 + v.s.size, rfl, by go_num, Nat.zero_le _, ⟨by omega, fun _ => by simp [bulkL]⟩, At.new _ _ _ rfl, by go_grown⟩
    case round =>
      obtain ⟨j, z, rfl, rfl, hj, hzz, hA, hB⟩ := hrel
      have HZ := hid hzz
      have hzb : (z : Int) ≤ 1048576 := by have := bulkL_le v.l j; omega
      clear hzz
      have mc := hA.cell
      have mz := hA.lt
      by_cases hjl : j < v.l.length
      · have hjl' : (j : Int) < v.l.length := by omega
        by_cases hzm : (z : Int) ≤ most
        · obtain ⟨b, off, c, rfl, hbl, hc, hr⟩ := HL.out j v.l[j] (List.getElem?_eq_getElem hjl)
          have hr' := hr.later (hB : Below w.heap.size w wr)
          have hbr : b < wr.heap.size := Nat.lt_of_lt_of_le hbl hB.size
          obtain ⟨k1, n1, s1, a1, l1, c1, a2, l2, c2, rfl, g0, g1, g2, g3, g4⟩ := rep_cells hr' (hc.later hbl hB)
          have HR := hid hr'
          clear hr hr' hc
          have tb := bulkL_step v.l j hjl
          have tl := bulkL_le v.l (j + 1)
          have tc := cntL_take v.l j v.l[j] (List.getElem?_eq_getElem hjl)
          have hb0 : v.l[j].bulk ≤ 1048576 := by omega
          have TB := hid tb
          have TC := hid tc
          clear tb tc
          go_wp2_with (go_at_call 31; refine (ih v.l[j] _ _ HR.out hb0).mono ?_; rintro e w1 ⟨⟨z1, rfl, hz1, hz2⟩, hb1⟩; (have HZ1 := hid (And.intro hz1 hz2)); (have hz1b : (z1 : Int) ≤ 1048576 := by omega); clear hz1 hz2)
          go_roundw
          case rel =>
            have a1 := HZ.out; have a2 := HZ1.out; have a3 := TB.out; have a4 := TC.out
            refine ⟨j + 1, z + z1, by go_num, by go_num, by omega, ⟨by omega, fun hm => ?_⟩, hA.later hb1, hB.trans (hb1.mono hB.size)⟩
            have b1 := a1.2 (by omega); have b2 := a2.2 (by omega)
            omega
          case measure => simp [intOf]; omega
        · go_wp2_with fail
          go_meet
          case rel =>
            have a1 := HZ.out; have a3 := bulkL_le v.l j
            exact ⟨z, rfl, ⟨by omega, fun hm => by omega⟩, hA, hB⟩
      · have hjl' : ¬ (j : Int) < v.l.length := by omega
        go_wp2_with fail
        go_meet
        case rel =>
          have a1 := HZ.out
          rw [List.take_of_length_le (by omega)] at a1
          exact ⟨z, rfl, a1, hA, hB⟩
  case rest =>
    obtain ⟨z, rfl, hzz, hA, hB⟩ := hcut
    have HZ := hid hzz
    clear hzz
    go_wp2_with fail
    go_loopw [5, 7] (fun t i wq => ∃ (p y : Nat), i = .int .i64 p ∧ t = .int .i64 (y : Int) ∧ p ≤ v.f.length ∧ (y ≤ 1 + v.s.size + bulkL v.l + bulkF (v.f.take p) ∧ ((y : Int) ≤ most → 1 + v.s.size + bulkL v.l + bulkF (v.f.take p) ≤ y + 2 * cntL v.l + 2 * cntF (v.f.take p))) ∧ BoxV wq w.heap.size v al af cl cf ∧ Below w.heap.size w wq) (fun _ i _ => v.f.length - (intOf i).toNat)
    case atStart => exact ⟨0, z, rfl, rfl, Nat.zero_le _, by have := HZ.out; simpa [bulkF, cntF] using this, hA, hB⟩
    case round =>
      clear hA hB
      obtain ⟨p, y, rfl, rfl, hp, hyy, hA, hB⟩ := hrel
      have HY := hid hyy
      have hyb : (y : Int) ≤ 1048576 := by have := bulkF_le v.f p; omega
      clear hyy
      have mc := hA.cell
      have mz := hA.lt
      by_cases hpl : p < v.f.length
      · have hpl' : (p : Int) < v.f.length := by omega
        by_cases hym : (y : Int) ≤ most
        · obtain ⟨b, off, c, rfl, hbl, hnm, hcn, hc, hr⟩ := HF.out p v.f[p] (List.getElem?_eq_getElem hpl)
          have hr' := hr.later hB
          have hbr : b < wr.heap.size := Nat.lt_of_lt_of_le hbl hB.size
          obtain ⟨k1, n1, s1, a1, l1, c1, a2, l2, c2, rfl, g0, g1, g2, g3, g4⟩ := rep_cells hr' (hc.later hbl hB)
          have hcn' := (hB.cell (p := ⟨b, off + p * 6, none⟩) hbl).trans hcn
          have HR := hid hr'
          clear hr hr' hc hcn
          have tb := bulkF_step v.f p hpl
          have tl := bulkF_le v.f (p + 1)
          have tc := cntF_step v.f p hpl
          have hb0 : v.f[p].2.bulk ≤ 1048576 := by omega
          have hnb : (v.f[p].1.size : Int) ≤ 1048576 := by omega
          generalize v.f[p].1 = nm at *
          have TB := hid tb
          have TC := hid tc
          clear tb tc tl
          go_upto_block 3 with fail
          go_cut [5] from 33 to 62 (fun t wx => ∃ z1 : Nat, t = .int .i64 ((y + nm.size + z1 : Nat) : Int) ∧ (z1 ≤ v.f[p].2.bulk ∧ ((z1 : Int) ≤ most → v.f[p].2.bulk + 1 ≤ z1 + 2 * v.f[p].2.cnt)) ∧ BoxV wx w.heap.size v al (some ⟨b, off, none⟩) cl cf ∧ Below w.heap.size w wx)
          case first =>
            go_wp2_with fail
            go_region_with (go_at_call 31; refine (ih v.f[p].2 _ _ (HR.out.later (by go_grown)) hb0).mono ?_; rintro e w1 ⟨⟨z1, rfl, hz1, hz2⟩, hb1⟩; (have HZ1 := hid (And.intro hz1 hz2)); (have hz1b : (z1 : Int) ≤ 1048576 := by omega); clear hz1 hz2; have x1 := hb1.cell (p := ⟨b, off + p * 6, none⟩) hbr; have x2 := fun o => hb1.cell (p := ⟨w.heap.size, o, none⟩) mz)
            all_goals
              go_wp2_with fail
              go_meet
              case rel =>
                have e1 : IntKind.i64.wrap ((y : Int) + (nm.size : Int)) = (y : Int) + nm.size := IntWalk.i64_in _ (by omega)
                have e2 : IntKind.i64.wrap ((y : Int) + (nm.size : Int) + (z1 : Int)) = (y : Int) + nm.size + z1 := IntWalk.i64_in _ (by omega)
                exact ⟨z1, by first | (rw [e1, e2]; simp) | (simp [e1, e2]; done) | go_num, HZ1.out, hA.later (below_undrew hb1), hB.trans ((below_undrew hb1).mono hB.size)⟩
          case rest =>
            clear hA hB mc mz
            obtain ⟨z1, rfl, hz1, hA, hB⟩ := hcut
            have HZ1 := hid hz1
            have hz1b : (z1 : Int) ≤ 1048576 := by omega
            clear hz1
            go_wp2_with fail
            go_roundw
            case rel =>
              have a1 := HY.out; have a2 := HZ1.out; have a3 := TB.out; have a4 := TC.out
              refine ⟨p + 1, y + nm.size + z1, by go_num, rfl, by omega, ⟨by omega, fun hm => ?_⟩, hA, hB⟩
              have b1 := a1.2 (by omega); have b2 := a2.2 (by omega)
              omega
            case measure => simp [intOf]; omega
        · go_wp2_with fail
          go_ret
          have a1 := HY.out; have a3 := bulkF_le v.f p
          exact ⟨⟨y, rfl, by omega, fun hm => by omega⟩, hB⟩
      · have hpl' : ¬ (p : Int) < v.f.length := by omega
        go_wp2_with fail
        go_ret
        have a1 := HY.out
        rw [List.take_of_length_le (by omega)] at a1
        exact ⟨⟨y, rfl, by omega, fun hm => by have := a1.2 hm; omega⟩, hB⟩
theorem heavy_any (d : Nat) (most : Int) : ∀ (v : V) (cs : List Value) (w : World), RepN d w v cs → v.bulk ≤ 1048576 → Calls Tryz.prog 31 #[.agg cs.toArray, .int .i64 most] w fun e w' => (∃ z : Nat, e = .returned (.int .i64 (z : Int)) ∧ z ≤ v.bulk ∧ ((z : Int) ≤ most → v.bulk + 1 ≤ z + 2 * v.cnt)) ∧ Below w.heap.size w w' := by
  induction d with
  | zero => intro v cs w h; exact h.elim
  | succ d ih => exact fun v cs w h hb => heavy_step d most ih v cs w h hb
end Go.Proofs.YtddoigjjgcefkaaGreatDoor

/-
  The program's own text of a string: bytes behind bytes.
-/
namespace Go.Proofs.YtddoigjjgcefkaaGreatDoor
open Go.RowKit
set_option maxRecDepth 100000

theorem octal (c : UInt8) (h : c.toNat < 32 ∨ 126 < c.toNat) : ∃ o : Nat → UInt8, escS c = [92, o 0, o 1, o 2] ∧ ((o 0).toNat : Int) = 48 + (c.toNat : Int) / 64 ∧ ((o 1).toNat : Int) = 48 + (c.toNat : Int) / 8 % 8 ∧ ((o 2).toNat : Int) = 48 + (c.toNat : Int) % 8 := by
  have hc := c.toNat_lt
  have hne : ¬ (c = 40 ∨ c = 41 ∨ c = 92) := by
    rintro (h | h | h) <;> (subst h; simp at *)
  refine ⟨fun k => if k = 0 then UInt8.ofNat (48 + c.toNat / 64) else if k = 1 then UInt8.ofNat (48 + c.toNat / 8 % 8) else UInt8.ofNat (48 + c.toNat % 8), ?_, ?_, ?_, ?_⟩
  · unfold escS; rw [if_neg hne, if_neg (by omega)]; rfl
  · simp; omega
  · simp; omega
  · simp; omega
set_option maxHeartbeats 1000000 in
theorem addString_says (s : ByteArray) (B : Nat) (sv : Value) (xs : List UInt8) (w : World) (hs : s.size ≤ 100000) (hown : Own8 w B sv xs) (hB : B ≤ w.heap.size) (hlim : xs.length ≤ 100000000) :
    Calls Tryz.prog 58 #[sv, .string s] w fun e w' => ∃ v', e = .returned v' ∧ Own8 w' B v' (xs ++ strT s.data.toList) ∧ Kept8 B w w' := by
  go_enter Tryz.func58, Tryz.ntmps58
  go_wp2_with (at_builtin; refine wpApp8 rfl (.tmp 8) (.tmp 9) rfl B _ xs rfl hown _ [40] 1 1 rfl rfl rfl (by omega) hB ?_)
  intro v1 w1 hown1 hk1
  go_wp2
  go_loopw [0, 13] (fun t i wr => ∃ k : Nat, i = .int .i64 k ∧ k ≤ s.size ∧ Own8 wr B t (xs ++ 40 :: (s.data.toList.take k).flatMap escS) ∧ Kept8 B w wr) (fun _ i _ => s.size - (intOf i).toNat)
  case atStart => exact ⟨0, rfl, Nat.zero_le _, by simpa using hown1, hk1⟩
  case round =>
    clear hown1 hk1 hown
    obtain ⟨k, rfl, hk, hown, hb⟩ := hrel
    have hbs := hb.size
    have hfl2 : ((s.data.toList.take k).flatMap escS).length ≤ 400000 := by
      have hfl := flat_len (s.data.toList.take k)
      have : (s.data.toList.take k).length ≤ s.size := by simp; omega
      omega
    generalize hpre : (s.data.toList.take k).flatMap escS = pre at *
    have HPR := hid hpre
    clear hpre
    by_cases hlt : k < s.size
    · have HT := hid (take_snoc s k hlt)
      have hc256 := s[k].toNat_lt
      by_cases hp1 : (s[k].toNat : Int) < 32
      · obtain ⟨o, ho, q0, q1, q2⟩ := octal s[k] (by omega)
        have HE := hid ho
        clear ho
        go_wp2_with (at_builtin; refine wpApp8 rfl (.tmp 30) (.tmp 31) rfl B _ _ rfl hown _ [92] 1 1 rfl rfl rfl (by simp; omega) (by omega) ?_)
        intro v2 w2 hown2 hk2
        have hb2 := hb.trans hk2
        clear hown hk2 hb
        go_wp2
        go_loopw [0, 33] (fun t i wq => ∃ m : Nat, i = .int .i64 m ∧ m ≤ 3 ∧ Own8 wq B t (xs ++ 40 :: pre ++ 92 :: (List.range m).map o) ∧ Kept8 B w wq) (fun _ i _ => 3 - (intOf i).toNat)
        case atStart => exact ⟨0, rfl, by omega, by simpa using hown2, hb2⟩
        case round =>
          clear hown2 hb2 hbs
          obtain ⟨m, rfl, hm, hown, hb⟩ := hrel
          have hbs := hb.size
          rcases (by omega : m = 0 ∨ m = 1 ∨ m = 2 ∨ m = 3) with rfl | rfl | rfl | rfl
          · go_wp2_with (at_builtin; refine wpApp8 rfl (.tmp 36) (.tmp 44) rfl B _ _ rfl hown _ [o 0] 1 1 rfl rfl ?cc (by simp; omega) (by omega) ?_)
            case cc => exact one8 (by omega)
            intro v3 w3 hown3 hk3
            have hb3 := hb.trans hk3
            clear hown hk3 hb
            go_wp2
            go_roundw
            case rel => exact ⟨1, by go_num, by omega, by simpa [List.range_succ] using hown3, hb3⟩
            case measure => simp [intOf]
          · go_wp2_with (at_builtin; refine wpApp8 rfl (.tmp 36) (.tmp 44) rfl B _ _ rfl hown _ [o 1] 1 1 rfl rfl ?cc (by simp; omega) (by omega) ?_)
            case cc => exact one8 (by omega)
            intro v3 w3 hown3 hk3
            have hb3 := hb.trans hk3
            clear hown hk3 hb
            go_wp2
            go_roundw
            case rel => exact ⟨2, by go_num, by omega, by simpa [List.range_succ] using hown3, hb3⟩
            case measure => simp [intOf]
          · go_wp2_with (at_builtin; refine wpApp8 rfl (.tmp 36) (.tmp 44) rfl B _ _ rfl hown _ [o 2] 1 1 rfl rfl ?cc (by simp; omega) (by omega) ?_)
            case cc => exact one8 (by omega)
            intro v3 w3 hown3 hk3
            have hb3 := hb.trans hk3
            clear hown hk3 hb
            go_wp2
            go_roundw
            case rel => exact ⟨3, by go_num, by omega, by simpa [List.range_succ] using hown3, hb3⟩
            case measure => simp [intOf]
          · go_wp2
            go_roundw
            case rel =>
              refine ⟨k + 1, by go_num, by omega, ?_, hb⟩
              rw [HT.out, List.flatMap_append, HPR.out, List.flatMap_singleton, HE.out]
              simpa [List.range_succ] using hown
            case measure => simp [intOf]; omega
      by_cases hp2 : (126 : Int) < (s[k].toNat : Int)
      · obtain ⟨o, ho, q0, q1, q2⟩ := octal s[k] (by omega)
        have HE := hid ho
        clear ho
        go_wp2_with (at_builtin; refine wpApp8 rfl (.tmp 30) (.tmp 31) rfl B _ _ rfl hown _ [92] 1 1 rfl rfl rfl (by simp; omega) (by omega) ?_)
        intro v2 w2 hown2 hk2
        have hb2 := hb.trans hk2
        clear hown hk2 hb
        go_wp2
        go_loopw [0, 33] (fun t i wq => ∃ m : Nat, i = .int .i64 m ∧ m ≤ 3 ∧ Own8 wq B t (xs ++ 40 :: pre ++ 92 :: (List.range m).map o) ∧ Kept8 B w wq) (fun _ i _ => 3 - (intOf i).toNat)
        case atStart => exact ⟨0, rfl, by omega, by simpa using hown2, hb2⟩
        case round =>
          clear hown2 hb2 hbs
          obtain ⟨m, rfl, hm, hown, hb⟩ := hrel
          have hbs := hb.size
          rcases (by omega : m = 0 ∨ m = 1 ∨ m = 2 ∨ m = 3) with rfl | rfl | rfl | rfl
          · go_wp2_with (at_builtin; refine wpApp8 rfl (.tmp 36) (.tmp 44) rfl B _ _ rfl hown _ [o 0] 1 1 rfl rfl ?cc (by simp; omega) (by omega) ?_)
            case cc => exact one8 (by omega)
            intro v3 w3 hown3 hk3
            have hb3 := hb.trans hk3
            clear hown hk3 hb
            go_wp2
            go_roundw
            case rel => exact ⟨1, by go_num, by omega, by simpa [List.range_succ] using hown3, hb3⟩
            case measure => simp [intOf]
          · go_wp2_with (at_builtin; refine wpApp8 rfl (.tmp 36) (.tmp 44) rfl B _ _ rfl hown _ [o 1] 1 1 rfl rfl ?cc (by simp; omega) (by omega) ?_)
            case cc => exact one8 (by omega)
            intro v3 w3 hown3 hk3
            have hb3 := hb.trans hk3
            clear hown hk3 hb
            go_wp2
            go_roundw
            case rel => exact ⟨2, by go_num, by omega, by simpa [List.range_succ] using hown3, hb3⟩
            case measure => simp [intOf]
          · go_wp2_with (at_builtin; refine wpApp8 rfl (.tmp 36) (.tmp 44) rfl B _ _ rfl hown _ [o 2] 1 1 rfl rfl ?cc (by simp; omega) (by omega) ?_)
            case cc => exact one8 (by omega)
            intro v3 w3 hown3 hk3
            have hb3 := hb.trans hk3
            clear hown hk3 hb
            go_wp2
            go_roundw
            case rel => exact ⟨3, by go_num, by omega, by simpa [List.range_succ] using hown3, hb3⟩
            case measure => simp [intOf]
          · go_wp2
            go_roundw
            case rel =>
              refine ⟨k + 1, by go_num, by omega, ?_, hb⟩
              rw [HT.out, List.flatMap_append, HPR.out, List.flatMap_singleton, HE.out]
              simpa [List.range_succ] using hown
            case measure => simp [intOf]; omega
      by_cases h40 : (s[k].toNat : Int) = 40
      · have HE := hid (show escS s[k] = [92, 40] by rw [u8_of (k := 40) h40]; rfl)
        go_wp2_with (at_builtin; refine wpApp8 rfl (.tmp 58) (.tmp 60) rfl B _ _ rfl hown _ [92, 40] 2 2 rfl rfl rfl (by simp; omega) (by omega) ?_)
        intro v2 w2 hown2 hk2
        have hb2 := hb.trans hk2
        clear hown hk2 hb
        go_wp2
        go_roundw
        case rel =>
          refine ⟨k + 1, by go_num, by omega, ?_, hb2⟩
          rw [HT.out, List.flatMap_append, HPR.out, List.flatMap_singleton, HE.out]
          simpa using hown2
        case measure => simp [intOf]; omega
      by_cases h41 : (s[k].toNat : Int) = 41
      · have HE := hid (show escS s[k] = [92, 41] by rw [u8_of (k := 41) h41]; rfl)
        go_wp2_with (at_builtin; refine wpApp8 rfl (.tmp 58) (.tmp 60) rfl B _ _ rfl hown _ [92, 41] 2 2 rfl rfl rfl (by simp; omega) (by omega) ?_)
        intro v2 w2 hown2 hk2
        have hb2 := hb.trans hk2
        clear hown hk2 hb
        go_wp2
        go_roundw
        case rel =>
          refine ⟨k + 1, by go_num, by omega, ?_, hb2⟩
          rw [HT.out, List.flatMap_append, HPR.out, List.flatMap_singleton, HE.out]
          simpa using hown2
        case measure => simp [intOf]; omega
      by_cases h92 : (s[k].toNat : Int) = 92
      · have HE := hid (show escS s[k] = [92, 92] by rw [u8_of (k := 92) h92]; rfl)
        go_wp2_with (at_builtin; refine wpApp8 rfl (.tmp 58) (.tmp 60) rfl B _ _ rfl hown _ [92, 92] 2 2 rfl rfl rfl (by simp; omega) (by omega) ?_)
        intro v2 w2 hown2 hk2
        have hb2 := hb.trans hk2
        clear hown hk2 hb
        go_wp2
        go_roundw
        case rel =>
          refine ⟨k + 1, by go_num, by omega, ?_, hb2⟩
          rw [HT.out, List.flatMap_append, HPR.out, List.flatMap_singleton, HE.out]
          simpa using hown2
        case measure => simp [intOf]; omega
      have hne : ¬ (s[k] = 40 ∨ s[k] = 41 ∨ s[k] = 92) := by
        rintro (h | h | h)
        · exact h40 (by rw [h]; rfl)
        · exact h41 (by rw [h]; rfl)
        · exact h92 (by rw [h]; rfl)
      have HE := hid (show escS s[k] = [s[k]] by unfold escS; rw [if_neg hne, if_pos (by omega)])
      clear hne
      have b40 : ((s[k].toNat : Int) == 40) = false := by simpa using h40
      have b41 : ((s[k].toNat : Int) == 41) = false := by simpa using h41
      have b92 : ((s[k].toNat : Int) == 92) = false := by simpa using h92
      go_wp2_with (at_builtin; refine wpApp8 rfl (.tmp 19) (.tmp 21) rfl B _ _ rfl hown _ [s[k]] 1 1 rfl rfl rfl (by simp; omega) (by omega) ?_)
      intro v2 w2 hown2 hk2
      have hb2 := hb.trans hk2
      clear hown hk2 hb
      go_wp2
      go_roundw
      case rel =>
        refine ⟨k + 1, by go_num, by omega, ?_, hb2⟩
        rw [HT.out, List.flatMap_append, HPR.out, List.flatMap_singleton, HE.out]
        simpa using hown2
      case measure => simp [intOf]; omega
    · have hke : k = s.size := by omega
      have HPE := hid (show strT s.data.toList = 40 :: pre ++ [41] by have := HPR.out; rw [hke, List.take_of_length_le (by simp)] at this; unfold strT; rw [this])
      go_wp2_with (at_builtin; refine wpApp8 rfl (.tmp 63) (.tmp 64) rfl B _ _ rfl hown _ [41] 1 1 rfl rfl rfl (by simp; omega) (by omega) ?_)
      intro v2 w2 hown2 hk2
      have hb2 := hb.trans hk2
      clear hown hk2 hb
      go_wp2
      go_ret
      refine ⟨v2, rfl, ?_, hb2⟩
      rw [HPE.out]
      simpa using hown2
end Go.Proofs.YtddoigjjgcefkaaGreatDoor

/-
  The program's own text of a name.
-/
namespace Go.Proofs.YtddoigjjgcefkaaGreatDoor
open Go.RowKit
set_option maxRecDepth 100000
attribute [local go_sem ↓] Go.wp_at_zero Go.wp_at_succ

theorem hard_contains (c : UInt8) : [40, 41, 60, 62, 91, 93, 123, 125, 47, 37, 35].contains c = hardN c := by
  unfold hardN; rw [Bool.eq_iff_iff]; simp [or_assoc]
theorem indexByte_hard (c : UInt8) : (0 ≤ Lib.indexByte [40, 41, 60, 62, 91, 93, 123, 125, 47, 37, 35] c) ↔ hardN c = true := by
  rw [← hard_contains]
  have h := indexByte_neg [40, 41, 60, 62, 91, 93, 123, 125, 47, 37, 35] c
  cases hh : [40, 41, 60, 62, 91, 93, 123, 125, 47, 37, 35].contains c
  · rw [hh] at h
    have := h.2 rfl
    exact iff_of_false (by omega) (by simp)
  · rw [hh] at h
    exact iff_of_true (by have : ¬ Lib.indexByte [40, 41, 60, 62, 91, 93, 123, 125, 47, 37, 35] c < 0 := fun h' => by cases h.1 h'
                          omega) rfl
theorem and15 (c : UInt8) : bits .and .u8 (c.toNat : Int) 15 = (c.toNat : Int) % 16 := by
  have h : ∀ x : Fin 256, bits .and .u8 (x.1 : Int) 15 = (x.1 : Int) % 16 := by decide
  exact h ⟨c.toNat, c.toNat_lt⟩

set_option maxHeartbeats 1000000 in
theorem addName_says (s : ByteArray) (B : Nat) (sv : Value) (xs : List UInt8) (w : World) (hs : s.size ≤ 100000) (hown : Own8 w B sv xs) (hB : B ≤ w.heap.size) (hlim : xs.length ≤ 100000000) :
    Calls Tryz.prog 59 #[sv, .string s] w fun e w' => ∃ v', e = .returned v' ∧ Own8 w' B v' (xs ++ nameT s.data.toList) ∧ Grew sv w v' w' := by
  go_enter Tryz.func59, Tryz.ntmps59
  go_wp2_with (at_builtin; refine wpApp8g rfl (.tmp 7) (.tmp 8) rfl B _ xs rfl (hown.alloc _) w.heap.size [47] 1 1 rfl (0, 0) rfl _ rfl (heap_alloc_new _ _) (by omega) (by simp; omega) ?_)
  intro v1 w1 hown1 hk1
  replace hk1 := hk1.unalloc
  go_wp2
  go_loopw [0, 12] (fun t i wr => ∃ k : Nat, i = .int .i64 k ∧ k ≤ s.size ∧ Own8 wr B t (xs ++ 47 :: (s.data.toList.take k).flatMap escN) ∧ Grew sv w t wr) (fun _ i _ => s.size - (intOf i).toNat)
  case atStart => exact ⟨0, rfl, Nat.zero_le _, by simpa using hown1, hk1⟩
  case round =>
    clear hown1 hk1 hown
    obtain ⟨k, rfl, hk, hown, hb⟩ := hrel
    have hbs := hb.size
    have hfl2 : ((s.data.toList.take k).flatMap escN).length ≤ 400000 := by
      have hfl := flatN_len (s.data.toList.take k)
      have : (s.data.toList.take k).length ≤ s.size := by simp; omega
      omega
    generalize hpre : (s.data.toList.take k).flatMap escN = pre at *
    have HPR := hid hpre
    clear hpre
    by_cases hlt : k < s.size
    · have HT := hid (take_snoc s k hlt)
      have hc256 := s[k].toNat_lt
      have ex : ∃ a b : Nat, (s[k].toNat : Int) / 16 = a ∧ (s[k].toNat : Int) % 16 = b ∧ a < 16 ∧ b < 16 ∧ s[k].toNat / 16 = a ∧ s[k].toNat % 16 = b := ⟨s[k].toNat / 16, s[k].toNat % 16, by omega, by omega, by omega, by omega, rfl, rfl⟩
      obtain ⟨a, b, ea, eb, la, lb, na, nb⟩ := ex
      have HAB := hid (And.intro na nb)
      clear na nb
      have la' : (a : Int) < 16 := by omega
      have lb' : (b : Int) < 16 := by omega
      have h15 : bits .and .u8 (s[k].toNat : Int) 15 = (b : Int) := by rw [and15, eb]
      have HX := hid (indexByte_hard s[k])
      go_upto_region 6 with fail
      go_cut [5, 6, 28] from 18 to 28 (fun i c t wx => i = .int .i64 k ∧ c = .int .u8 (s[k].toNat : Int) ∧ t = .bool (!(decide (32 < s[k].toNat ∧ s[k].toNat < 127 ∧ hardN s[k] = false))) ∧ wx = wr)
      case first =>
        by_cases h33 : (s[k].toNat : Int) < 33
        · go_wp2_with fail
          go_meet
          exact ⟨rfl, rfl, congrArg Value.bool (by simp; omega), rfl⟩
        by_cases h126 : (126 : Int) < s[k].toNat
        · go_wp2_with fail
          go_meet
          exact ⟨rfl, rfl, congrArg Value.bool (by simp; omega), rfl⟩
        go_wp2_with (go_at_call 29; refine (Tryz.strings_IndexByte _ _ _).mono ?_; rintro e w1 ⟨rfl, rfl⟩)
        go_meet
        refine ⟨rfl, rfl, congrArg Value.bool ?_, rfl⟩
        have := HX.out
        rw [Bool.eq_iff_iff]
        simp only [decide_eq_true_eq, Bool.not_eq_true', decide_eq_false_iff_not]
        rw [this]
        cases hardN s[k]
        · exact iff_of_false (by simp) (fun h => h ⟨by omega, by omega, rfl⟩)
        · exact iff_of_true rfl (fun h => by cases h.2.2)
      case rest =>
        obtain ⟨rfl, rfl, rfl, rfl⟩ := hcut
        by_cases hp : 32 < s[k].toNat ∧ s[k].toNat < 127 ∧ hardN s[k] = false
        · have HE := hid (show escN s[k] = [s[k]] by unfold escN; rw [if_pos hp])
          have hd : decide (32 < s[k].toNat ∧ s[k].toNat < 127 ∧ hardN s[k] = false) = true := decide_eq_true hp
          clear hp
          rw [hd]
          go_wp2_with (at_builtin; refine wpApp8g rfl (.tmp 38) (.tmp 40) rfl B _ _ rfl (hown.alloc _) wc.heap.size [s[k]] 1 1 rfl (0, 0) rfl _ rfl (heap_alloc_new _ _) (by simp; omega) (by simp; omega) ?_)
          intro v2 w2 hown2 hk2
          have hb2 := hb.trans hk2.unalloc
          clear hown hk2 hb
          go_wp2
          go_roundw
          case rel =>
            refine ⟨k + 1, by go_num, by omega, ?_, hb2⟩
            rw [HT.out, List.flatMap_append, HPR.out, List.flatMap_singleton, HE.out]
            simpa using hown2
          case measure => simp [intOf]; omega
        · have HE := hid (show escN s[k] = [35, hexD a, hexD b] by unfold escN; rw [if_neg hp, HAB.out.1, HAB.out.2])
          have hd : decide (32 < s[k].toNat ∧ s[k].toNat < 127 ∧ hardN s[k] = false) = false := decide_eq_false hp
          clear hp
          rw [hd]
          go_wp2_with fail
          go_region_law ((refine stepApp8g (by rfl) (.tmp 29) (.tmp 36) (by rfl) B _ (xs ++ 47 :: pre) (by rfl) (by exact hown.alloc _) wc.heap.size [35, hexD a, hexD b] 3 3 (by rfl) (0, 0) (by rfl) _ (by rw [← hexD_tbl a la, ← hexD_tbl b lb]) (by exact heap_alloc_new _ _) (by simp; omega) (by simp; omega) ?_; intro v2 w2 hown2 hk2))
          all_goals
            have hb2 := hb.trans hk2.undrew.unalloc
            clear hown hk2 hb
            go_wp2
            go_roundw
            case rel =>
              refine ⟨k + 1, by go_num, by omega, ?_, hb2⟩
              rw [HT.out, List.flatMap_append, HPR.out, List.flatMap_singleton, HE.out]
              simpa using hown2
            case measure => simp [intOf]; omega
    · have hke : k = s.size := by omega
      have HPE := hid (show nameT s.data.toList = 47 :: pre by have := HPR.out; rw [hke, List.take_of_length_le (by simp)] at this; unfold nameT; rw [this])
      go_wp2
      go_ret
      refine ⟨_, rfl, ?_, hb⟩
      rw [HPE.out]
      exact hown
end Go.Proofs.YtddoigjjgcefkaaGreatDoor
